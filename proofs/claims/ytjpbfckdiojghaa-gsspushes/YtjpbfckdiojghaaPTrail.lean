/- Stacks: the program's trail: how far links lead back. -/
import Derived.Test.YtjpbfckdiojghaaPBack
namespace Go.Proofs.Ytjpbfckdiojghaa
open Go.RowKit

/-- The rows behind a node. -/
def tailsN (l : List Gn) : Nat → Int → List (List Int)
  | 0, _ => [[]]
  | n + 1, k => (lksAt l k).flatMap fun j => (tailsN l n j).map (j :: ·)
def goP (l : List Gn) : Nat → Int → Prop
  | 0, _ => True
  | n + 1, k => ∃ j ∈ lksAt l k, goP l n j
theorem goP_tails {l : List Gn} : ∀ {n : Nat} {k : Int}, goP l n k ↔ tailsN l n k ≠ []
  | 0, k => by simp [goP, tailsN]
  | n + 1, k => by
    rw [goP, tailsN]
    constructor
    · rintro ⟨j, hj, h⟩ e
      have := List.flatMap_eq_nil_iff.1 e j hj
      rw [List.map_eq_nil_iff] at this
      exact goP_tails.1 h this
    · intro h
      by_cases hx : ∃ j ∈ lksAt l k, goP l n j
      · exact hx
      · refine absurd (List.flatMap_eq_nil_iff.2 (fun j hj => ?_)) h
        rw [List.map_eq_nil_iff]
        by_cases ht : tailsN l n j = []
        · exact ht
        · exact absurd ⟨j, hj, goP_tails.2 ht⟩ hx
theorem goP_less {l : List Gn} : ∀ {n : Nat} {k : Int}, goP l (n + 1) k → goP l n k
  | 0, _, _ => trivial
  | _ + 1, _, ⟨j, hj, h⟩ => ⟨j, hj, goP_less h⟩
theorem goP_le {l : List Gn} {m n : Nat} {k : Int} (h : goP l n k) (hm : m ≤ n) : goP l m k := by
  obtain ⟨d, rfl⟩ : ∃ d, n = m + d := ⟨n - m, by omega⟩
  clear hm
  induction d with
  | zero => exact h
  | succ d ih => exact ih (goP_less h)
/-- How far each node leads back, at most r links. -/
structure FarP (l : List Gn) (F : List Int) (i r : Nat) : Prop where
  len : F.length = l.length
  done : ∀ k (hk : k < F.length), k < i → (0 ≤ F[k] ∧ F[k] ≤ r + 1 ∧ ∀ m : Nat, m ≤ r + 1 → ((m : Int) ≤ F[k] ↔ goP l m k))
  left : ∀ k (hk : k < F.length), i ≤ k → (0 ≤ F[k] ∧ F[k] ≤ r ∧ ∀ m : Nat, m ≤ r → ((m : Int) ≤ F[k] ↔ goP l m k))
theorem FarP.start (l : List Gn) : FarP l (List.replicate l.length 0) 0 0 := ⟨by simp, fun k hk h => by omega, fun k hk _ => ⟨by simp, by simp, fun m hm => by
  rcases Nat.le_zero.1 hm with rfl
  simp [goP]⟩⟩
theorem FarP.turn {l : List Gn} {F : List Int} {r : Nat} (h : FarP l F l.length r) : FarP l F 0 (r + 1) := ⟨h.len, fun k hk h' => by omega, fun k hk _ => by have := h.done k hk (by rw [← h.len]; exact hk); simpa using this⟩
theorem FarP.at_ {l : List Gn} {F : List Int} {i r : Nat} (h : FarP l F i r) (k : Nat) (hk : k < F.length) : (r : Int) ≤ F[k] ↔ goP l r k := by
  rcases Nat.lt_or_ge k i with h1 | h1
  · exact (h.done k hk h1).2.2 r (by omega)
  · exact (h.left k hk h1).2.2 r (by omega)
theorem FarP.yes {l : List Gn} {F : List Int} {i r : Nat} (h : FarP l F i r) (hi : i < F.length) (hg : goP l (r + 1) i) : F[i] = r ∧ FarP l (F.set i (F[i] + 1)) (i + 1) r := by
  have h1 := h.left i hi (Nat.le_refl _)
  have h2 : (r : Int) ≤ F[i] := (h1.2.2 r (Nat.le_refl _)).2 (goP_less hg)
  have h3 : F[i] = r := by omega
  refine ⟨h3, by simpa using h.len, fun k hk hki => ?_, fun k hk hki => ?_⟩
  · simp only [List.length_set] at hk
    rw [List.getElem_set]
    by_cases e : i = k
    · subst e
      rw [if_pos rfl, h3]
      exact ⟨by omega, by omega, fun m hm => ⟨fun _ => goP_le hg hm, fun _ => by omega⟩⟩
    · rw [if_neg e]
      exact h.done k hk (by omega)
  · simp only [List.length_set] at hk
    rw [List.getElem_set, if_neg (by omega)]
    exact h.left k hk (by omega)
theorem FarP.no {l : List Gn} {F : List Int} {i r : Nat} (h : FarP l F i r) (hg : ¬ goP l (r + 1) i) : FarP l F (i + 1) r := by
  refine ⟨h.len, fun k hk hki => ?_, fun k hk hki => h.left k hk (by omega)⟩
  by_cases e : k = i
  · subst e
    have h1 := h.left k hk (Nat.le_refl _)
    refine ⟨h1.1, by omega, fun m hm => ?_⟩
    rcases Nat.lt_or_ge m (r + 1) with h' | h'
    · exact h1.2.2 m (by omega)
    · obtain rfl : m = r + 1 := by omega
      exact ⟨fun h2 => by omega, fun h2 => absurd h2 hg⟩
  · exact h.done k hk (by omega)

def leadsF (F : List Int) (x r : Int) : Bool := decide (r ≤ F.getD x.toNat 0)
set_option maxRecDepth 100000 in
set_option maxHeartbeats 800000 in
theorem leads_any (l : List Gn) (F : List Int) (la : Option Addr) (lc : Nat) (fv : Value) (x r : Int) (w : World) (hF : SlI F fv w) (hFl : F.length = l.length) (hx : 0 ≤ x ∧ x < l.length) (_hlen : l.length ≤ 4096) :
    Calls Try.prog 55 #[.agg #[.slice la l.length lc, fv], .int .i64 x, .int .i64 r] w fun e w' => e = .returned (.bool (leadsF F x r)) ∧ Below w.heap.size w w' := by
  have hb : hasB l x = true := by unfold hasB; simpa using hx
  have B0 : Below w.heap.size w (w.alloc (Obj.cells #[.slice la l.length lc, fv] 65)) := (Below.refl _ _).alloc (Nat.le_refl _) _
  have B1 : Below w.heap.size w ((w.alloc (Obj.cells #[.slice la l.length lc, fv] 65)).alloc (Obj.cells #[.slice la l.length lc] 24)) := B0.alloc (by simp) _
  have HC := has_any la l lc x (w.alloc (Obj.cells #[.slice la l.length lc, fv] 65))
  rw [hb] at HC
  have hF2 := hF.next B1
  obtain ⟨fa, fc, rfl, _⟩ := hF
  obtain ⟨_, _, e0, hr, _⟩ := hF2
  cases e0
  obtain ⟨j, rfl⟩ : ∃ j : Nat, x = j := ⟨x.toNat, by omega⟩
  have hj : j < F.length := by omega
  obtain ⟨b3, o3, rfl, hb3, p3⟩ := hr.at (Below.refl _ _) hj
  have HV : Hid (leadsF F j r = decide (F[j] ≥ r)) := by
    show _ = _
    unfold leadsF
    rw [Int.toNat_natCast, List.getD_eq_getElem?_getD, List.getElem?_eq_getElem hj]
    rfl
  simp only [encI] at p3
  generalize F[j] = fj at *
  have t0 : ((w.alloc (Obj.cells #[.slice la l.length lc, .slice (some ⟨b3, o3, none⟩) F.length fc] 65)).alloc (Obj.cells #[.slice la l.length lc] 24)).cell? ⟨w.heap.size, 1, none⟩ = some (.slice (some ⟨b3, o3, none⟩) F.length fc) := cell_new (by simp)
  clear hr hFl hx
  go_enter Try.func55, Try.ntmps55
  go_wp2_with fail
  refine HC.mono ?_
  rintro e w1 ⟨rfl, rfl⟩
  clear HC
  generalize (w.alloc (Obj.cells #[.slice la l.length lc, .slice (some ⟨b3, o3, none⟩) F.length fc] 65)).alloc (Obj.cells #[.slice la l.length lc] 24) = w1 at *
  go_wp2_with fail
  go_ret
  exact ⟨by rw [HV.out]; rfl, B1⟩
set_option maxRecDepth 100000 in
set_option maxHeartbeats 800000 in
theorem trailC_any (l : List Gn) (F : List Int) (la : Option Addr) (lc : Nat) (fv : Value) (x r : Int) (tb rb : Nat) (w : World) (hF : SlI F fv w) (hFl : F.length = l.length) (hx : 0 ≤ x ∧ x < l.length) (hlen : l.length ≤ 4096)
    (t0 : w.cell? ⟨tb, 0, none⟩ = some (.slice la l.length lc)) (t1 : w.cell? ⟨tb, 1, none⟩ = some fv) (r0 : w.cell? ⟨rb, 0, none⟩ = some (.int .i64 r)) :
    Calls Try.prog 54 #[.int .i64 x, .pointer (some ⟨tb, 0, none⟩), .pointer (some ⟨rb, 0, none⟩)] w fun e w' => e = .returned (.bool (leadsF F x r)) ∧ Below w.heap.size w w' := by
  have HC := leads_any l F la lc fv x r w hF hFl hx hlen
  obtain ⟨fa, fc, rfl, _⟩ := hF
  generalize leadsF F x r = lf at *
  clear hFl hx
  go_enter Try.func54, Try.ntmps54
  go_wp2_with fail
  refine HC.mono ?_
  rintro e w1 ⟨rfl, hb⟩
  clear HC
  go_wp2_with fail
  go_ret
  exact ⟨rfl, hb⟩
set_option maxRecDepth 100000 in
set_option maxHeartbeats 1600000 in
theorem indexF_any (l : List Gn) (F xs : List Int) (la : Option Addr) (lc : Nat) (fv xv : Value) (r : Int) (tb rb : Nat) (w : World) (hF : SlI F fv w) (hx : SlI xs xv w) (hFl : F.length = l.length) (hxi : InL l.length xs) (hlen : l.length ≤ 4096) (hxl : xs.length ≤ 1000000)
    (t0 : w.cell? ⟨tb, 0, none⟩ = some (.slice la l.length lc)) (t1 : w.cell? ⟨tb, 1, none⟩ = some fv) (r0 : w.cell? ⟨rb, 0, none⟩ = some (.int .i64 r)) :
    Calls Try.prog 68 #[xv, .func (.func 54) #[] #[.pointer (some ⟨tb, 0, none⟩), .pointer (some ⟨rb, 0, none⟩)]] w fun e w' => ∃ z : Int, e = .returned (.int .i64 z) ∧ (0 ≤ z ↔ ∃ x ∈ xs, leadsF F x r = true) ∧ Below w.heap.size w w' := by
  have HC : Hid (∀ W, Below w.heap.size w W → ∀ x ∈ xs, Calls Try.prog 54 #[.int .i64 x, .pointer (some ⟨tb, 0, none⟩), .pointer (some ⟨rb, 0, none⟩)] W fun e w' => e = .returned (.bool (leadsF F x r)) ∧ Below W.heap.size W w') := fun W hW x hx' => trailC_any l F la lc fv x r tb rb W (hF.next hW) hFl (hxi x hx') hlen ((hW.cell (p := ⟨tb, 0, none⟩) (World.block_lt_of_cell? _ _ t0)).trans t0) ((hW.cell (p := ⟨tb, 1, none⟩) (World.block_lt_of_cell? _ _ t1)).trans t1) ((hW.cell (p := ⟨rb, 0, none⟩) (World.block_lt_of_cell? _ _ r0)).trans r0)
  have HX : Hid (∀ W, Below w.heap.size w W → SlI xs xv W) := fun W hW => hx.next hW
  clear hF hFl hxi t0 t1 r0
  obtain ⟨xa, xc, rfl, _⟩ := hx
  go_enter Try.func68, Try.ntmps68
  go_wp2_with fail
  go_loopw [8] (fun iv wr => ∃ (i : Nat), iv = .int .i64 i ∧ i ≤ xs.length ∧ Hid (∀ x ∈ xs.take i, leadsF F x r = false) ∧ Below w.heap.size w wr) (fun i _ => xs.length - (intOf i).toNat)
  case atStart => exact ⟨0, rfl, Nat.zero_le _, fun x hx => by simp at hx, Below.refl _ _⟩
  case round =>
  obtain ⟨i, rfl, hi, HNO, BR⟩ := hrel
  obtain ⟨_, _, e0, hxr, _⟩ := HX.out wr BR
  cases e0
  by_cases hlt : i < xs.length
  case neg =>
    obtain rfl : i = xs.length := by omega
    have HV : Hid (¬ ∃ x ∈ xs, leadsF F x r = true) := by
      rintro ⟨x, hx, h⟩
      rw [HNO.out x (by rw [List.take_length]; exact hx)] at h
      cases h
    clear HC HX hxr HNO
    go_wp2_with fail
    go_ret
    exact ⟨-1, rfl, ⟨fun h => by omega, fun h => absurd h HV.out⟩, BR⟩
  obtain ⟨b3, o3, rfl, hb3, p3⟩ := hxr.at (Below.refl _ _) hlt
  have HCX := HC.out wr BR xs[i] (List.getElem_mem hlt)
  have HTK : Hid (xs.take (i + 1) = xs.take i ++ [xs[i]] ∧ xs[i] ∈ xs) := ⟨List.take_succ_eq_append_getElem hlt, List.getElem_mem hlt⟩
  simp only [encI] at p3
  generalize xs[i] = y at *
  clear hxr HC HX
  cases hld : leadsF F y r with
  | true =>
    have HV : Hid (∃ x ∈ xs, leadsF F x r = true) := ⟨y, HTK.out.2, hld⟩
    rw [hld] at HCX
    clear HNO HTK
    go_wp2_with fail
    refine HCX.mono ?_
    rintro e w1 ⟨rfl, hb⟩
    have HB : Hid (Below w.heap.size w w1) := BR.trans (hb.mono BR.size)
    clear HCX hb
    go_wp2_with fail
    go_ret
    exact ⟨(i : Int), rfl, ⟨fun _ => HV.out, fun _ => by omega⟩, HB.out⟩
  | false =>
    have HN2 : Hid (∀ x ∈ xs.take (i + 1), leadsF F x r = false) := fun x hx => by
      rw [HTK.out.1] at hx
      rcases List.mem_append.1 hx with hx | hx
      · exact HNO.out x hx
      · simp at hx; subst hx; exact hld
    rw [hld] at HCX
    clear HNO HTK
    go_wp2_with fail
    refine HCX.mono ?_
    rintro e w1 ⟨rfl, hb⟩
    have HB : Hid (Below w.heap.size w w1) := BR.trans (hb.mono BR.size)
    clear HCX hb
    go_wp2_with fail
    exact ⟨⟨i + 1, by go_num, by omega, HN2, HB.out⟩, by simp [intOf]; omega⟩
set_option maxRecDepth 100000 in
set_option maxHeartbeats 800000 in
theorem containsF_any (l : List Gn) (F xs : List Int) (la : Option Addr) (lc : Nat) (fv xv : Value) (r : Int) (tb rb : Nat) (w : World) (hF : SlI F fv w) (hx : SlI xs xv w) (hFl : F.length = l.length) (hxi : InL l.length xs) (hlen : l.length ≤ 4096) (hxl : xs.length ≤ 1000000)
    (t0 : w.cell? ⟨tb, 0, none⟩ = some (.slice la l.length lc)) (t1 : w.cell? ⟨tb, 1, none⟩ = some fv) (r0 : w.cell? ⟨rb, 0, none⟩ = some (.int .i64 r)) :
    Calls Try.prog 53 #[xv, .func (.func 54) #[] #[.pointer (some ⟨tb, 0, none⟩), .pointer (some ⟨rb, 0, none⟩)]] w fun e w' => ∃ b : Bool, e = .returned (.bool b) ∧ (b = true ↔ ∃ x ∈ xs, leadsF F x r = true) ∧ Below w.heap.size w w' := by
  have HC := indexF_any l F xs la lc fv xv r tb rb w hF hx hFl hxi hlen hxl t0 t1 r0
  obtain ⟨xa, xc, rfl, _⟩ := hx
  clear hFl hxi t0 t1 r0 hF
  go_enter Try.func53, Try.ntmps53
  go_wp2_with fail
  refine HC.mono ?_
  rintro e w1 ⟨z, rfl, hz, hb⟩
  have HZ : Hid (0 ≤ z ↔ ∃ x ∈ xs, leadsF F x r = true) := hz
  clear HC hz
  go_wp2_with fail
  go_ret
  exact ⟨decide (z ≥ 0), rfl, by rw [decide_eq_true_eq]; exact HZ.out, hb⟩
set_option maxRecDepth 100000 in
set_option maxHeartbeats 3200000 in
theorem trailOf_any (l : List Gn) (v : Value) (n : Nat) (w : World) (hl : SlN l v w) (hf : fitP l) (hn : n ≤ 64) :
    Calls Try.prog 34 #[.agg #[v], .int .i64 n] w fun e w' => ∃ fv F, e = .returned (.agg #[v, fv]) ∧ FarP l F 0 n ∧ SlI F fv w' ∧ (∀ k, fv.ownBlock = some k → w.heap.size ≤ k) ∧ Below w.heap.size w w' := by
  have HL : Hid (∀ W, Below w.heap.size w W → SlN l v W) := fun W hb => hl.next hb
  have HFT : Hid (fitP l) := hf
  have hlen := hf.1
  clear hf
  obtain ⟨ii, hii, hz0, hz1, hz2⟩ := info_parts info3
  obtain ⟨la, lc, rfl, hgn, _⟩ := hl
  have B0 : Below w.heap.size w ((w.alloc (Obj.cells #[.slice la l.length lc] 24)).alloc (Obj.cells #[.slice none 0 0, .slice none 0 0] 65)) := ((Below.refl _ _).alloc (Nat.le_refl _) _).alloc (by simp) _
  have k0 : ((w.alloc (Obj.cells #[.slice la l.length lc] 24)).alloc (Obj.cells #[.slice none 0 0, .slice none 0 0] 65)).heap[w.heap.size]? = some (Obj.cells #[.slice la l.length lc] 24) := blk_new (heap_alloc_new _ _)
  have k1 : ((w.alloc (Obj.cells #[.slice la l.length lc] 24)).alloc (Obj.cells #[.slice none 0 0, .slice none 0 0] 65)).heap[w.heap.size + 1]? = some (Obj.cells #[.slice none 0 0, .slice none 0 0] 65) := by simpa using heap_alloc_new (w.alloc (Obj.cells #[.slice la l.length lc] 24)) (Obj.cells #[.slice none 0 0, .slice none 0 0] 65)
  go_enter Try.func34, Try.ntmps34
  go_upto_region 1 with fail
  generalize ((w.alloc (Obj.cells #[.slice la l.length lc] 24)).alloc (Obj.cells #[.slice none 0 0, .slice none 0 0] 65)) = w0 at *
  have c0 : w0.cell? ⟨w.heap.size, 0, none⟩ = some (.slice la l.length lc) := by rw [Lib.cell_of_heap k0]; rfl
  go_cut [5] from 5 to 14 (fun t5 w2 => ∃ tb fb, t5 = .pointer (some ⟨tb, 0, none⟩) ∧ Hid (w2.heap[tb]? = some (Obj.cells #[.slice la l.length lc, .slice (some ⟨fb, 0, none⟩) l.length l.length] 65) ∧ OwnI w0.heap.size (List.replicate l.length 0) (.slice (some ⟨fb, 0, none⟩) l.length l.length) w2 ∧ w0.heap.size ≤ tb ∧ Below w0.heap.size w0 w2))
  case first =>
    have HS : (w0.drew.cell? ⟨w.heap.size, 0, none⟩ = some (.slice la l.length lc)) := c0
    have hmb : ii.bytes * l.length ≤ 281474976710656 := by rw [hz2]; omega
    have hmk : ∀ W : World, w0.heap.size ≤ W.heap.size → ∃ w', (Instr.makeSlice 33 (.int .i64 (l.length : Int)) (.int .i64 (l.length : Int))).run Try.prog W = .ok (.slice (some ⟨W.heap.size, 0, none⟩) l.length l.length) w' ∧ w'.ownsRow w0.heap.size 3 1 (.slice (some ⟨W.heap.size, 0, none⟩) l.length l.length) l.length (madeCells (Value.int .i64 0).cells (l.length * 1)).toList ∧ W.grownBy w' none := fun W hW => run_makeSlice_full W w0.heap.size 33 3 ii _ 1 Try.underlying33 hii hz0 hz1 .i64 .i64 l.length (by omega) hmb (by unfold maxLen; omega) hW
    obtain ⟨wm, hm1, hm2, hm3⟩ := hmk w0.drew (Nat.le_refl _)
    obtain ⟨wn, hn1, hn2, hn3⟩ := hmk (w0.alloc (Obj.cells #[.slice none 0 0, .slice none 0 0] 65)).drew (by simp)
    refine wp_region_L (fun W => W.cell? ⟨w.heap.size, 0, none⟩ = some (.slice la l.length lc)) 8 (by kernel_rfl) 8 rfl ?_
    refine wpAnyL_take' (i := 0) (v := ?_) (oi := { dst := some 9, op := Op.load 24 (Operand.tmp 2), type := 24, pos := "rows.go:45", after := #[], guard := none }) rfl (by kernel_rfl) (by kernel_rfl) (by kernel_rfl) (by kernel_rfl) rfl (fun _ _ _ h => h) (Or.inl ⟨by rfl, ?_⟩) HS ?_
    rotate_left
    · intro W hSW
      go_simp
      try with_reducible rfl
    simp only [Act.put, List.setIfInBounds_toArray, List.set_cons_zero, List.set_cons_succ]
    refine wpAnyL_take' (i := 1) (v := ?_) (oi := { dst := some 10, op := Op.fieldAddr 24 (Operand.tmp 2) 0, type := 0, pos := "rows.go:45", after := #[], guard := none }) rfl (by kernel_rfl) (by kernel_rfl) (by kernel_rfl) (by kernel_rfl) rfl (fun _ _ _ h => h) (Or.inl ⟨by rfl, ?_⟩) HS ?_
    rotate_left
    · intro W hSW
      go_simp
      try with_reducible rfl
    simp only [Act.put, List.setIfInBounds_toArray, List.set_cons_zero, List.set_cons_succ]
    refine wpAnyL_take' (i := 2) (v := ?_) (oi := { dst := some 11, op := Op.load 22 (Operand.tmp 10), type := 22, pos := "rows.go:45", after := #[{ on := 1, ground := Ground.data }], guard := none }) rfl (by kernel_rfl) (by kernel_rfl) (by kernel_rfl) (by kernel_rfl) rfl (fun _ _ _ h => h) (Or.inl ⟨by rfl, ?_⟩) HS ?_
    rotate_left
    · intro W hSW
      go_simp
      try with_reducible rfl
    simp only [Act.put, List.setIfInBounds_toArray, List.set_cons_zero, List.set_cons_succ]
    refine wpAnyL_take' (i := 3) (v := ?_) (oi := { dst := some 12, op := Op.call { callee := Callee.builtin Builtin.len, args := #[Operand.tmp 11], argTypes := #[22] }, type := 3, pos := "rows.go:45", after := #[{ on := 2, ground := Ground.data }], guard := none }) rfl (by kernel_rfl) (by kernel_rfl) (by kernel_rfl) (by kernel_rfl) rfl (fun _ _ _ h => h) (Or.inl ⟨by rfl, ?_⟩) HS ?_
    rotate_left
    · intro W hSW
      go_simp
      try with_reducible rfl
    simp only [Act.put, List.setIfInBounds_toArray, List.set_cons_zero, List.set_cons_succ]
    refine wpAnyL_two (i := 4) (j := 6) (oi := { dst := some 13, op := Op.makeSlice 33 (Operand.tmp 12) (Operand.tmp 12), type := 33, pos := "rows.go:45", after := #[{ on := 3, ground := Ground.data }, { on := 3, ground := Ground.data }], guard := none }) (oj := { dst := some 5, op := Op.alloc 65, type := 0, pos := "rows.go:45", after := #[], guard := none }) (by kernel_rfl) rfl rfl rfl rfl (fun K hK => ?_) (fun K hK => ?_)
    · go_simp
      have HSm : wm.cell? ⟨w.heap.size, 0, none⟩ = some (.slice la l.length lc) := (World.cell?_of_block (hm3.block _ (blk_lt k0) (fun e => by cases e))).trans c0
      refine hK.out _ _ (fun _ => HSm) ?_
      clear hK
      try simp only [Act.put, List.setIfInBounds_toArray, List.set_cons_zero, List.set_cons_succ]
      refine wpAnyL_take' (i := 5) (v := ?_) (oi := { dst := some 14, op := Op.build 65 #[(0, Operand.tmp 9), (1, Operand.tmp 13)], type := 65, pos := "rows.go:45", after := #[{ on := 0, ground := Ground.data }, { on := 4, ground := Ground.data }], guard := none }) rfl (by kernel_rfl) (by kernel_rfl) (by kernel_rfl) (by kernel_rfl) rfl (fun _ _ _ h => h) (Or.inl ⟨by rfl, ?_⟩) HSm ?_
      rotate_left
      · intro W hSW
        go_simp
        try with_reducible rfl
      simp only [Act.put, List.setIfInBounds_toArray, List.set_cons_zero, List.set_cons_succ]
      refine wpAnyL_one' (i := 6) (o := { dst := some 5, op := Op.alloc 65, type := 0, pos := "rows.go:45", after := #[], guard := none }) (by kernel_rfl) rfl rfl (fun K hK => ?_)
      go_simp
      refine hK.out _ _ (fun _ => cell_new HSm) ?_
      clear hK
      try simp only [Act.put, List.setIfInBounds_toArray, List.set_cons_zero, List.set_cons_succ]
      refine wpAnyL_one' (i := 7) (o := { dst := none, op := Op.store 65 (Operand.tmp 5) (Operand.tmp 14), type := 0, pos := "rows.go:45", after := #[{ on := 6, ground := Ground.data }, { on := 5, ground := Ground.data }, { on := 0, ground := Ground.phase }, { on := 1, ground := Ground.phase }, { on := 2, ground := Ground.phase }, { on := 3, ground := Ground.phase }, { on := 4, ground := Ground.phase }, { on := 5, ground := Ground.phase }, { on := 6, ground := Ground.phase }], guard := none }) (by kernel_rfl) rfl rfl (fun K hK => ?_)
      go_simp
      refine hK.out _ _ (fun _ => cell_new HSm) ?_
      clear hK
      try simp only [Act.put, List.setIfInBounds_toArray, List.set_cons_zero, List.set_cons_succ]
      refine wpAnyL_done (by kernel_rfl) ?_ _
      have e1 : wm.ownsRow w0.heap.size 3 1 (.slice (some ⟨w0.heap.size, 0, none⟩) l.length l.length) l.length ((List.replicate l.length (0 : Int)).map encI) := by
        have h1 : (madeCells (Value.int .i64 0).cells (l.length * 1)).toList = List.replicate l.length (encI 0) := by rw [Nat.mul_one]; exact toList_madeCells_one _ _
        rw [List.map_replicate, ← h1]
        exact hm2
      have BM : Below w0.heap.size w0 wm := ⟨hm3.os, hm3.tape, hm3.output, hm3.size, fun k hk => hm3.block k hk (fun e => by cases e)⟩
      go_wp2_with fail
      go_meet
      refine ⟨wm.heap.size, w0.heap.size, rfl, heap_alloc_new _ _, ?_, BM.size, BM.alloc BM.size _⟩
      unfold OwnI
      rw [List.length_replicate]
      exact World.ownsRow.alloc e1 _
    · go_simp
      refine hK.out _ _ (fun _ => cell_new c0) ?_
      clear hK
      try simp only [Act.put, List.setIfInBounds_toArray, List.set_cons_zero, List.set_cons_succ]
      have HSn : wn.cell? ⟨w.heap.size, 0, none⟩ = some (.slice la l.length lc) := (World.cell?_of_block (hn3.block _ (by have := blk_lt k0; simp; omega) (fun e => by cases e))).trans (cell_new c0)
      refine wpAnyL_one' (i := 4) (o := { dst := some 13, op := Op.makeSlice 33 (Operand.tmp 12) (Operand.tmp 12), type := 33, pos := "rows.go:45", after := #[{ on := 3, ground := Ground.data }, { on := 3, ground := Ground.data }], guard := none }) (by kernel_rfl) rfl rfl (fun K hK => ?_)
      go_simp
      refine hK.out _ _ (fun _ => HSn) ?_
      clear hK
      try simp only [Act.put, List.setIfInBounds_toArray, List.set_cons_zero, List.set_cons_succ]
      refine wpAnyL_take' (i := 5) (v := ?_) (oi := { dst := some 14, op := Op.build 65 #[(0, Operand.tmp 9), (1, Operand.tmp 13)], type := 65, pos := "rows.go:45", after := #[{ on := 0, ground := Ground.data }, { on := 4, ground := Ground.data }], guard := none }) rfl (by kernel_rfl) (by kernel_rfl) (by kernel_rfl) (by kernel_rfl) rfl (fun _ _ _ h => h) (Or.inl ⟨by rfl, ?_⟩) HSn ?_
      rotate_left
      · intro W hSW
        go_simp
        try with_reducible rfl
      simp only [Act.put, List.setIfInBounds_toArray, List.set_cons_zero, List.set_cons_succ]
      have g2 : wn.heap[w0.heap.size]? = some (Obj.cells #[.slice none 0 0, .slice none 0 0] 65) := (hn3.block _ (by simp) (fun e => by cases e)).trans (heap_alloc_new w0 _)
      have gc0 : wn.cell? ⟨w0.heap.size, 0, none⟩ = some (.slice none 0 0) := by rw [Lib.cell_of_heap g2]; rfl
      have gc1 : wn.cell? ⟨w0.heap.size, 1, none⟩ = some (.slice none 0 0) := by rw [Lib.cell_of_heap g2]; rfl
      have gf0 : wn.frozen? ⟨w0.heap.size, 0, none⟩ = false := Lib.frozen_of_heap g2 _
      have gf1 : wn.frozen? ⟨w0.heap.size, 1, none⟩ = false := Lib.frozen_of_heap g2 _
      have BN : Below w0.heap.size w0 wn := by
        have h0 : Below w0.heap.size w0 (w0.alloc (Obj.cells #[.slice none 0 0, .slice none 0 0] 65)).drew := below_drewN ((Below.refl _ _).alloc (Nat.le_refl _) _) 1
        exact h0.trans ((⟨hn3.os, hn3.tape, hn3.output, hn3.size, fun k hk => hn3.block k hk (fun e => by cases e)⟩ : Below _ _ wn).mono h0.size)
      have hlt0 : w.heap.size < w0.heap.size := blk_lt k0
      have HSz : ((wn.setCell ⟨w0.heap.size, 0, none⟩ (.slice la l.length lc)).setCell ⟨w0.heap.size, 1, none⟩ (.slice (some ⟨w0.heap.size + 1, 0, none⟩) l.length l.length)).cell? ⟨w.heap.size, 0, none⟩ = some (.slice la l.length lc) := (World.cell?_of_block ((set_block _ _ _ _ _ (by simp only; omega)).trans (set_block _ _ _ _ _ (by simp only; omega)))).trans HSn
      refine wpAnyL_one' (i := 7) (o := { dst := none, op := Op.store 65 (Operand.tmp 5) (Operand.tmp 14), type := 0, pos := "rows.go:45", after := #[{ on := 6, ground := Ground.data }, { on := 5, ground := Ground.data }, { on := 0, ground := Ground.phase }, { on := 1, ground := Ground.phase }, { on := 2, ground := Ground.phase }, { on := 3, ground := Ground.phase }, { on := 4, ground := Ground.phase }, { on := 5, ground := Ground.phase }, { on := 6, ground := Ground.phase }], guard := none }) (by kernel_rfl) rfl rfl (fun K hK => ?_)
      go_simp
      refine hK.out _ _ (fun _ => HSz) ?_
      clear hK
      try simp only [Act.put, List.setIfInBounds_toArray, List.set_cons_zero, List.set_cons_succ]
      refine wpAnyL_done (by kernel_rfl) ?_ _
      have e1 : wn.ownsRow w0.heap.size 3 1 (.slice (some ⟨w0.heap.size + 1, 0, none⟩) l.length l.length) l.length ((List.replicate l.length (0 : Int)).map encI) := by
        have h1 : (madeCells (Value.int .i64 0).cells (l.length * 1)).toList = List.replicate l.length (encI 0) := by rw [Nat.mul_one]; exact toList_madeCells_one _ _
        rw [List.map_replicate, ← h1]
        have hz : (w0.alloc (Obj.cells #[.slice none 0 0, .slice none 0 0] 65)).drew.heap.size = w0.heap.size + 1 := by simp
        rw [hz] at hn2
        exact hn2
      go_wp2_with fail
      go_meet
      refine ⟨w0.heap.size, w0.heap.size + 1, rfl, ?_, ?_, Nat.le_refl _, (BN.setCell (by simp) _).setCell (by simp) _⟩
      · have := blk_set (o := 1) (blk_set (o := 0) g2 (.slice la l.length lc)) (.slice (some ⟨w0.heap.size + 1, 0, none⟩) l.length l.length)
        simpa using this
      · unfold OwnI
        rw [List.length_replicate]
        refine ownsRow_keep (D := fun k => k = w0.heap.size) e1 (((But.refl (fun k => k = w0.heap.size) wn).setCell _ _ (.inr rfl)).setCell _ _ (.inr rfl)) (fun j hj e => ?_)
        have : w0.heap.size + 1 = j := by simpa [Value.ownBlock] using hj
        omega
  case rest =>
  obtain ⟨tb, fb, rfl, HH⟩ := hcut
  obtain ⟨m1, ho1, htb, BC⟩ := HH.out
  have HLJ : Hid (∀ j (hj : j < l.length), ∃ b o u, la = some ⟨b, o, none⟩ ∧ b < w.heap.size ∧ ∀ W, Below w.heap.size w W → W.cell? ⟨b, o + j * 3, none⟩ = some (.int .i64 l[j].st) ∧ W.cell? ⟨b, o + j * 3 + 1, none⟩ = some (.int .i64 l[j].pl) ∧ W.cell? ⟨b, o + j * 3 + 2, none⟩ = some u ∧ SlI l[j].links u W) := fun j hj => by
    obtain ⟨b, o, u, e, hb, q0, q1, q, hs, _⟩ := hgn.at (Below.refl _ _) hj
    exact ⟨b, o, u, e, hb, fun W hW => ⟨(hW.cell (p := ⟨b, o + j * 3, none⟩) hb).trans q0, (hW.cell (p := ⟨b, o + j * 3 + 1, none⟩) hb).trans q1, (hW.cell (p := ⟨b, o + j * 3 + 2, none⟩) hb).trans q, hs.next hW⟩⟩
  have HFB : Hid (w0.heap.size ≤ fb) := (World.ownsRow.lt ho1.own fb rfl).1
  have HFN : Hid (tb ≠ fb) := fun e => by
    rcases ho1.own.2 with ⟨e', _⟩ | ⟨g', _, cur, e', _, hg', _⟩
    · cases e'
    · have e2 : fb = g' := by simp at e'; exact e'.1
      rw [← e2, ← e, m1] at hg'
      simp at hg'
  have HT : Hid (∀ W, But (fun k => k = fb) wc W → W.heap[w.heap.size]? = some (Obj.cells #[.slice la l.length lc] 24) ∧ W.heap[w.heap.size + 1]? = some (Obj.cells #[.slice none 0 0, .slice none 0 0] 65) ∧ W.heap[tb]? = some (Obj.cells #[.slice la l.length lc, .slice (some ⟨fb, 0, none⟩) l.length l.length] 65) ∧ Below w.heap.size w W) := fun W hW => by
    have h0 := blk_lt k0
    have h1 := blk_lt k1
    have hf := HFB.out
    refine ⟨but_blk hW ((BC.block _ h0).trans k0) (by omega), but_blk hW ((BC.block _ h1).trans k1) (by omega), but_blk hW m1 HFN.out, ?_⟩
    exact (B0.trans (BC.mono B0.size)).trans (hW.below (Nat.le_trans B0.size BC.size) (fun k e => by omega))
  have HO1 : Hid (OwnI w0.heap.size (List.replicate l.length 0) (.slice (some ⟨fb, 0, none⟩) l.length l.length) wc) := ho1
  have hB0z : w.heap.size + 1 < w0.heap.size := blk_lt k1
  clear ho1 m1 BC HH k0 k1 c0 B0 hgn HL
  go_wp2_with fail
  obtain ⟨wz, hwz⟩ : ∃ wz, wz = wc := ⟨_, rfl⟩
  subst hwz
  go_loopw [16] (fun rv wr => ∃ (r : Nat) (F : List Int), rv = .int .i64 r ∧ r ≤ n ∧ Hid (FarP l F 0 r) ∧ Hid (OwnI w0.heap.size F (.slice (some ⟨fb, 0, none⟩) l.length l.length) wr) ∧ But (fun k => k = fb) wz wr) (fun r _ => n - (intOf r).toNat)
  case atStart => exact ⟨0, _, rfl, Nat.zero_le _, FarP.start l, HO1, But.refl _ _⟩
  case round =>
  obtain ⟨r, F, rfl, hr, HFP, HOF, BR⟩ := hrel
  obtain ⟨y0, y1, y2, QB⟩ := HT.out wr BR
  have c0 : wr.cell? ⟨w.heap.size, 0, none⟩ = some (.slice la l.length lc) := by rw [Lib.cell_of_heap y0]; rfl
  by_cases hlt : r < n
  case neg =>
    obtain rfl : r = n := by omega
    have t0 : wr.cell? ⟨tb, 0, none⟩ = some (.slice la l.length lc) := by rw [Lib.cell_of_heap y2]; rfl
    have t1 : wr.cell? ⟨tb, 1, none⟩ = some (.slice (some ⟨fb, 0, none⟩) l.length l.length) := by rw [Lib.cell_of_heap y2]; rfl
    have r0 : wr.cell? ⟨w.heap.size + 1, 0, none⟩ = some (.slice none 0 0) := by rw [Lib.cell_of_heap y1]; rfl
    have r1 : wr.cell? ⟨w.heap.size + 1, 1, none⟩ = some (.slice none 0 0) := by rw [Lib.cell_of_heap y1]; rfl
    have rf0 : wr.frozen? ⟨w.heap.size + 1, 0, none⟩ = false := Lib.frozen_of_heap y1 _
    have rf1 : wr.frozen? ⟨w.heap.size + 1, 1, none⟩ = false := Lib.frozen_of_heap y1 _
    have z : ((wr.setCell ⟨w.heap.size + 1, 0, none⟩ (.slice la l.length lc)).setCell ⟨w.heap.size + 1, 1, none⟩ (.slice (some ⟨fb, 0, none⟩) l.length l.length)).heap[w.heap.size + 1]? = some (Obj.cells #[.slice la l.length lc, .slice (some ⟨fb, 0, none⟩) l.length l.length] 65) := by
      have := blk_set (o := 1) (blk_set (o := 0) y1 (.slice la l.length lc)) (.slice (some ⟨fb, 0, none⟩) l.length l.length)
      simpa using this
    have HE : Hid (FarP l F 0 r ∧ SlI F (.slice (some ⟨fb, 0, none⟩) l.length l.length) ((wr.setCell ⟨w.heap.size + 1, 0, none⟩ (.slice la l.length lc)).setCell ⟨w.heap.size + 1, 1, none⟩ (.slice (some ⟨fb, 0, none⟩) l.length l.length)) ∧ (∀ k, (Value.slice (some ⟨fb, 0, none⟩) l.length l.length).ownBlock = some k → w.heap.size ≤ k) ∧ Below w.heap.size w ((wr.setCell ⟨w.heap.size + 1, 0, none⟩ (.slice la l.length lc)).setCell ⟨w.heap.size + 1, 1, none⟩ (.slice (some ⟨fb, 0, none⟩) l.length l.length))) := by
      refine ⟨HFP.out, ?_, fun k hk => by
        have e2 : fb = k := by simpa [Value.ownBlock] using hk
        have := HFB.out; omega, (QB.setCell (by simp) _).setCell (by simp) _⟩
      have hk : OwnI w0.heap.size F (.slice (some ⟨fb, 0, none⟩) l.length l.length) ((wr.setCell ⟨w.heap.size + 1, 0, none⟩ (.slice la l.length lc)).setCell ⟨w.heap.size + 1, 1, none⟩ (.slice (some ⟨fb, 0, none⟩) l.length l.length)) := ownsRow_keep (D := fun k => k = w.heap.size + 1) HOF.out (((But.refl (fun k => k = w.heap.size + 1) wr).setCell _ _ (.inr rfl)).setCell _ _ (.inr rfl)) (fun j hj e => by
        have e2 : fb = j := by simpa [Value.ownBlock] using hj
        have := HFB.out; omega)
      refine hk.sl (fun y hy => ?_)
      obtain ⟨j, hj, rfl⟩ := List.getElem_of_mem hy
      have := HFP.out.left j hj (Nat.zero_le _)
      unfold i64B; omega
    clear HOF HFP HT HLJ HO1 HFN HFB
    go_wp2_with fail
    refine bodyPost_ret (results_cell1 rfl _ _ _ rfl (run_loadVar_row _ _ _ _ _ _ _ z Try.underlying65 rfl (by kernel_rfl))) rfl ?_
    exact ⟨_, F, rfl, HE.out⟩
  have BA : Below wr.heap.size wr (wr.alloc (Obj.cells #[.int .i64 r] 3)) := (Below.refl _ _).alloc (Nat.le_refl _) _
  have kr : (wr.alloc (Obj.cells #[.int .i64 r] 3)).heap[wr.heap.size]? = some (Obj.cells #[.int .i64 r] 3) := heap_alloc_new _ _
  have HOA : Hid (OwnI w0.heap.size F (.slice (some ⟨fb, 0, none⟩) l.length l.length) (wr.alloc (Obj.cells #[.int .i64 r] 3))) := World.ownsRow.alloc HOF.out _
  have BRA : But (fun k => k = fb) wz (wr.alloc (Obj.cells #[.int .i64 r] 3)) := BR.trans (But.of_next BA)
  obtain ⟨rb, hrb⟩ : ∃ rb, rb = wr.heap.size := ⟨_, rfl⟩
  have HRB : Hid (rb ≠ fb) := fun e => by
    have := (World.ownsRow.lt HOF.out.own fb rfl).2
    omega
  have ca0 : (wr.alloc (Obj.cells #[.int .i64 r] 3)).cell? ⟨w.heap.size, 0, none⟩ = some (.slice la l.length lc) := cell_new c0
  clear y0 y1 y2 QB HOF BA
  go_wp2_with fail
  rw [← hrb] at kr ⊢
  generalize wr.alloc (Obj.cells #[.int .i64 r] 3) = wa at *
  clear hrb BR c0 ca0
  have HTA : Hid (∀ W, But (fun k => k = fb) wa W → W.cell? ⟨rb, 0, none⟩ = some (.int .i64 r) ∧ But (fun k => k = fb) wz W) := fun W hW => ⟨by rw [Lib.cell_of_heap (but_blk hW kr HRB.out)]; rfl, BRA.trans hW⟩
  clear kr
  go_loopw [22] (fun iv w3 => ∃ (i : Nat) (G : List Int), iv = .int .i64 i ∧ i ≤ l.length ∧ Hid (FarP l G i r) ∧ Hid (OwnI w0.heap.size G (.slice (some ⟨fb, 0, none⟩) l.length l.length) w3) ∧ But (fun k => k = fb) wa w3) (fun i _ => l.length - (intOf i).toNat)
  case atStart => exact ⟨0, F, rfl, Nat.zero_le _, HFP, HOA, But.refl _ _⟩
  case round =>
  obtain ⟨i, G, rfl, hi, HGP, HOG, BG⟩ := hrel
  clear HFP HOA
  obtain ⟨r0, BZ⟩ := HTA.out wr BG
  obtain ⟨y0, _, y2, QB⟩ := HT.out wr BZ
  by_cases hlt2 : i < l.length
  case neg =>
    obtain rfl : i = l.length := by omega
    have HF2 : Hid (FarP l G 0 (r + 1)) := HGP.out.turn
    clear HGP HT HLJ HTA
    go_wp2_with fail
    exact ⟨⟨r + 1, G, by go_num, by omega, HF2, HOG, BZ⟩, by simp [intOf]; omega⟩
  obtain ⟨b2, o2, u, rfl, hb2, HJJ⟩ := HLJ.out i hlt2
  obtain ⟨q0, q1, q2, hsx⟩ := HJJ wr QB
  have hGl : G.length = l.length := HGP.out.len
  have HXI : Hid (InL l.length l[i].links ∧ l[i].links.length ≤ 1000000 ∧ lksAt l i = l[i].links) := ⟨HFT.out.links _ (List.getElem_mem hlt2), HFT.out.okS _ (List.getElem_mem hlt2), lksAt_eq rfl hlt2⟩
  have BX : Below wr.heap.size wr (wr.alloc (Obj.cells #[.int .i64 l[i].st, .int .i64 l[i].pl, u] 35)) := (Below.refl _ _).alloc (Nat.le_refl _) _
  have t0 : (wr.alloc (Obj.cells #[.int .i64 l[i].st, .int .i64 l[i].pl, u] 35)).cell? ⟨tb, 0, none⟩ = some (.slice (some ⟨b2, o2, none⟩) l.length lc) := cell_new (by rw [Lib.cell_of_heap y2]; rfl)
  have t1 : (wr.alloc (Obj.cells #[.int .i64 l[i].st, .int .i64 l[i].pl, u] 35)).cell? ⟨tb, 1, none⟩ = some (.slice (some ⟨fb, 0, none⟩) l.length l.length) := cell_new (by rw [Lib.cell_of_heap y2]; rfl)
  have HGI : Hid (∀ y ∈ G, i64B y) := fun y hy => by
    obtain ⟨j, hj, rfl⟩ := List.getElem_of_mem hy
    rcases Nat.lt_or_ge j i with h | h
    · have := HGP.out.done j hj h; unfold i64B; omega
    · have := HGP.out.left j hj h; unfold i64B; omega
  have HC := containsF_any l G l[i].links (some ⟨b2, o2, none⟩) lc (.slice (some ⟨fb, 0, none⟩) l.length l.length) u r tb rb (wr.alloc (Obj.cells #[.int .i64 l[i].st, .int .i64 l[i].pl, u] 35)) ((HOG.out.sl HGI.out).next BX) (hsx.next BX) hGl HXI.out.1 hlen HXI.out.2.1 t0 t1 (cell_new r0)
  have HGO : Hid ((∃ x ∈ l[i].links, leadsF G x r = true) ↔ goP l (r + 1) i) := by
    show _ ↔ ∃ j ∈ lksAt l i, goP l r j
    rw [HXI.out.2.2]
    constructor
    · rintro ⟨x, hx, h⟩
      have hxi := HXI.out.1 x hx
      refine ⟨x, hx, ?_⟩
      have := HGP.out.at_ x.toNat (by omega)
      rw [Int.toNat_of_nonneg hxi.1] at this
      refine this.1 ?_
      unfold leadsF at h
      rw [List.getD_eq_getElem?_getD, List.getElem?_eq_getElem (by omega)] at h
      simpa using h
    · rintro ⟨x, hx, h⟩
      have hxi := HXI.out.1 x hx
      refine ⟨x, hx, ?_⟩
      have := HGP.out.at_ x.toNat (by omega)
      rw [Int.toNat_of_nonneg hxi.1] at this
      unfold leadsF
      rw [List.getD_eq_getElem?_getD, List.getElem?_eq_getElem (by omega)]
      simpa using this.2 h
  obtain ⟨xa, xc, rfl⟩ : ∃ xa xc, u = .slice xa l[i].links.length xc := hsx.imp fun _ h => h.imp fun _ h => h.1
  have c0 : wr.cell? ⟨w.heap.size, 0, none⟩ = some (.slice (some ⟨b2, o2, none⟩) l.length lc) := by rw [Lib.cell_of_heap y0]; rfl
  have HOX : Hid (OwnI w0.heap.size G (.slice (some ⟨fb, 0, none⟩) l.length l.length) (wr.alloc (Obj.cells #[.int .i64 l[i].st, .int .i64 l[i].pl, .slice xa l[i].links.length xc] 35))) := World.ownsRow.alloc HOG.out _
  have BGX : But (fun k => k = fb) wa (wr.alloc (Obj.cells #[.int .i64 l[i].st, .int .i64 l[i].pl, .slice xa l[i].links.length xc] 35)) := BG.trans (But.of_next BX)
  have HGL : Hid (G.length = l.length) := hGl
  clear hsx HJJ HGI HXI BX y0 y2 hGl HOG
  go_wp2_with fail
  generalize wr.alloc (Obj.cells #[.int .i64 l[i].st, .int .i64 l[i].pl, .slice xa l[i].links.length xc] 35) = wx at *
  refine HC.mono ?_
  rintro e w5 ⟨b, rfl, hbb, hb5⟩
  have HOY : Hid (OwnI w0.heap.size G (.slice (some ⟨fb, 0, none⟩) l.length l.length) w5) := ownsRow_below4 HOX.out hb5
  have BG5 : But (fun k => k = fb) wa w5 := BGX.trans (But.of_next hb5)
  have s1 : w5.cell? ⟨tb, 1, none⟩ = some (.slice (some ⟨fb, 0, none⟩) l.length l.length) := (hb5.cell (p := ⟨tb, 1, none⟩) (World.block_lt_of_cell? _ _ t1)).trans t1
  have HBB : Hid (b = true ↔ goP l (r + 1) i) := hbb.trans HGO.out
  clear HC hbb hb5 HOX BGX t0 t1 HGO q0 q1 q2
  cases b with
  | false =>
    have HF2 : Hid (FarP l G (i + 1) r) := HGP.out.no (fun h => by have := HBB.out.2 h; cases this)
    clear HGP HBB HT HTA HLJ
    go_wp2_with fail
    exact ⟨⟨i + 1, G, by go_num, by omega, HF2, HOY, BG5⟩, by simp [intOf]; omega⟩
  | true =>
    have hiG : i < G.length := by rw [HGL.out]; exact hlt2
    obtain ⟨hgi, hfp⟩ := HGP.out.yes hiG (HBB.out.1 rfl)
    have HF2 : Hid (FarP l (G.set i (r + 1)) (i + 1) r) := by rw [hgi] at hfp; exact hfp
    have hrow : w5.ownsRow w0.heap.size 3 1 (.slice (some ⟨fb, 0, none⟩) l.length l.length) l.length (G.map encI) := by have := HOY.out; unfold OwnI at this; rwa [HGL.out] at this
    have cf : w5.cell? ⟨fb, i, none⟩ = some (.int .i64 r) := by
      rw [World.ownsRow.cellAt hrow i (by omega)]
      simp [hiG, encI, hgi]
    have ff := World.ownsRow.frozenAt hrow i
    have HS := (World.ownsRow.stored hrow i (.int .i64 (r + 1))).1
    have HR : Hid (OwnI w0.heap.size (G.set i (r + 1)) (.slice (some ⟨fb, 0, none⟩) l.length l.length) (w5.setCell ⟨fb, i, none⟩ (.int .i64 (r + 1))) ∧ But (fun k => k = fb) wa (w5.setCell ⟨fb, i, none⟩ (.int .i64 (r + 1)))) := by
      refine ⟨?_, BG5.setCell _ _ (.inr rfl)⟩
      unfold OwnI
      rw [List.length_set, HGL.out, List.map_set]
      exact HS
    clear HGP HBB HT HTA HLJ HS hrow hfp hgi HOY BG5 hiG
    go_wp2_with fail
    exact ⟨⟨i + 1, _, by go_num, by omega, HF2, HR.out.1, HR.out.2⟩, by simp [intOf]; omega⟩
end Go.Proofs.Ytjpbfckdiojghaa
