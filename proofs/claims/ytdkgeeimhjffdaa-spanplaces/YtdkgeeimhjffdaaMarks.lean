/- marks: where the ranges of two sets begin and end, in order: a rising permutation of them, in a row of the call's own. -/
import Derived.Test.YtdkgeeimhjffdaaSorts
import Derived.OwnWalk
namespace Go.Proofs.Ytdkgeeimhjffdaa
open Go.Shelf Go.RowKit Go.Lib Go.Sort Go.Proofs

theorem info65 : (Try.prog.info? 65).map (fun i => (i.zero, i.size, i.bytes)) = some (some (.agg #[.int .i64 0, .int .i64 0, .int .i64 0]), 3, 24) := by kernel_rfl

/-- A row of marks of the call's own. -/
def OwnM (B : Nat) (ms : List Mk) (cap : Nat) (W : World) : Prop := W.ownsRow B 65 3 (.slice (some ⟨B, 0, none⟩) ms.length cap) ms.length (ms.flatMap encM)

theorem flatM_get : ∀ (ms : List Mk) (i c : Nat), c < 3 → (ms.flatMap encM)[i * 3 + c]? = ms[i]?.map fun m => (encM m)[c]!
  | [], i, c, _ => by simp
  | m :: t, 0, c, hc => by
    match c, hc with
    | 0, _ => simp [encM]
    | 1, _ => simp [encM]
    | 2, _ => simp [encM]
  | m :: t, i + 1, c, hc => by
    rw [List.flatMap_cons, List.getElem?_append_right (by simp [encM]; omega)]
    have : (i + 1) * 3 + c - (encM m).length = i * 3 + c := by simp [encM]; omega
    rw [this, flatM_get t i c hc]
    simp

theorem OwnM.holds {B cap : Nat} {ms : List Mk} {W : World} (h : OwnM B ms cap W) : HoldsK encM 3 W B 0 ms.toArray := by
  intro j hj
  have hj2 : j < ms.length * 3 := by simpa using hj
  refine ⟨?_, h.frozenAt _⟩
  rw [Nat.zero_add, h.cellAt j hj2, get_flatK _ _ _ _ (by simpa using hj)]
  have h3 : j = j / 3 * 3 + j % 3 := by omega
  have h4 : j / 3 < ms.length := by omega
  conv => lhs; rw [h3, flatM_get ms (j / 3) (j % 3) (by omega)]
  simp [h4, getElem!_pos]

theorem OwnM.block {B cap : Nat} {ms : List Mk} {W : World} (h : OwnM B ms cap W) : ∃ cur, W.heap[B]? = some (.cells cur 65 (0, 0)) := by
  rcases h.2 with ⟨h', _⟩ | ⟨g', cap', cur, h', _, hg, _⟩
  · simp at h'
  · simp only [Value.slice.injEq, Option.some.injEq, Addr.mk.injEq, and_true, true_and] at h'
    obtain ⟨rfl, rfl⟩ := h'
    exact ⟨cur, hg⟩

theorem flat_step {a : List Rg} {j : Nat} (h : j < a.length) (f : Rg → List Mk) : (a.take (j + 1)).flatMap f = (a.take j).flatMap f ++ f a[j] := by
  rw [List.take_succ_eq_append_getElem h]
  simp only [List.flatMap_append, List.flatMap_cons, List.flatMap_nil, List.append_nil]

theorem OwnM.more {B cap : Nat} {ms : List Mk} {x y : Mk} {W : World} (h : W.ownsRow B 65 3 (.slice (some ⟨B, 0, none⟩) (ms.length + 2) cap) (ms.length + 2) (ms.flatMap encM ++ (encM x ++ encM y))) : OwnM B (ms ++ [x, y]) cap W := by
  unfold OwnM
  simpa using h

theorem cells6 (x y : Mk) (W : World) (o : Obj) (t : TypeId) : ∀ (j : Nat) (u : Value), (encM x ++ encM y)[j]? = some u →
    ((W.alloc o).alloc (.cells #[.int .i64 x.1, .int .i64 x.2.1, .int .i64 x.2.2, .int .i64 y.1, .int .i64 y.2.1, .int .i64 y.2.2] t)).cell? ((⟨W.heap.size + 1, 0, none⟩ : Addr).add j) = some u := by
  intro j u hj
  have hs : W.heap.size + 1 = (W.alloc o).heap.size := by simp
  rw [add_plain, hs]
  match j, hj with
  | 0, hj => simpa [encM] using hj
  | 1, hj => simpa [encM] using hj
  | 2, hj => simpa [encM] using hj
  | 3, hj => simpa [encM] using hj
  | 4, hj => simpa [encM] using hj
  | 5, hj => simpa [encM] using hj
  | j + 6, hj => simp [encM] at hj

theorem encM_one (x y : Mk) : ∀ u ∈ encM x ++ encM y, u.oneCell' = true := by
  intro u hu
  simp [encM] at hu
  rcases hu with rfl | rfl | rfl | rfl | rfl | rfl <;> rfl

set_option maxHeartbeats 2000000 in
theorem marks_any (a b : List Rg) (ao bo : Option Addr) (cap dap : Nat) (w : World) (ha : RgAt a ao w) (hb : RgAt b bo w) (hla : a.length ≤ 1000000) (hlb : b.length ≤ 1000000) :
    Calls Try.prog 44 #[.slice ao a.length cap, .slice bo b.length dap] w fun e w' => ∃ ms c, e = .returned (.slice (some ⟨w.heap.size, 0, none⟩) (List.length ms) c) ∧ Below w.heap.size w w' ∧ w.heap.size < w'.heap.size ∧
      ms.Perm (marksL a b) ∧ ms.Pairwise (fun m n : Mk => m.1 ≤ n.1) ∧ MkAt ms w.heap.size w' ∧ ∃ cur fr, w'.heap[w.heap.size]? = some (.cells cur 65 fr) := by
  obtain ⟨i0, hi, hz0, hz1, hz2⟩ := info_parts info65
  go_enter Try.func44, Try.ntmps44
  go_wp2_with (at_make; refine wpList_make_own _ rfl _ _ 62 rfl w.heap.size 65 i0 _ 3 Try.underlying62 hi hz0 hz1 _ _ _ (2 * (a.length + b.length)) rfl rfl (by omega) (by rw [hz2]; omega) (by unfold maxLen; omega) (Nat.le_refl _) ?_)
  intro w0 hown0 hg0
  have hB0 : Below w.heap.size w w0 := (Below.refl _ _).grown hg0 (Nat.le_refl _) (fun k e => by cases e)
  have hO0 : OwnM w.heap.size [] (2 * (a.length + b.length)) w0 := hown0
  clear hown0 hg0
  go_wp2
  go_loopw [5, 21] (fun l i wr => ∃ j : Nat, i = .int .i64 j ∧ j ≤ a.length ∧ l = .slice (some ⟨w.heap.size, 0, none⟩) ((a.take j).flatMap mk1).length (2 * (a.length + b.length)) ∧ OwnM w.heap.size ((a.take j).flatMap mk1) (2 * (a.length + b.length)) wr ∧ Below w.heap.size w wr) (fun _ i _ => a.length - (intOf i).toNat)
  case atStart => exact ⟨0, rfl, Nat.zero_le _, rfl, hO0, hB0⟩
  case round =>
    obtain ⟨j, rfl, hj, rfl, hO, B1⟩ := hrel
    by_cases hlt : j < a.length
    · obtain ⟨b0, off, rfl, c0, c1⟩ := ha.at B1 hlt
      have HS : Hid ((a.take (j + 1)).flatMap mk1 = (a.take j).flatMap mk1 ++ mk1 a[j]) := flat_step hlt mk1
      have hln : ((a.take j).flatMap mk1).length ≤ 2 * j := by have := mk1_len (a.take j); simp only [List.length_take] at this; omega
      generalize (a.take j).flatMap mk1 = ms at *
      generalize a[j] = r at *
      obtain ⟨r0, r1⟩ := r
      simp only at c0 c1
      have HB : Hid (RgAt b bo w) := hb
      have HA : Hid (RgAt a (some ⟨b0, off, none⟩) w) := ha
      clear ha hb hO0 hB0
      by_cases hm : max r0 0 < r1
      · have HT : Hid ((a.take (j + 1)).flatMap mk1 = ms ++ [(max r0 0, 1, 0), (r1, -1, 0)]) := by show _ = _; rw [HS.out, mk1, if_pos hm]
        go_wp2_with (at_builtin; refine wpList_append_fits _ rfl _ _ 62 rfl w.heap.size 65 i0 3 Try.underlying62 hi hz1 w.heap.size _ (2 * (a.length + b.length)) _ rfl ((hO.alloc _).alloc _) ⟨wr.heap.size + 1, 0, none⟩ 2 2 (encM (max r0 0, 1, 0) ++ encM (r1, -1, 0)) rfl rfl (cells6 _ _ wr _ 65) (encM_one _ _) (by omega) ?_)
        intro w1 hown1 hg1
        have hO1 := OwnM.more hown1
        have B2 : Below w.heap.size w w1 := ((B1.alloc B1.size _).alloc (by have := B1.size; simp; omega) _).grown hg1 (by have := B1.size; simp; omega) (fun k e => by cases e; exact Nat.le_refl _)
        clear hown1 hg1
        go_wp2
        exact ⟨⟨j + 1, by go_num, by omega, by rw [HT.out]; simp, by rw [HT.out]; exact hO1, B2⟩, by simp [intOf]; omega⟩
      · have HT : Hid ((a.take (j + 1)).flatMap mk1 = ms) := by show _ = _; rw [HS.out, mk1, if_neg hm]; simp
        go_wp2
        exact ⟨⟨j + 1, by go_num, by omega, by rw [HT.out], by rw [HT.out]; exact hO.alloc _, B1.alloc B1.size _⟩, by simp [intOf]; omega⟩
    · have HT : Hid ((a.take j).flatMap mk1 = a.flatMap mk1) := by show _ = _; rw [List.take_of_length_le (by omega)]
      rw [HT.out] at hO ⊢
      have hlM : (a.flatMap mk1).length ≤ 2 * a.length := mk1_len a
      have HM : Hid (marksL a b = a.flatMap mk1 ++ b.flatMap mk2) := rfl
      clear HT hO0 hB0
      generalize a.flatMap mk1 = ms at *
      go_wp2
      go_loopw [5, 43] (fun l i wr => ∃ j : Nat, i = .int .i64 j ∧ j ≤ b.length ∧ l = .slice (some ⟨w.heap.size, 0, none⟩) (ms ++ (b.take j).flatMap mk2).length (2 * (a.length + b.length)) ∧ OwnM w.heap.size (ms ++ (b.take j).flatMap mk2) (2 * (a.length + b.length)) wr ∧ Below w.heap.size w wr) (fun _ i _ => b.length - (intOf i).toNat)
      case atStart => exact ⟨0, rfl, Nat.zero_le _, by simp, by simpa using hO, B1⟩
      case round =>
        clear hO B1
        obtain ⟨j, rfl, hj, rfl, hO, B1⟩ := hrel
        by_cases hlt : j < b.length
        · obtain ⟨b0, off, rfl, c0, c1⟩ := hb.at B1 hlt
          have HS : Hid ((b.take (j + 1)).flatMap mk2 = (b.take j).flatMap mk2 ++ mk2 b[j]) := flat_step hlt mk2
          have hln : (ms ++ (b.take j).flatMap mk2).length ≤ 2 * a.length + 2 * j := by have := mk2_len (b.take j); simp only [List.length_take] at this; simp only [List.length_append]; omega
          generalize (b.take j).flatMap mk2 = ns at *
          generalize b[j] = r at *
          obtain ⟨r0, r1⟩ := r
          simp only at c0 c1
          have HB : Hid (RgAt b (some ⟨b0, off, none⟩) w) := hb
          have HA : Hid (RgAt a ao w) := ha
          clear ha hb
          rw [List.length_append] at hln ⊢
          have hO' : wr.ownsRow w.heap.size 65 3 (.slice (some ⟨w.heap.size, 0, none⟩) (ms.length + ns.length) (2 * (a.length + b.length))) (ms.length + ns.length) ((ms ++ ns).flatMap encM) := by have := hO; unfold OwnM at this; rwa [List.length_append] at this
          by_cases hm : max r0 0 < r1
          · have HT : Hid ((b.take (j + 1)).flatMap mk2 = ns ++ [(max r0 0, 0, 1), (r1, 0, -1)]) := by show _ = _; rw [HS.out, mk2, if_pos hm]
            go_wp2_with (at_builtin; refine wpList_append_fits _ rfl _ _ 62 rfl w.heap.size 65 i0 3 Try.underlying62 hi hz1 w.heap.size _ (2 * (a.length + b.length)) _ rfl ((hO'.alloc _).alloc _) ⟨wr.heap.size + 1, 0, none⟩ 2 2 (encM (max r0 0, 0, 1) ++ encM (r1, 0, -1)) rfl rfl (cells6 _ _ wr _ 65) (encM_one _ _) (by omega) ?_)
            intro w1 hown1 hg1
            have hO1 : OwnM w.heap.size (ms ++ ns ++ [(max r0 0, 0, 1), (r1, 0, -1)]) (2 * (a.length + b.length)) w1 := OwnM.more (by rw [List.length_append, List.flatMap_append, List.append_assoc]; exact hown1)
            have B2 : Below w.heap.size w w1 := ((B1.alloc B1.size _).alloc (by have := B1.size; simp; omega) _).grown hg1 (by have := B1.size; simp; omega) (fun k e => by cases e; exact Nat.le_refl _)
            clear hown1 hg1
            go_wp2
            exact ⟨⟨j + 1, by go_num, by omega, by rw [HT.out]; simp [Nat.add_assoc], by rw [HT.out, ← List.append_assoc]; exact hO1, B2⟩, by simp [intOf]; omega⟩
          · have HT : Hid ((b.take (j + 1)).flatMap mk2 = ns) := by show _ = _; rw [HS.out, mk2, if_neg hm]; simp
            go_wp2
            exact ⟨⟨j + 1, by go_num, by omega, by rw [HT.out, List.length_append], by rw [HT.out]; exact hO.alloc _, B1.alloc B1.size _⟩, by simp [intOf]; omega⟩
        · have HT : Hid ((b.take j).flatMap mk2 = b.flatMap mk2) := by show _ = _; rw [List.take_of_length_le (by omega)]
          rw [HT.out, ← HM.out] at hO ⊢
          have hlN : (marksL a b).length ≤ 2 * (a.length + b.length) := marks_len a b
          have hH := hO.holds
          clear HT HM ha hb
          obtain ⟨ks, hks⟩ : ∃ ks, marksL a b = ks := ⟨_, rfl⟩
          have HK : Hid (marksL a b = ks) := hks
          rw [hks] at hO hlN hH ⊢
          clear hks
          go_wp2_with fail
          have hlt2 := (World.ownsRow.lt hO w.heap.size rfl).2
          obtain ⟨cur, hcur⟩ := hO.block
          refine (sort_mk w.heap.size (2 * (a.length + b.length)) ks.toArray wr hH hlt2 (by simp; omega) hcur).mono ?_
          rintro e w1 ⟨rfl, hb1, ms', hl, hp, hs, hM, hcu⟩
          have B2 := B1.trans hb1
          have hlt3 := hb1.size
          clear hH hO hcur
          go_wp2
          go_ret
          exact ⟨ms', 2 * (a.length + b.length), by rw [hl]; simp, B2, by omega, by simpa [HK.out] using hp, hs, hM, hcu⟩
end Go.Proofs.Ytdkgeeimhjffdaa
