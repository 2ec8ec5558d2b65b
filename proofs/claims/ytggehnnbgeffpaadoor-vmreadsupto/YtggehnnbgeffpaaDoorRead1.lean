/- The takers of numbers. -/
import Derived.Test.YtggehnnbgeffpaaDoorRead0
namespace Go.Proofs.YtggehnnbgeffpaaDoor
open Go.Shelf Go.RowKit Go.Lib Go.Proofs

set_option maxHeartbeats 1000000 in
theorem ins_any (B g n cap : Nat) (vl vw : Value) (W : World) (hB : W.heap[B]? = some (.cells #[.slice (some ⟨g, 0, none⟩) (n + 1) cap, vl, vw] 46 (0, 0))) (hn : n ≤ 64) :
    Calls Tryd.prog 63 #[.pointer (some ⟨B, 0, none⟩)] W fun e w' => e = .returned (.pointer (some ⟨g, n * 4, none⟩)) ∧ ∃ q, w' = W.drewN q := by
  have c0 : W.cell? ⟨B, 0, none⟩ = some (.slice (some ⟨g, 0, none⟩) (n + 1) cap) := by rw [cell_of_obj hB]; rfl
  clear hB
  go_enter Tryd.func63, Tryd.ntmps63
  go_wp2
  go_quiet (fail)
  go_wp2
  go_ret
  exact ⟨by simp, _, rfl⟩

set_option maxRecDepth 100000 in
set_option maxHeartbeats 2000000 in
theorem number_any (s : ByteArray) (least : Int) (a : Addr) (old : Int) (W : World) (hs : s.size ≤ 281474976710656) (hV : Vars W) (ha : W.cell? a = some (.int .i64 old)) (hfa : W.frozen? a = false) :
    Calls Tryd.prog 62 #[.string s, .int .i64 least, .pointer (some a)] W fun e w' => ∃ w1, Below W.heap.size W w1 ∧
      ((numV s.data.toList least = none ∧ e = .returned (.int .i64 10) ∧ w' = w1) ∨ (∃ v, numV s.data.toList least = some v ∧ e = .returned (.int .i64 0) ∧ w' = w1.setCell a (.int .i64 v))) := by
  have hat := atoi_any s hs W hV
  go_enter Tryd.func62, Tryd.ntmps62
  go_wp2_with fail
  refine hat.mono ?_
  rintro e w1 ⟨⟨v, ev, rfl, hv⟩, hb1⟩
  have hV1 := hV.next hb1
  have a1 : w1.cell? a = some (.int .i64 old) := by
    have : a.block < W.heap.size := World.block_lt_of_cell? W a ha
    exact (hb1.cell this).trans ha
  have fa1 : w1.frozen? a = false := by
    have : a.block < W.heap.size := World.block_lt_of_cell? W a ha
    rw [World.frozen?_of_block (hb1.block _ this)]
    exact hfa
  clear hat ha hfa hV
  rcases hv with ⟨rfl, hv⟩ | ⟨⟨t, q, rfl⟩, hv⟩
  · have hbd := Lib.atoiAll_bounds hv
    have hcon := itoa_any v hbd.1 hbd.2 w1 hV1
    by_cases h1 : (⟨(Lib.itoa v).toArray⟩ : ByteArray) = s
    · have h1l : Lib.itoa v = s.data.toList := by rw [← h1]
      by_cases h2 : least ≤ v ∧ v ≤ 255
      · have HN : Hid (numV s.data.toList least = some v) := by
          show _ = _
          unfold numV
          rw [hv]
          simp only
          rw [if_pos ⟨h1l, h2.1, h2.2⟩]
        rw [h1] at hcon
        have k1 : ¬ v < least := by omega
        have k2 : ¬ (255 : Int) < v := by omega
        clear hv h1 h1l
        go_wp2_with (go_at_call 40; refine hcon.mono ?_; rintro e w2 ⟨rfl, hb2⟩; have a2 := (hb2.cell (World.block_lt_of_cell? w1 a a1)).trans a1; have fa2 := (World.frozen?_of_block (hb2.block _ (World.block_lt_of_cell? w1 a a1))).trans fa1)
        go_ret
        exact ⟨w2, below_next hb1 hb2, .inr ⟨v, HN.out, rfl, rfl⟩⟩
      · have HN : Hid (numV s.data.toList least = none) := by
          show _ = _
          unfold numV
          rw [hv]
          simp only
          rw [if_neg (by rintro ⟨_, h⟩; exact h2 h)]
        rw [h1] at hcon
        have k : v < least ∨ (¬ v < least ∧ (255 : Int) < v) := by omega
        clear hv h1 h1l h2
        rcases k with k1 | ⟨k1, k2⟩
        all_goals
          go_wp2_with (go_at_call 40; refine hcon.mono ?_; rintro e w2 ⟨rfl, hb2⟩)
        all_goals
          go_ret
          exact ⟨w2, below_next hb1 hb2, .inl ⟨HN.out, rfl, rfl⟩⟩
    · have HN : Hid (numV s.data.toList least = none) := by
        show _ = _
        unfold numV
        rw [hv]
        simp only
        rw [if_neg (by rintro ⟨h, _⟩; apply h1; rw [h])]
      generalize (⟨(Lib.itoa v).toArray⟩ : ByteArray) = sv at *
      have h1' : ¬ sv.toList = s.toList := by
        rw [Lib.toList_data, Lib.toList_data]
        intro h
        exact h1 (ba_ext h)
      clear hv h1
      go_wp2_with (go_at_call 40; refine hcon.mono ?_; rintro e w2 ⟨rfl, hb2⟩)
      go_ret
      exact ⟨w2, below_next hb1 hb2, .inl ⟨HN.out, rfl, rfl⟩⟩
  · have HN : Hid (numV s.data.toList least = none) := by
      show _ = _
      unfold numV
      split
      · rename_i u hu
        exact absurd hu (hv u)
      · rfl
    clear hv
    go_wp2_with fail
    go_ret
    exact ⟨w1, hb1, .inl ⟨HN.out, rfl, rfl⟩⟩

/-- What a taker says: its error, and the reader then. -/
def Takes (n0 B : Nat) (er : Int × Rd) (W : World) (e : Ending) (W' : World) : Prop :=
  e = .returned (.int .i64 er.1) ∧ RStep n0 W W' ∧ (er.1 = 0 → RAt n0 B er.2 W')

theorem flat_last (p : List Ins) (i : Ins) (c : Nat) (hc : c < 4) (u : Value) : ((p ++ [i]).flatMap encI).set (p.length * 4 + c) u = p.flatMap encI ++ (encI i).set c u := by
  rw [List.flatMap_append]
  have hl : (p.flatMap encI).length = p.length * 4 := by
    induction p with
    | nil => rfl
    | cons x t ih => rw [List.flatMap_cons, List.length_append, ih]; simp [encI]; omega
  rw [List.set_append, if_neg (by omega), hl, show p.length * 4 + c - p.length * 4 = c by omega]
  simp
theorem flat_at (p : List Ins) (i : Ins) (c : Nat) (hc : c < 4) : ((p ++ [i]).flatMap encI)[p.length * 4 + c]? = (encI i)[c]? := by
  rw [List.flatMap_append]
  have hl : (p.flatMap encI).length = p.length * 4 := by
    induction p with
    | nil => rfl
    | cons x t ih => rw [List.flatMap_cons, List.length_append, ih]; simp [encI]; omega
  rw [List.getElem?_append_right (by omega), hl]
  simp

/-- The operation that is read, its place, and what the store of one of its numbers leaves. -/
theorem RAt.open_last {n0 B : Nat} {r : Rd} {W : World} {p : List Ins} {i : Ins} (h : RAt n0 B r W) (hr : r.prog = p ++ [i]) :
    ∃ g cap vl vw, W.heap[B]? = some (.cells #[.slice (some ⟨g, 0, none⟩) (p.length + 1) cap, vl, vw] 46 (0, 0)) ∧ p.length ≤ 64 ∧ (∀ c, c < 4 → W.cell? ⟨g, p.length * 4 + c, none⟩ = (encI i)[c]? ∧ W.frozen? ⟨g, p.length * 4 + c, none⟩ = false) ∧
      ∀ (W1 : World), Below W.heap.size W W1 → ∀ (c : Nat) (v : Int) (i' : Ins), c < 4 → (encI i).set c (.int .i64 v) = encI i' → RStep n0 W (W1.setCell ⟨g, p.length * 4 + c, none⟩ (.int .i64 v)) ∧ RAt n0 B { r with prog := p ++ [i'] } (W1.setCell ⟨g, p.length * 4 + c, none⟩ (.int .i64 v)) := by
  have h0 := h
  obtain ⟨h1, h2, h3, vp, vl, vw, hB, hp, hl, hw⟩ := h
  rw [hr] at h2 h3 hp
  have hlen : (p ++ [i]).length = p.length + 1 := by simp
  rw [hlen] at hp h3 h2
  rcases hp.2 with ⟨_, h⟩ | ⟨g, cap, cur, rfl, hg0, hg1, hg2, _⟩
  · omega
  refine ⟨g, cap, vl, vw, hB, by omega, fun c hc => ⟨?_, ?_⟩, fun W1 hb c v i' hc hi' => ?_⟩
  · have := flat_at p i c hc
    cases hq : (encI i)[c]? with
    | none => simp [encI] at hq; omega
    | some u =>
      have := hp.cells (g := g) rfl (p.length * 4 + c) u (by rw [flat_at p i c hc]; exact hq)
      have hadd : (⟨g, 0, none⟩ : Addr).add (p.length * 4 + c) = ⟨g, p.length * 4 + c, none⟩ := by unfold Addr.add; split <;> simp_all
      rw [hadd] at this
      exact this
  · simp [World.frozen?, hg1]
  · have hp1 := own_next hp hb
    have hl1 := own_next hl hb
    have hw1 : WantAt vw r.want W1 := hw.kept fun k cs fr hk => (hb.block k (Array.getElem?_eq_some_iff.1 hk).1).trans hk
    have hB1 : W1.heap[B]? = _ := (hb.block B (Array.getElem?_eq_some_iff.1 hB).1).trans hB
    have hg1' : W1.heap[g]? = _ := (hb.block g (Array.getElem?_eq_some_iff.1 hg1).1).trans hg1
    obtain ⟨s1, s2⟩ := hp1.stored (p.length * 4 + c) (.int .i64 v)
    rw [flat_last p i c hc, hi'] at s1
    have hstep : RStep n0 W1 (W1.setCell ⟨g, p.length * 4 + c, none⟩ (.int .i64 v)) := .of_grown s2 (Nat.le_trans (by have := (Array.getElem?_eq_some_iff.1 hB).1; omega) hb.size) (fun k e => by cases e; exact ⟨hg0, _, _, .inl hg1'⟩)
    refine ⟨(RStep.of_below hb (by have := (Array.getElem?_eq_some_iff.1 hB).1; omega)).trans hstep, ⟨h1, by simp [h2], by simp; omega, .slice (some ⟨g, 0, none⟩) (p.length + 1) cap, vl, vw, ?_, ?_, owns_other hl1 s2 hg1' (by decide), hw1.step hstep⟩⟩
    · refine (s2.block B (Array.getElem?_eq_some_iff.1 hB1).1 fun e => ?_).trans hB1
      cases e
      rw [hB1] at hg1'
      cases hg1'
    · have e2 : (p ++ [i']).flatMap encI = p.flatMap encI ++ encI i' := by simp
      show World.ownsRow _ n0 39 4 _ (p ++ [i']).length ((p ++ [i']).flatMap encI)
      rw [e2]
      simpa using s1

set_option maxRecDepth 100000 in
set_option maxHeartbeats 2000000 in
theorem x_any (n0 B : Nat) (r : Rd) (p : List Ins) (i : Ins) (s : ByteArray) (W : World) (hs : s.size ≤ 281474976710656) (hV : Vars W) (hR : RAt n0 B r W) (hr : r.prog = p ++ [i]) :
    Calls Tryd.prog 48 #[.pointer (some ⟨B, 0, none⟩), .string s] W (Takes n0 B (tkN .x r s.data.toList) W) := by
  obtain ⟨g, cap, vl, vw, hB, hpl, hcell, hset⟩ := hR.open_last hr
  have hn : n0 ≤ W.heap.size := by have := (Array.getElem?_eq_some_iff.1 hB).1; have := hR.nB; omega
  have hi := ins_any B g p.length cap vl vw W hB hpl
  have hc1 := hcell 1 (by decide)
  have hnum := fun q => number_any s 0 ⟨g, p.length * 4 + 1, none⟩ i.x (W.drewN q) hs (hV.next (below_drewN (Below.refl _ _) q)) hc1.1 hc1.2
  go_enter Tryd.func48, Tryd.ntmps48
  go_wp2_with fail
  refine hi.mono ?_
  rintro e w1 ⟨rfl, q, rfl⟩
  go_wp2_with fail
  refine (hnum q).mono ?_
  rintro e w2 ⟨w3, hb3, h⟩
  have hb4 : Below W.heap.size W w3 := ⟨hb3.os, hb3.tape, hb3.output, hb3.size, hb3.block⟩
  rcases h with ⟨hv, rfl, rfl⟩ | ⟨v, hv, rfl, rfl⟩
  · go_wp2_with fail
    go_ret
    have e : tkN .x r s.data.toList = (10, r) := by simp [tkN, hv]
    rw [e]
    exact ⟨rfl, .of_below hb4 hn, fun h => by simp at h⟩
  · go_wp2_with fail
    go_ret
    have e : tkN .x r s.data.toList = (0, { r with prog := p ++ [{ i with x := v }] }) := by simp [tkN, hv, hr, updL_snoc]
    rw [e]
    obtain ⟨s1, s2⟩ := hset w3 hb4 1 v { i with x := v } (by decide) rfl
    exact ⟨rfl, s1, fun _ => s2⟩
set_option maxRecDepth 100000 in
set_option maxHeartbeats 2000000 in
theorem z_any (n0 B : Nat) (r : Rd) (p : List Ins) (i : Ins) (s : ByteArray) (W : World) (hs : s.size ≤ 281474976710656) (hV : Vars W) (hR : RAt n0 B r W) (hr : r.prog = p ++ [i]) :
    Calls Tryd.prog 50 #[.pointer (some ⟨B, 0, none⟩), .string s] W (Takes n0 B (tkN .z r s.data.toList) W) := by
  obtain ⟨g, cap, vl, vw, hB, hpl, hcell, hset⟩ := hR.open_last hr
  have hn : n0 ≤ W.heap.size := by have := (Array.getElem?_eq_some_iff.1 hB).1; have := hR.nB; omega
  have hi := ins_any B g p.length cap vl vw W hB hpl
  have hc1 := hcell 3 (by decide)
  have hnum := fun q => number_any s 0 ⟨g, p.length * 4 + 3, none⟩ i.z (W.drewN q) hs (hV.next (below_drewN (Below.refl _ _) q)) hc1.1 hc1.2
  go_enter Tryd.func50, Tryd.ntmps50
  go_wp2_with fail
  refine hi.mono ?_
  rintro e w1 ⟨rfl, q, rfl⟩
  go_wp2_with fail
  refine (hnum q).mono ?_
  rintro e w2 ⟨w3, hb3, h⟩
  have hb4 : Below W.heap.size W w3 := ⟨hb3.os, hb3.tape, hb3.output, hb3.size, hb3.block⟩
  rcases h with ⟨hv, rfl, rfl⟩ | ⟨v, hv, rfl, rfl⟩
  · go_wp2_with fail
    go_ret
    have e : tkN .z r s.data.toList = (10, r) := by simp [tkN, hv]
    rw [e]
    exact ⟨rfl, .of_below hb4 hn, fun h => by simp at h⟩
  · go_wp2_with fail
    go_ret
    have e : tkN .z r s.data.toList = (0, { r with prog := p ++ [{ i with z := v }] }) := by simp [tkN, hv, hr, updL_snoc]
    rw [e]
    obtain ⟨s1, s2⟩ := hset w3 hb4 3 v { i with z := v } (by decide) rfl
    exact ⟨rfl, s1, fun _ => s2⟩

set_option maxRecDepth 100000 in
set_option maxHeartbeats 4000000 in
theorem y_any (n0 B : Nat) (r : Rd) (p : List Ins) (i : Ins) (s : ByteArray) (W : World) (hs : s.size ≤ 281474976710656) (hV : Vars W) (hR : RAt n0 B r W) (hr : r.prog = p ++ [i]) :
    Calls Tryd.prog 49 #[.pointer (some ⟨B, 0, none⟩), .string s] W (Takes n0 B (tkN .y r s.data.toList) W) := by
  obtain ⟨g, cap, vl, vw, hB, hpl, hcell, hset⟩ := hR.open_last hr
  have hn : n0 ≤ W.heap.size := by have := (Array.getElem?_eq_some_iff.1 hB).1; have := hR.nB; omega
  have hc1 := hcell 1 (by decide)
  have hc2 := hcell 2 (by decide)
  have hi : ∀ w', (∃ q, w' = W.drewN q) → Calls Tryd.prog 63 #[.pointer (some ⟨B, 0, none⟩)] w' fun e w'' => e = .returned (.pointer (some ⟨g, p.length * 4, none⟩)) ∧ ∃ q, w'' = W.drewN q := by
    rintro w' ⟨q, rfl⟩
    refine (ins_any B g p.length cap vl vw (W.drewN q) hB hpl).mono ?_
    rintro e w'' ⟨rfl, q', rfl⟩
    exact ⟨rfl, q + q', by simp [World.drewN]; try omega⟩
  have hx : ∀ w', (∃ q, w' = W.drewN q) → w'.cell? ⟨g, p.length * 4 + 1, none⟩ = some (.int .i64 i.x) := by
    rintro w' ⟨q, rfl⟩
    exact hc1.1
  have hnum : ∀ w', (∃ q, w' = W.drewN q) → Calls Tryd.prog 62 #[.string s, .int .i64 i.x, .pointer (some ⟨g, p.length * 4 + 2, none⟩)] w' fun e w'' => ∃ w1, Below W.heap.size W w1 ∧
      ((numV s.data.toList i.x = none ∧ e = .returned (.int .i64 10) ∧ w'' = w1) ∨ (∃ v, numV s.data.toList i.x = some v ∧ e = .returned (.int .i64 0) ∧ w'' = w1.setCell ⟨g, p.length * 4 + 2, none⟩ (.int .i64 v))) := by
    rintro w' ⟨q, rfl⟩
    refine (number_any s i.x ⟨g, p.length * 4 + 2, none⟩ i.y (W.drewN q) hs (hV.next (below_drewN (Below.refl _ _) q)) hc2.1 hc2.2).mono ?_
    rintro e w'' ⟨w1, hb, h⟩
    exact ⟨w1, ⟨hb.os, hb.tape, hb.output, hb.size, hb.block⟩, h⟩
  have hfin : ∀ (e : Ending) (w'' : World), (∃ w1, Below W.heap.size W w1 ∧ ((numV s.data.toList i.x = none ∧ e = .returned (.int .i64 10) ∧ w'' = w1) ∨ (∃ v, numV s.data.toList i.x = some v ∧ e = .returned (.int .i64 0) ∧ w'' = w1.setCell ⟨g, p.length * 4 + 2, none⟩ (.int .i64 v)))) → ∃ er, e = .returned (.int .i64 er) ∧ Takes n0 B (tkN .y r s.data.toList) W (.returned (.int .i64 er)) w'' := by
    rintro e w'' ⟨w1, hb, ⟨hv, rfl, rfl⟩ | ⟨v, hv, rfl, rfl⟩⟩
    · have e : tkN .y r s.data.toList = (10, r) := by simp [tkN, hr, lastX_snoc, hv]
      rw [e]
      exact ⟨10, rfl, rfl, .of_below hb hn, fun h => by simp at h⟩
    · have e : tkN .y r s.data.toList = (0, { r with prog := p ++ [{ i with y := v }] }) := by simp [tkN, hv, hr, updL_snoc, lastX_snoc]
      rw [e]
      obtain ⟨s1, s2⟩ := hset w1 hb 2 v { i with y := v } (by decide) rfl
      exact ⟨0, rfl, rfl, s1, fun _ => s2⟩
  generalize Takes n0 B (tkN .y r s.data.toList) W = TK at *
  generalize p.length * 4 = gl at *
  clear hcell hc1 hc2 hB hset hV hR hr
  generalize i.x = ix at *
  have hq0 : ∃ q, W.drew = W.drewN q := ⟨1, rfl⟩
  go_enter Tryd.func49, Tryd.ntmps49
  go_wp2_with fail
  go_region_with (first
    | (go_at_call 63; refine (hi _ (by assumption)).mono ?_; rintro e w1 ⟨rfl, hq⟩; have hxx := hx _ hq)
    | (go_at_call 62; refine (hnum _ (by assumption)).mono ?_; intro e w1 hq; obtain ⟨er, rfl, HTK⟩ := hfin _ _ hq))
  all_goals
    go_wp2_with fail
    go_ret
    assumption
end Go.Proofs.YtggehnnbgeffpaaDoor
