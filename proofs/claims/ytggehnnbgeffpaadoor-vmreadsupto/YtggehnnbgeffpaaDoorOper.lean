/- operation: a new operation begins. -/
import Derived.Test.YtggehnnbgeffpaaDoorTake
import Derived.Test.YtggehnnbgeffpaaDoorKind
namespace Go.Proofs.YtggehnnbgeffpaaDoor
open Go.Shelf Go.RowKit Go.Lib Go.Proofs

theorem info39 : (Tryd.prog.info? 39).map (fun i => (i.zero, i.size, i.bytes)) = some (some (.agg #[.int .i64 0, .int .i64 0, .int .i64 0, .int .i64 0]), 4, 32) := by kernel_rfl
theorem info3 : (Tryd.prog.info? 3).map (fun i => (i.zero, i.size, i.bytes)) = some (some (.int .i64 0), 1, 8) := by kernel_rfl
theorem cells4 (i : Ins) (W : World) (t : TypeId) (k : Nat) (hk : k = W.heap.size) : ∀ (j : Nat) (u : Value), (encI i)[j]? = some u → (W.alloc (.cells #[.int .i64 i.op, .int .i64 i.x, .int .i64 i.y, .int .i64 i.z] t)).cell? ((⟨k, 0, none⟩ : Addr).add j) = some u := by
  subst hk
  intro j u hj
  have hadd : (⟨W.heap.size, 0, none⟩ : Addr).add j = ⟨W.heap.size, j, none⟩ := by unfold Addr.add; split <;> simp_all
  rw [hadd]
  match j, hj with
  | 0, hj => simpa [encI] using hj
  | 1, hj => simpa [encI] using hj
  | 2, hj => simpa [encI] using hj
  | 3, hj => simpa [encI] using hj
  | j + 4, hj => simp [encI] at hj

/-- The reader's box, its three slices apart. -/
structure RB (n0 B : Nat) (vp vl vw : Value) (prog : List Ins) (last : List Int) (want : List Tk) (W : World) : Prop where
  nB : n0 ≤ B
  hB : W.heap[B]? = some (.cells #[vp, vl, vw] 46 (0, 0))
  hp : W.ownsRow n0 39 4 vp prog.length (prog.flatMap encI)
  hl : W.ownsRow n0 3 1 vl last.length (last.map (.int .i64))
  hw : WantAt vw want W
theorem RB.lt {n0 B : Nat} {vp vl vw : Value} {prog : List Ins} {last : List Int} {want : List Tk} {W : World} (h : RB n0 B vp vl vw prog last want W) : B < W.heap.size := (Array.getElem?_eq_some_iff.1 h.hB).1
theorem RB.cells {n0 B : Nat} {vp vl vw : Value} {prog : List Ins} {last : List Int} {want : List Tk} {W : World} (h : RB n0 B vp vl vw prog last want W) :
    W.cell? ⟨B, 0, none⟩ = some vp ∧ W.cell? ⟨B, 1, none⟩ = some vl ∧ W.cell? ⟨B, 2, none⟩ = some vw ∧ W.frozen? ⟨B, 0, none⟩ = false ∧ W.frozen? ⟨B, 1, none⟩ = false ∧ W.frozen? ⟨B, 2, none⟩ = false :=
  ⟨by rw [cell_of_obj h.hB]; rfl, by rw [cell_of_obj h.hB]; rfl, by rw [cell_of_obj h.hB]; rfl, by simp [World.frozen?, h.hB], by simp [World.frozen?, h.hB], by simp [World.frozen?, h.hB]⟩
theorem RB.next {n0 B : Nat} {vp vl vw : Value} {prog : List Ins} {last : List Int} {want : List Tk} {W W' : World} (h : RB n0 B vp vl vw prog last want W) (hb : Below W.heap.size W W') : RB n0 B vp vl vw prog last want W' :=
  ⟨h.nB, (hb.block B h.lt).trans h.hB, own_next h.hp hb, own_next h.hl hb, h.hw.kept fun k _ _ hk => (hb.block k (Array.getElem?_eq_some_iff.1 hk).1).trans hk⟩
theorem grown_set' (W : World) (B j : Nat) (v : Value) : W.grownBy (W.setCell ⟨B, j, none⟩ v) (some B) :=
  ⟨rfl, rfl, rfl, by simp [World.setCell], fun i _ hr => Below.heap_setCell _ _ _ _ (by intro e; exact hr (congrArg some e))⟩
/-- A row is grown: the other things lie as they lay. -/
theorem RB.grow {n0 B : Nat} {vp vl vw : Value} {prog : List Ins} {last : List Int} {want : List Tk} {W W2 : World} {o : Obj} {e : TypeId} {size n : Nat} {v : Value} {xs : List Value} (h : RB n0 B vp vl vw prog last want W) (hO : W.ownsRow n0 e size v n xs) (he : e = 39 ∨ e = 3) (hg : (W.alloc o).grownBy W2 v.ownBlock) :
    RStep n0 W W2 ∧ W2.heap[B]? = some (.cells #[vp, vl, vw] 46 (0, 0)) ∧ WantAt vw want W2 ∧ (e ≠ 39 → W2.ownsRow n0 39 4 vp prog.length (prog.flatMap encI)) ∧ (e ≠ 3 → W2.ownsRow n0 3 1 vl last.length (last.map (.int .i64))) := by
  have hn : n0 ≤ W.heap.size := by have := h.lt; have := h.nB; omega
  have ha := h.next ((Below.refl _ W).alloc (Nat.le_refl _) o)
  have hOa := World.ownsRow.alloc hO o
  have hs1 : RStep n0 W (W.alloc o) := .of_below ((Below.refl _ W).alloc (Nat.le_refl _) o) hn
  have hs2 : RStep n0 (W.alloc o) W2 := .of_grown hg (by simp; omega) (fun k e' => by
    obtain ⟨cur, h1, h2⟩ := owns_type hOa e'
    rcases he with rfl | rfl
    · exact ⟨h2, _, _, .inl h1⟩
    · exact ⟨h2, _, _, .inr (.inl h1)⟩)
  have keep : ∀ {e' : TypeId} {size' n' : Nat} {v' : Value} {xs' : List Value}, (W.alloc o).ownsRow n0 e' size' v' n' xs' → e ≠ e' → W2.ownsRow n0 e' size' v' n' xs' := fun {e' size' n' v' xs'} h' hne => by
    cases hv : v.ownBlock with
    | none => rw [hv] at hg; exact h'.kept hg (by cases v'.ownBlock <;> simp)
    | some g =>
      rw [hv] at hg
      obtain ⟨cur, h1, _⟩ := owns_type hOa hv
      exact owns_other h' hg h1 (fun e' => hne e'.symm)
  refine ⟨hs1.trans hs2, ?_, ha.hw.step hs2, fun hne => keep ha.hp hne, fun hne => keep ha.hl hne⟩
  refine (hg.block B ha.lt fun e' => ?_).trans ha.hB
  obtain ⟨cur, h1, _⟩ := owns_type hOa e'.symm
  rw [ha.hB] at h1
  rcases he with rfl | rfl <;> cases h1
theorem RB.setP {n0 B : Nat} {vp vl vw v1 : Value} {prog : List Ins} {last : List Int} {want : List Tk} {W W2 : World} {i : Ins} (h : RB n0 B vp vl vw prog last want W) {o : Obj} (hg : (W.alloc o).grownBy W2 vp.ownBlock) (hO : W2.ownsRow n0 39 4 v1 (prog.length + 1) (prog.flatMap encI ++ encI i)) :
    RB n0 B v1 vl vw (prog ++ [i]) last want (W2.setCell ⟨B, 0, none⟩ v1) ∧ RStep n0 W (W2.setCell ⟨B, 0, none⟩ v1) := by
  obtain ⟨s1, hB2, hw2, _, hl2⟩ := h.grow h.hp (.inl rfl) hg
  have hst : RStep n0 W2 (W2.setCell ⟨B, 0, none⟩ v1) := .of_grown (grown_set' W2 B 0 v1) (by have := (Array.getElem?_eq_some_iff.1 hB2).1; have := h.nB; omega) (fun k e => by cases e; exact ⟨h.nB, _, _, .inr (.inr hB2)⟩)
  refine ⟨⟨h.nB, by rw [heap_set W2 B 0 _ _ _ hB2 v1]; rfl, ?_, owns_other (hl2 (by decide)) (grown_set' W2 B 0 v1) hB2 (by decide), hw2.step hst⟩, s1.trans hst⟩
  have e : (prog ++ [i]).flatMap encI = prog.flatMap encI ++ encI i := by simp
  rw [e, List.length_append]
  exact owns_other hO (grown_set' W2 B 0 v1) hB2 (by decide)
theorem RB.setL {n0 B : Nat} {vp vl vw v1 : Value} {prog : List Ins} {last : List Int} {want : List Tk} {W W2 : World} {x : Int} (h : RB n0 B vp vl vw prog last want W) {o : Obj} (hg : (W.alloc o).grownBy W2 vl.ownBlock) (hO : W2.ownsRow n0 3 1 v1 (last.length + 1) (last.map (.int .i64) ++ [.int .i64 x])) :
    RB n0 B vp v1 vw prog (last ++ [x]) want (W2.setCell ⟨B, 1, none⟩ v1) ∧ RStep n0 W (W2.setCell ⟨B, 1, none⟩ v1) := by
  obtain ⟨s1, hB2, hw2, hp2, _⟩ := h.grow h.hl (.inr rfl) hg
  have hst : RStep n0 W2 (W2.setCell ⟨B, 1, none⟩ v1) := .of_grown (grown_set' W2 B 1 v1) (by have := (Array.getElem?_eq_some_iff.1 hB2).1; have := h.nB; omega) (fun k e => by cases e; exact ⟨h.nB, _, _, .inr (.inr hB2)⟩)
  refine ⟨⟨h.nB, by rw [heap_set W2 B 1 _ _ _ hB2 v1]; rfl, owns_other (hp2 (by decide)) (grown_set' W2 B 1 v1) hB2 (by decide), ?_, hw2.step hst⟩, s1.trans hst⟩
  rw [List.map_append, List.length_append]
  exact owns_other hO (grown_set' W2 B 1 v1) hB2 (by decide)

set_option maxRecDepth 100000 in
set_option maxHeartbeats 4000000 in
theorem operation_any (n0 B : Nat) (r : Rd) (s : ByteArray) (W : World) (hV : Vars W) (h4 : 4 < n0) (hR : RAt n0 B r W) :
    Calls Tryd.prog 18 #[.pointer (some ⟨B, 0, none⟩), .string s] W (Takes n0 B (tkN .op r s.data.toList) W) := by
  obtain ⟨i0, hi, hz0, hz1, hz2⟩ := info_parts info39
  obtain ⟨j0, hj, hy0, hy1, hy2⟩ := info_parts info3
  obtain ⟨vp, vl, vw, hB, hp, hl, hw⟩ := hR.ex
  have hRB : RB n0 B vp vl vw r.prog r.last r.want W := ⟨hR.nB, hB, hp, hl, hw⟩
  have hn : n0 ≤ W.heap.size := by have := hRB.lt; have := hRB.nB; omega
  have hle := hR.le
  have hle2 := hR.len
  have hkind := kindOf_any s W hV.forms
  go_enter Tryd.func18, Tryd.ntmps18
  go_wp2_with fail
  refine hkind.mono ?_
  rintro e w1 ⟨rfl, hb1⟩
  have hRB1 := hRB.next hb1
  have hV1 := hV.next hb1
  have hs1 : RStep n0 W w1 := .of_below hb1 hn
  clear hkind hp hl hw hB hRB
  cases hk : kindN s.data.toList with
  | none =>
    have hkv : kindV s.data.toList = .tuple #[.int .i64 0, .bool false] := by unfold kindV; rw [hk]
    have e : tkN .op r s.data.toList = (10, r) := by simp [tkN, hk]
    rw [hkv]
    have HE : Hid (tkN .op r s.data.toList = (10, r)) := e
    go_wp2_with fail
    go_ret
    rw [HE.out]
    exact ⟨rfl, hs1, fun h => by simp at h⟩
  | some k =>
    have hk8 : k < 8 := by
      unfold kindN at hk
      have := List.mem_of_find?_eq_some hk
      simpa using this
    have hkv : kindV s.data.toList = .tuple #[.int .i64 k, .bool true] := by unfold kindV; rw [hk]
    rw [hkv]
    obtain ⟨c0, c1, c2, f0, f1, f2⟩ := hRB1.cells
    obtain ⟨ao, cap, rfl⟩ : ∃ ao cap, vp = .slice ao r.prog.length cap := by
      rcases hRB1.hp.2 with ⟨rfl, h0⟩ | ⟨g, cap, cur, rfl, _⟩
      · exact ⟨_, _, by rw [h0]⟩
      · exact ⟨_, _, rfl⟩
    by_cases h64 : r.prog.length = 64
    · have HE : Hid (tkN .op r s.data.toList = (15, r)) := by
        show _ = _
        simp [tkN, hk, h64]
      have k64 : ((r.prog.length : Int) == 64) = true := by simp [h64]
      go_wp2_with fail
      go_ret
      rw [HE.out]
      exact ⟨rfl, hs1, fun h => by simp at h⟩
    · have HE : Hid (tkN .op r s.data.toList = (0, ⟨r.prog ++ [⟨k, 0, 0, 0⟩], r.last ++ [0], takersN k⟩)) := by
        show _ = _
        simp [tkN, hk, h64]
      have k64 : ((r.prog.length : Int) == 64) = false := beq_eq_false_iff_ne.2 (by omega)
      have hlt := hRB1.lt
      have hB0 := hRB1.nB
      go_wp2_with (at_builtin; refine wpList_append_own _ rfl _ _ 22 rfl n0 39 i0 _ 4 32 Tryd.underlying22 hi hz0 hz1 hz2 rfl (by decide) _ _ _ rfl (World.ownsRow.alloc hRB1.hp _) ⟨w1.heap.size, 0, none⟩ 1 1 (encI ⟨k, 0, 0, 0⟩) rfl rfl (cells4 ⟨k, 0, 0, 0⟩ _ _ _ rfl) (fun u hu => by simp [encI] at hu; rcases hu with rfl | rfl | rfl | rfl <;> rfl) (by unfold maxLen; omega) (by omega) (by simp; omega) ?_)
      intro v1 w2 hO2 hg2 _
      obtain ⟨t1, hB2, -⟩ := hRB1.grow hRB1.hp (.inl rfl) hg2
      obtain ⟨hRB2, hs2⟩ := hRB1.setP hg2 hO2
      obtain ⟨g2, cp2, rfl⟩ := ownsRow_succ hO2
      have hV2 := hV1.nextB h4 t1.below
      have hV2' := hV1.nextB h4 hs2.below
      have d0 : w2.cell? ⟨B, 0, none⟩ = some (.slice ao r.prog.length cap) := by rw [cell_of_obj hB2]; rfl
      have d1 : w2.cell? ⟨B, 1, none⟩ = some vl := by rw [cell_of_obj hB2]; rfl
      have e0 : w2.frozen? ⟨B, 0, none⟩ = false := by simp [World.frozen?, hB2]
      have hlt2 := hRB2.lt
      have hz2s : n0 ≤ w2.heap.size := by have := hRB2.lt; simp at this; omega
      clear hO2 hg2 hRB1 c0 c1 c2 f0 f1 f2 hb1 t1
      go_wp2_with (at_builtin; refine wpList_append_own _ rfl _ _ 44 rfl n0 3 j0 _ 1 8 Tryd.underlying44 hj hy0 hy1 hy2 rfl (by decide) _ _ _ rfl (World.ownsRow.alloc hRB2.hl _) ⟨_, 0, none⟩ 1 1 [.int .i64 0] rfl rfl (cells1' _ _ _ _ (by simp)) (fun u hu => by simp at hu; subst hu; rfl) (by unfold maxLen; omega) (by omega) (by simp; omega) ?_)
      intro v3 w3 hO3 hg3 _
      rw [← hle2] at hO3
      obtain ⟨t3, hB3, -⟩ := hRB2.grow hRB2.hl (.inr rfl) hg3
      obtain ⟨hRB3, hs3⟩ := hRB2.setL hg3 hO3
      obtain ⟨g3, cp3, rfl⟩ := ownsRow_succ hO3
      have hV3 := hV2'.nextB h4 t3.below
      obtain ⟨w0, x0, y0, z0⟩ := hV3.forms.all k hk8
      have d1 : w3.cell? ⟨B, 1, none⟩ = some vl := by rw [cell_of_obj hB3]; rfl
      have e1 : w3.frozen? ⟨B, 1, none⟩ = false := by simp [World.frozen?, hB3]
      have hlt3 : B < w3.heap.size := (Array.getElem?_eq_some_iff.1 hB3).1
      have hB00 : B ≠ 0 := by omega
      have hs13 := (hs1.trans hs2).trans hs3
      clear hO3 hg3 hRB2 hs1 hs2 hs3 hB2
      go_wp2_with fail
      rw [hle2] at hRB3 hs13
      refine (numbersOf_any _ _ _ _ _).mono ?_
      rintro e w5 ⟨v, rfl, hT, hb5⟩
      have hRB4 := hRB3.next hb5
      have hRA : RAt n0 B ⟨r.prog ++ [⟨k, 0, 0, 0⟩], r.last ++ [0], r.want⟩ w5 := ⟨hRB4.nB, by simp [hle2], by simp; omega, _, _, _, hRB4.hB, hRB4.hp, hRB4.hl, hRB4.hw⟩
      obtain ⟨s5, hR5⟩ := hRA.setWant hT.want
      obtain ⟨vo, vn, vc, rfl⟩ : ∃ vo vn vc, v = .slice vo vn vc := by
        rcases hT.2 with ⟨rfl, _⟩ | ⟨g, cap, cur, rfl, _⟩ <;> exact ⟨_, _, _, rfl⟩
      obtain ⟨c0, c1, c2, f0, f1, f2⟩ := hRB4.cells
      have hlt5 := hRB4.lt
      have hst5 : RStep n0 W (w5.setCell ⟨B, 2, none⟩ (.slice vo vn vc)) := (hs13.trans (.of_below hb5 (by have := hRB3.lt; omega))).trans s5
      have HR5 : Hid (RAt n0 B ⟨r.prog ++ [⟨k, 0, 0, 0⟩], r.last ++ [0], takersN k⟩ (w5.setCell ⟨B, 2, none⟩ (.slice vo vn vc))) := hR5
      clear hRB3 hRB4 hRA hR5 s5 hs13 hT hb5 w0 x0 y0 z0 t3 hB3
      go_wp2_with fail
      go_ret
      rw [HE.out]
      exact ⟨rfl, hst5, fun _ => HR5.out⟩
end Go.Proofs.YtggehnnbgeffpaaDoor
