/- Stacks: the program's copied: a stack in memory of its own. -/
import Derived.Test.YtjpbfckdiojghaaPOwn
namespace Go.Proofs.Ytjpbfckdiojghaa
open Go.RowKit

theorem infoG : (Try.prog.info? 35).map (fun i => (i.zero, i.size, i.bytes)) = some (some (.agg #[.int .i64 0, .int .i64 0, .slice none 0 0]), 3, 40) := by kernel_rfl
theorem new_cell3 (W : World) (x y z : Value) (t : TypeId) : ∀ (k : Nat) (u : Value), [x, y, z][k]? = some u → (W.alloc (Obj.cells #[x, y, z] t)).cell? ((⟨W.heap.size, 0, none⟩ : Addr).add k) = some u := by
  intro k u hk
  match k with
  | 0 => simp at hk; subst hk; rw [add_plain]; simp
  | 1 => simp at hk; subst hk; rw [add_plain]; simp
  | 2 => simp at hk; subst hk; rw [add_plain]; simp
  | k + 3 => simp at hk
def okS (l : List Gn) : Prop := ∀ x ∈ l, x.links.length ≤ 1000000

set_option maxRecDepth 100000 in
set_option maxHeartbeats 3200000 in
theorem copied_any (l : List Gn) (v : Value) (w : World) (hl : SlN l v w) (hlen : l.length ≤ 1000000) (hlk : okS l) :
    Calls Try.prog 23 #[.agg #[v]] w fun e w' => ∃ v' L, e = .returned (.agg #[v']) ∧ L.map Prod.fst = l ∧ OwnS w.heap.size L v' w' ∧ Below w.heap.size w w' := by
  obtain ⟨ii, hii, hz0, hz1, hz2⟩ := info_parts info3
  obtain ⟨ig, hig, hge0, hge1, hge2⟩ := info_parts infoG
  have HL : Hid (∀ W, Below w.heap.size w W → SlN l v W) := fun W hb => hl.next hb
  have HLK : Hid (okS l) := hlk
  clear hlk
  obtain ⟨la, lc, rfl, _⟩ := hl
  have B0 : Below w.heap.size w (((w.alloc (Obj.cells #[.slice la l.length lc] 24)).alloc (Obj.cells #[.slice none 0 0] 24)).alloc (Obj.cells #[.slice none 0 0] 24)) := (((Below.refl _ _).alloc (Nat.le_refl _) _).alloc (by simp) _).alloc (by simp; omega) _
  have k0 : (((w.alloc (Obj.cells #[.slice la l.length lc] 24)).alloc (Obj.cells #[.slice none 0 0] 24)).alloc (Obj.cells #[.slice none 0 0] 24)).heap[w.heap.size]? = some (Obj.cells #[.slice la l.length lc] 24) := blk_new (blk_new (heap_alloc_new _ _))
  have k1 : (((w.alloc (Obj.cells #[.slice la l.length lc] 24)).alloc (Obj.cells #[.slice none 0 0] 24)).alloc (Obj.cells #[.slice none 0 0] 24)).heap[w.heap.size + 1]? = some (Obj.cells #[.slice none 0 0] 24) := blk_new (by simpa using heap_alloc_new (w.alloc (Obj.cells #[.slice la l.length lc] 24)) (Obj.cells #[.slice none 0 0] 24))
  have k2 : (((w.alloc (Obj.cells #[.slice la l.length lc] 24)).alloc (Obj.cells #[.slice none 0 0] 24)).alloc (Obj.cells #[.slice none 0 0] 24)).heap[w.heap.size + 1 + 1]? = some (Obj.cells #[.slice none 0 0] 24) := by simpa using heap_alloc_new ((w.alloc (Obj.cells #[.slice la l.length lc] 24)).alloc (Obj.cells #[.slice none 0 0] 24)) (Obj.cells #[.slice none 0 0] 24)
  have HSZ : Hid ((((w.alloc (Obj.cells #[.slice la l.length lc] 24)).alloc (Obj.cells #[.slice none 0 0] 24)).alloc (Obj.cells #[.slice none 0 0] 24)).heap.size = w.heap.size + 3) := by show _ = _; simp
  go_enter Try.func23, Try.ntmps23
  go_wp2_with fail
  generalize ((w.alloc (Obj.cells #[.slice la l.length lc] 24)).alloc (Obj.cells #[.slice none 0 0] 24)).alloc (Obj.cells #[.slice none 0 0] 24) = w0 at *
  go_loopw [9] (fun iv wr => ∃ (i : Nat) (L : List GnV) (mv : Value), iv = .int .i64 i ∧ i ≤ l.length ∧ Hid (L.map Prod.fst = l.take i) ∧ Hid (OwnS w0.heap.size L mv wr) ∧ Below w.heap.size w wr ∧ w0.heap.size ≤ wr.heap.size ∧ Hid (wr.heap[w.heap.size]? = some (Obj.cells #[.slice la l.length lc] 24) ∧ wr.heap[w.heap.size + 1]? = some (Obj.cells #[.slice none 0 0] 24) ∧ wr.heap[w.heap.size + 1 + 1]? = some (Obj.cells #[mv] 24))) (fun i _ => l.length - (intOf i).toNat)
  case atStart => exact ⟨0, [], .slice none 0 0, rfl, Nat.zero_le _, rfl, OwnS.nil _ _, B0, Nat.le_refl _, k0, k1, k2⟩
  case round =>
  obtain ⟨i, L, mv, rfl, hi, HLT, HO, BR, hsz, HB⟩ := hrel
  clear k0 k1 k2 B0
  obtain ⟨k0, k1, k2⟩ := HB.out
  have c0 : wr.cell? ⟨w.heap.size, 0, none⟩ = some (.slice la l.length lc) := by rw [Lib.cell_of_heap k0]; rfl
  have c1 : wr.cell? ⟨w.heap.size + 1, 0, none⟩ = some (.slice none 0 0) := by rw [Lib.cell_of_heap k1]; rfl
  have c2 : wr.cell? ⟨w.heap.size + 1 + 1, 0, none⟩ = some mv := by rw [Lib.cell_of_heap k2]; rfl
  have f1 : wr.frozen? ⟨w.heap.size + 1, 0, none⟩ = false := Lib.frozen_of_heap k1 _
  obtain ⟨ma, mc, rfl⟩ := slice_of_ownK HO.out.nodes
  have hLl : L.length = i := by
    have := congrArg List.length HLT.out
    simp at this; omega
  have HLL : Hid (L.length = i) := hLl
  clear hLl
  by_cases hlt : i < l.length
  case neg =>
    obtain rfl : i = l.length := by omega
    have z : (wr.setCell ⟨w.heap.size + 1, 0, none⟩ (.slice ma L.length mc)).heap[w.heap.size + 1]? = some (Obj.cells #[.slice ma L.length mc] 24) := by
      have := blk_set (o := 0) k1 (.slice ma L.length mc)
      simpa using this
    have HE : Hid (L.map Prod.fst = l ∧ OwnS w.heap.size L (.slice ma L.length mc) (wr.setCell ⟨w.heap.size + 1, 0, none⟩ (.slice ma L.length mc)) ∧ Below w.heap.size w (wr.setCell ⟨w.heap.size + 1, 0, none⟩ (.slice ma L.length mc))) := by
      have hz := HSZ.out
      refine ⟨by rw [HLT.out, List.take_length], ?_, BR.setCell (by simp) _⟩
      have h1 := HO.out.keep (D := fun k => k = w.heap.size + 1) (W' := wr.setCell ⟨w.heap.size + 1, 0, none⟩ (.slice ma L.length mc)) ((But.refl _ _).setCell _ _ (.inr rfl)) (fun k hk => by omega)
      exact h1.mono (by omega)
    clear HL HO HB HSZ HLT HLK
    go_wp2_with fail
    refine bodyPost_ret (results_cell1 rfl _ _ _ rfl (run_loadVar_row _ _ _ _ _ _ _ z Try.underlying24 rfl (by kernel_rfl))) rfl ?_
    exact ⟨_, L, rfl, HE.out⟩
  obtain ⟨_, _, e0, hal, _⟩ := HL.out wr BR
  cases e0
  obtain ⟨b2, o2, u, rfl, hb2, q0, q1, q2, hsx, x64, y64, _⟩ := hal.at (Below.refl _ _) hlt
  have HLX : Hid (l.take (i + 1) = l.take i ++ [l[i]] ∧ l[i].links.length ≤ 1000000) := ⟨List.take_succ_eq_append_getElem hlt, HLK.out _ (List.getElem_mem hlt)⟩
  have hxl := HLX.out.2
  generalize l[i] = x at *
  obtain ⟨xs, xp, xk⟩ := x
  simp only at *
  obtain ⟨xa, xc, rfl⟩ : ∃ xa xc, u = .slice xa xk.length xc := hsx.imp fun _ h => h.imp fun _ h => h.1
  have HSX : Hid (SlI xk (.slice xa xk.length xc) (wr.alloc (Obj.cells #[.int .i64 xs, .int .i64 xp, .slice xa xk.length xc] 35))) := hsx.next ((Below.refl _ _).alloc (Nat.le_refl _) _)
  have HX64 : Hid (i64B xs ∧ i64B xp ∧ ∀ y ∈ xk, i64B y) := ⟨x64, y64, by obtain ⟨_, _, _, _, _, _, h⟩ := hsx; exact h⟩
  have hza : (wr.alloc (Obj.cells #[.int .i64 xs, .int .i64 xp, .slice xa xk.length xc] 35)).heap.size = wr.heap.size + 1 := by simp
  have ka : (wr.alloc (Obj.cells #[.int .i64 xs, .int .i64 xp, .slice xa xk.length xc] 35)).heap[wr.heap.size]? = some (Obj.cells #[.int .i64 xs, .int .i64 xp, .slice xa xk.length xc] 35) := heap_alloc_new _ _
  have BA : But (fun _ => False) wr (wr.alloc (Obj.cells #[.int .i64 xs, .int .i64 xp, .slice xa xk.length xc] 35)) := But.of_next ((Below.refl _ _).alloc (Nat.le_refl _) _)
  clear hal hsx x64 y64
  go_wp2_with (at_builtin; refine wpList_append_sl rfl (.const (.slice none 0 0)) (.tmp 14) rfl w0.heap.size [] xk _ _ rfl rfl (World.ownsRow_nil _ _ _ _) HSX.out (by simp; omega) (by rw [hza]; omega) ?_)
  generalize wr.alloc (Obj.cells #[.int .i64 xs, .int .i64 xp, .slice xa xk.length xc] 35) = wa at *
  intro uv w1 hu1 hg1 hat1
  have hs1 := hg1.size
  have B1 : But (fun _ => False) wr w1 := BA.grown hg1 (fun r e => by cases e)
  have kb : w1.heap[wr.heap.size]? = some (Obj.cells #[.int .i64 xs, .int .i64 xp, .slice xa xk.length xc] 35) := (hg1.block _ (blk_lt ka) (fun e => by cases e)).trans ka
  have hun : ∀ k, uv.ownBlock = some k → wr.heap.size < k := fun k hk => by
    rcases hat1 with h | h
    · rw [h] at hk; cases hk
    · rw [h] at hk; cases hk; omega
  have HUN : Hid (∀ k, uv.ownBlock = some k → wr.heap.size < k) := hun
  obtain ⟨ua, uc, rfl⟩ := slice_of_own hu1.own
  obtain ⟨nb, hnb⟩ : ∃ nb, nb = wr.heap.size := ⟨_, rfl⟩
  rw [← hnb] at kb
  have HNB : Hid (nb = wr.heap.size) := hnb
  have kc : (w1.setCell ⟨nb, 2, none⟩ (.slice ua xk.length uc)).heap[nb]? = some (Obj.cells #[.int .i64 xs, .int .i64 xp, .slice ua xk.length uc] 35) := by
    have := blk_set (o := 2) kb (.slice ua xk.length uc)
    simpa using this
  have hb3 : nb < w1.heap.size := blk_lt kb
  have hnB : w0.heap.size ≤ nb := by rw [hnb]; exact hsz
  have B2 : But (fun _ => False) wr (w1.setCell ⟨nb, 2, none⟩ (.slice ua xk.length uc)) := B1.setCell _ _ (.inl (by rw [hnb]; exact Nat.le_refl _))
  have HU2 : Hid (OwnI w0.heap.size xk (.slice ua xk.length uc) (w1.setCell ⟨nb, 2, none⟩ (.slice ua xk.length uc))) := ownsRow_keep (D := fun k => k = nb) hu1 ((But.refl _ _).setCell _ _ (.inr rfl)) (fun j hj e => by have := HUN.out j hj; omega)
  have hz3 := HSZ.out
  have d2 : (w1.setCell ⟨nb, 2, none⟩ (.slice ua xk.length uc)).cell? ⟨w.heap.size + 1 + 1, 0, none⟩ = some (.slice ma L.length mc) := (B2.cell (p := ⟨w.heap.size + 1 + 1, 0, none⟩) (blk_lt k2) (fun h => h)).trans c2
  have n0 : (w1.setCell ⟨nb, 2, none⟩ (.slice ua xk.length uc)).cell? ⟨nb, 0, none⟩ = some (.int .i64 xs) := by rw [Lib.cell_of_heap kc]; rfl
  have n1 : (w1.setCell ⟨nb, 2, none⟩ (.slice ua xk.length uc)).cell? ⟨nb, 1, none⟩ = some (.int .i64 xp) := by rw [Lib.cell_of_heap kc]; rfl
  have n2 : (w1.setCell ⟨nb, 2, none⟩ (.slice ua xk.length uc)).cell? ⟨nb, 2, none⟩ = some (.slice ua xk.length uc) := by rw [Lib.cell_of_heap kc]; rfl
  have fb : w1.frozen? ⟨nb, 2, none⟩ = false := Lib.frozen_of_heap kb _
  have nb2 : w1.cell? ⟨nb, 2, none⟩ = some (.slice xa xk.length xc) := by rw [Lib.cell_of_heap kb]; rfl
  obtain ⟨ws, HWS⟩ : ∃ ws, Hid (ws = w1.setCell ⟨nb, 2, none⟩ (.slice ua xk.length uc)) := ⟨_, rfl⟩
  have HO2 : Hid (OwnS w0.heap.size L (.slice ma L.length mc) ws) := by
    rw [HWS.out]
    exact HO.out.keep (D := fun _ => False) B2 (fun _ h => h.elim)
  rw [← HWS.out] at d2 n0 n1 n2 B2 HU2 kc
  have HNW := new_cell3 ws (.int .i64 xs) (.int .i64 xp) (.slice ua xk.length uc) 35
  have HON : Hid ((ws.alloc (Obj.cells #[.int .i64 xs, .int .i64 xp, .slice ua xk.length uc] 35)).ownsRow w0.heap.size 35 3 (.slice ma L.length mc) L.length (L.flatMap encG)) := World.ownsRow.alloc HO2.out.nodes _
  have hszn : w0.heap.size ≤ (ws.alloc (Obj.cells #[.int .i64 xs, .int .i64 xp, .slice ua xk.length uc] 35)).heap.size := by have := B2.size; simp; omega
  have hLi : L.length ≤ i := by have := HLL.out; omega
  have HBA : Hid (But (fun _ => False) wr (ws.alloc (Obj.cells #[.int .i64 xs, .int .i64 xp, .slice ua xk.length uc] 35))) := B2.trans (But.of_next ((Below.refl _ _).alloc (Nat.le_refl _) _))
  have HUA : Hid (OwnI w0.heap.size xk (.slice ua xk.length uc) (ws.alloc (Obj.cells #[.int .i64 xs, .int .i64 xp, .slice ua xk.length uc] 35))) := World.ownsRow.alloc HU2.out _
  clear hu1 hg1 hat1 hun B1 BA HSX ka c0 q0 q1 q2 hnb k0 k1 c1 f1 HU2
  rw [← HNB.out]
  go_upto_region 6 with fail
  rw [← HWS.out]
  clear fb nb2 kb
  go_wp2_with (at_builtin; refine wpList_append_own_at _ rfl (.tmp 18) (.tmp 20) 22 rfl w0.heap.size 35 ig _ 3 40 Try.underlying22 hig hge0 hge1 hge2 rfl (by omega) _ _ _ rfl HON.out _ 1 1 [.int .i64 xs, .int .i64 xp, .slice ua xk.length uc] rfl rfl HNW (by simp [Value.oneCell']) (by unfold maxLen; omega) (by omega) hszn ?_)
  intro v3 w3 hown3 hg3 _ _
  rw [← hz3] at hown3
  have hs3 := hg3.size
  obtain ⟨va, vc, rfl⟩ := slice_of_ownK hown3
  have B3 : But (fun k => (Value.slice ma L.length mc).ownBlock = some k ∨ k = w.heap.size + 1 + 1) wr w3 := by
    refine (HBA.out.mono (fun _ _ h => h.elim)).trans ⟨hg3.os, hg3.tape, hg3.output, hg3.size, fun k hk hD => hg3.block k hk (fun e => hD (.inl e.symm))⟩
  have HMB : Hid (∀ k, (Value.slice ma L.length mc).ownBlock = some k → w0.heap.size ≤ k) := fun k hk => (World.ownsRow.lt HO.out.nodes k hk).1
  have hne : ∀ k, k < w0.heap.size → some k ≠ (Value.slice ma L.length mc).ownBlock := fun k hk e => by have := HMB.out k e.symm; omega
  obtain ⟨k0, k1, _⟩ := HB.out
  have g0 : w3.heap[w.heap.size]? = some (Obj.cells #[.slice (some ⟨b2, o2, none⟩) l.length lc] 24) := (hg3.block _ (Nat.lt_of_lt_of_le (blk_lt k0) HBA.out.size) (hne _ (by omega))).trans (but_blk HBA.out k0 (fun h => h))
  have g1 : w3.heap[w.heap.size + 1]? = some (Obj.cells #[.slice none 0 0] 24) := (hg3.block _ (Nat.lt_of_lt_of_le (blk_lt k1) HBA.out.size) (hne _ (by omega))).trans (but_blk HBA.out k1 (fun h => h))
  have g2 : w3.heap[w.heap.size + 1 + 1]? = some (Obj.cells #[.slice ma L.length mc] 24) := (hg3.block _ (Nat.lt_of_lt_of_le (blk_lt k2) HBA.out.size) (hne _ (by omega))).trans (but_blk HBA.out k2 (fun h => h))
  have z2 : w3.cell? ⟨w.heap.size + 1 + 1, 0, none⟩ = some (.slice ma L.length mc) := by rw [Lib.cell_of_heap g2]; rfl
  have zf : w3.frozen? ⟨w.heap.size + 1 + 1, 0, none⟩ = false := Lib.frozen_of_heap g2 _
  have HUF : Hid (OwnI w0.heap.size xk (.slice ua xk.length uc) w3) := ownsRow_keep (D := fun k => (Value.slice ma L.length mc).ownBlock = some k) HUA.out ⟨hg3.os, hg3.tape, hg3.output, hg3.size, fun k hk hD => hg3.block k hk (fun e => hD e.symm)⟩ (fun j hj hD => own_types HON.out HUA.out.own (by decide) j hD hj)
  have HF : Hid (∀ wf, wf = w3.setCell ⟨w.heap.size + 1 + 1, 0, none⟩ (.slice va (L.length + 1) vc) → (L ++ [((⟨xs, xp, xk⟩ : Gn), Value.slice ua xk.length uc)]).map Prod.fst = l.take (i + 1) ∧ OwnS w0.heap.size (L ++ [((⟨xs, xp, xk⟩ : Gn), Value.slice ua xk.length uc)]) (.slice va (L.length + 1) vc) wf ∧ Below w.heap.size w wf ∧ w0.heap.size ≤ wf.heap.size ∧ (wf.heap[w.heap.size]? = some (Obj.cells #[.slice (some ⟨b2, o2, none⟩) l.length lc] 24) ∧ wf.heap[w.heap.size + 1]? = some (Obj.cells #[.slice none 0 0] 24) ∧ wf.heap[w.heap.size + 1 + 1]? = some (Obj.cells #[.slice va (L.length + 1) vc] 24))) := by
    rintro wf rfl
    have B4 : But (fun k => (Value.slice ma L.length mc).ownBlock = some k ∨ k = w.heap.size + 1 + 1) wr (w3.setCell ⟨w.heap.size + 1 + 1, 0, none⟩ (.slice va (L.length + 1) vc)) := B3.setCell _ _ (.inr (.inr rfl))
    refine ⟨by rw [List.map_append, HLT.out, HLX.out.1]; rfl, HO.out.snoc (B4.mono (fun k _ h => h.imp id (fun e => by omega))) ?_ ?_ (fun k hk => Nat.le_of_lt (HUN.out k hk)) ⟨HX64.out.1, HX64.out.2.1, HX64.out.2.2, HLX.out.2⟩, ?_, ?_, ?_, ?_, ?_⟩
    · exact ownsRow_keep (D := fun k => k = w.heap.size + 1 + 1) hown3 ((But.refl _ _).setCell _ _ (.inr rfl)) (fun j hj e => by have := (World.ownsRow.lt hown3 j hj).1; omega)
    · exact ownsRow_keep (D := fun k => k = w.heap.size + 1 + 1) HUF.out ((But.refl _ _).setCell _ _ (.inr rfl)) (fun j hj e => by have := (World.ownsRow.lt HUF.out.own j hj).1; omega)
    · refine BR.trans (B4.below BR.size (fun k hk => ?_))
      rcases hk with hk | hk
      · have := HMB.out k hk; omega
      · omega
    · have := B4.size; omega
    · exact set_blk g0 (by omega)
    · exact set_blk g1 (by omega)
    · simpa using blk_set (o := 0) g2 (.slice va (L.length + 1) vc)
  clear hown3 hg3 B3 g0 g1 HUF HUA HON HBA HO HO2 HNW HL HX64 HLT HLX HB hne HWS
  go_wp2_with fail
  obtain ⟨f1, f2, f3, f4, f5⟩ := HF.out _ rfl
  exact ⟨⟨i + 1, _, _, by go_num, by omega, f1, f2, f3, f4, f5⟩, by simp [intOf]; omega⟩
end Go.Proofs.Ytjpbfckdiojghaa
