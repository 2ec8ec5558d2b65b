/- Stacks: the document's with: a stack with one node more, told anew. -/
import Derived.Test.YtjpbfckdiojghaaWMath
import Derived.Test.YtjpbfckdiojghaaHeldTwo
import Derived.Test.YtjpbfckdiojghaaPPush2
import Derived.Test.YtjpbfckdiojghaaLAwake
namespace Go.Proofs.Ytjpbfckdiojghaa
open Go.RowKit

theorem befS (a b : Gn) : befB a b = decide (ltS (spG a) (spG b)) := by unfold befB ltS spG; rfl
theorem open_get {i0 : Nat} {x : Gn} {l : List Gn} (h : i0 ≤ l.length) (k : Nat) : (openG i0 x l)[k]? = if k < i0 then (l[k]?).map (incG i0) else if k = i0 then some x else (l[k - 1]?).map (incG i0) := by
  have hl : ((l.map (incG i0)).take i0).length = i0 := by simp; omega
  unfold openG
  split
  · rename_i hk
    rw [List.append_assoc, List.getElem?_append_left (by omega), List.getElem?_take, if_pos hk, List.getElem?_map]
  · split
    · rename_i hk; subst hk
      rw [List.append_assoc, List.getElem?_append_right (by omega), hl, Nat.sub_self]; rfl
    · rw [List.getElem?_append_right (by simp; omega)]
      have e : k - ((l.map (incG i0)).take i0 ++ [x]).length = k - 1 - i0 := by simp; omega
      rw [e, List.getElem?_drop, List.getElem?_map]
      congr 2
      omega
theorem take_snoc {α : Type} {l : List α} {k : Nat} {x : α} (h : l[k]? = some x) : l.take (k + 1) = l.take k ++ [x] := by
  obtain ⟨hl, rfl⟩ := List.getElem?_eq_some_iff.1 h
  exact List.take_succ_eq_append_getElem hl
/-- One node more, behind the others. -/
theorem OwnS.snoc2 {B : Nat} {L : List GnV} {v v' u : Value} {x : Gn} {W W' : World} (h : OwnS B L v W) (hb : But (fun k => v.ownBlock = some k) W W') (hn : W'.ownsRow B 35 3 v' (L.length + 1) (L.flatMap encG ++ [.int .i64 x.st, .int .i64 x.pl, u])) (hu : OwnI B x.links u W') (hap : ∀ p ∈ L, ∀ k, p.2.ownBlock = some k → u.ownBlock ≠ some k) (hx : okG x) : OwnS B (L ++ [(x, u)]) v' W' := by
  refine ⟨by rw [flat_snoc]; simpa [encG] using hn, fun p hp => ?_, ?_, fun p hp => ?_⟩
  · rcases List.mem_append.1 hp with hp | hp
    · exact ownsRow_keep (h.links p hp) hb (fun j hj hD => own_types h.nodes (h.links p hp).own (by decide) j hD hj)
    · simp at hp; subst hp; exact hu
  · rw [List.pairwise_append]
    refine ⟨h.part, List.pairwise_singleton _ _, fun p hp q hq k hk hk' => ?_⟩
    simp at hq; subst hq
    exact hap p hp k hk hk'
  · rcases List.mem_append.1 hp with hp | hp
    · exact h.ok p hp
    · simp at hp; subst hp; exact hx

theorem OwnS.keepD {B : Nat} {L : List GnV} {v : Value} {W W' : World} {D : Nat → Prop} (h : OwnS B L v W) (hb : But D W W') (h1 : ∀ k, v.ownBlock = some k → ¬ D k) (h2 : ∀ p ∈ L, ∀ k, p.2.ownBlock = some k → ¬ D k) : OwnS B L v W' :=
  ⟨ownsRow_keep h.nodes hb h1, fun p hp => ownsRow_keep (h.links p hp) hb (h2 p hp), h.part, h.ok⟩

set_option maxRecDepth 100000 in
set_option maxHeartbeats 8000000 in
theorem with_any (l : List Gn) (v : Value) (st pl : Int) (xl : Value) (w : World) (hl : SlN l v w) (hlen : l.length ≤ 5000) (hlk : ∀ x ∈ l, x.links.length ≤ 1000000 ∧ ∀ y ∈ x.links, 0 ≤ y ∧ y < 1000000) (hs : i64B st) (hp : i64B pl) (hxl : ∃ a n c, xl = .slice a n c) :
    Calls Try.prog 28 #[.agg #[v], .agg #[.int .i64 st, .int .i64 pl, xl]] w fun e w' => ∃ v' L, e = .returned (.agg #[v']) ∧ L.map Prod.fst = openG (posG l (pl, st)) ⟨st, pl, []⟩ l ∧ OwnS w.heap.size L v' w' ∧ Below w.heap.size w w' := by
  obtain ⟨xa, xn, xc, rfl⟩ := hxl
  have HL : Hid (∀ W, Below w.heap.size w W → SlN l v W) := fun W hb => hl.next hb
  have HLK : Hid (∀ x ∈ l, x.links.length ≤ 1000000 ∧ ∀ y ∈ x.links, 0 ≤ y ∧ y < 1000000) := hlk
  have HSP : Hid (i64B st ∧ i64B pl) := ⟨hs, hp⟩
  clear hlk hs hp
  obtain ⟨la, lc, rfl, _⟩ := hl
  obtain ⟨w0, hw0⟩ : ∃ w0, w0 = ((w.alloc (Obj.cells #[.slice la l.length lc] 24)).alloc (Obj.cells #[.int .i64 st, .int .i64 pl, .slice xa xn xc] 35)).alloc (Obj.cells #[.slice none 0 0] 24) := ⟨_, rfl⟩
  have B0 : Below w.heap.size w w0 := by rw [hw0]; exact (((Below.refl _ _).alloc (Nat.le_refl _) _).alloc (by simp) _).alloc (by simp; omega) _
  have k0 : w0.heap[w.heap.size]? = some (Obj.cells #[.slice la l.length lc] 24) := by rw [hw0]; exact blk_new (blk_new (heap_alloc_new _ _))
  have k1 : w0.heap[w.heap.size + 1]? = some (Obj.cells #[.int .i64 st, .int .i64 pl, .slice xa xn xc] 35) := by rw [hw0]; exact blk_new (by simpa using heap_alloc_new (w.alloc (Obj.cells #[.slice la l.length lc] 24)) (Obj.cells #[.int .i64 st, .int .i64 pl, .slice xa xn xc] 35))
  have k2 : w0.heap[w.heap.size + 1 + 1]? = some (Obj.cells #[.slice none 0 0] 24) := by rw [hw0]; simpa using heap_alloc_new ((w.alloc (Obj.cells #[.slice la l.length lc] 24)).alloc (Obj.cells #[.int .i64 st, .int .i64 pl, .slice xa xn xc] 35)) (Obj.cells #[.slice none 0 0] 24)
  have HZ0 : Hid (w0.heap.size = w.heap.size + 3) := by show _ = _; rw [hw0]; simp
  have HT : Hid (∀ W, Below w0.heap.size w0 W → W.cell? ⟨w.heap.size, 0, none⟩ = some (.slice la l.length lc) ∧ (W.cell? ⟨w.heap.size + 1, 0, none⟩ = some (.int .i64 st) ∧ W.cell? ⟨w.heap.size + 1, 1, none⟩ = some (.int .i64 pl) ∧ W.cell? ⟨w.heap.size + 1, 2, none⟩ = some (.slice xa xn xc)) ∧ W.heap[w.heap.size + 1 + 1]? = some (Obj.cells #[.slice none 0 0] 24) ∧ SlN l (.slice la l.length lc) W ∧ Below w.heap.size w W) := fun W hW => by
    have h1 := (hW.block _ (blk_lt k0)).trans k0
    have h2 := (hW.block _ (blk_lt k1)).trans k1
    have h3 := (hW.block _ (blk_lt k2)).trans k2
    exact ⟨by rw [Lib.cell_of_heap h1]; rfl, ⟨by rw [Lib.cell_of_heap h2]; rfl, by rw [Lib.cell_of_heap h2]; rfl, by rw [Lib.cell_of_heap h2]; rfl⟩, h3, HL.out W (below_then B0 hW B0.size), below_then B0 hW B0.size⟩
  have HNJ : Hid (∀ j (hj : j < l.length), ∃ b o u, la = some ⟨b, o, none⟩ ∧ i64B l[j].st ∧ i64B l[j].pl ∧ (∃ a c, u = .slice a l[j].links.length c) ∧ ∀ W, Below w.heap.size w W → W.cell? ⟨b, o + j * 3, none⟩ = some (.int .i64 l[j].st) ∧ W.cell? ⟨b, o + j * 3 + 1, none⟩ = some (.int .i64 l[j].pl) ∧ W.cell? ⟨b, o + j * 3 + 2, none⟩ = some u ∧ SlI l[j].links u W) := fun j hj => by
    obtain ⟨_, _, e, hgn, _⟩ := HL.out w (Below.refl _ _)
    cases e
    obtain ⟨b, o, u, e, hb, q0, q1, q2, hs, i1, i2, _⟩ := hgn.at (Below.refl _ _) hj
    exact ⟨b, o, u, e, i1, i2, hs.imp fun _ h => h.imp fun _ h => h.1, fun W hW => ⟨(hW.cell (p := ⟨b, o + j * 3, none⟩) hb).trans q0, (hW.cell (p := ⟨b, o + j * 3 + 1, none⟩) hb).trans q1, (hW.cell (p := ⟨b, o + j * 3 + 2, none⟩) hb).trans q2, hs.next hW⟩⟩
  go_enter Try.func28, Try.ntmps28
  go_wp2_with fail
  rw [← hw0]
  clear hw0 k0 k1 k2 B0 HL
  go_loopw [5] (fun iv wr => ∃ (j : Nat), iv = .int .i64 j ∧ j ≤ l.length ∧ Hid (∀ t (ht : t < l.length), t < j → ltS (spG l[t]) (pl, st)) ∧ Hid (Below w0.heap.size w0 wr)) (fun i _ => l.length - (intOf i).toNat)
  case atStart => exact ⟨0, rfl, Nat.zero_le _, fun t ht h => by omega, Below.refl _ _⟩
  case round =>
  obtain ⟨j, rfl, hj, HPL, HBR⟩ := hrel
  obtain ⟨t0, tx, _, _, _⟩ := HT.out wr HBR.out
  go_upto_region 2 with fail
  go_cut [24] from 11 to 24 (fun t24 wx => ∃ G : Bool, t24 = .bool G ∧ Hid (G = true → j < l.length ∧ ∀ h : j < l.length, ltS (spG l[j]) (pl, st)) ∧ Hid (G = false → ∀ h : j < l.length, ¬ ltS (spG l[j]) (pl, st)) ∧ Hid (Below w0.heap.size w0 wx))
  case first =>
    by_cases hlt : j < l.length
    case neg =>
      have dj : decide ((j : Int) < l.length) = false := decide_eq_false (by omega)
      have D0 : Below wr.heap.size wr wr.drew := below_drewN (Below.refl _ _) 1
      have t0' : wr.drew.cell? ⟨w.heap.size, 0, none⟩ = some (.slice la l.length lc) := t0
      refine wp_region_L (fun W => W.cell? ⟨w.heap.size, 0, none⟩ = some (.slice la l.length lc)) 14 (by kernel_rfl) 14 rfl ?_
      refine wpAnyL_take' (i := 0) (v := ?_) (oi := { dst := some 11, op := Op.move (Operand.tmp 5), type := 3, pos := "ref.go:111", after := #[], guard := none }) rfl (by kernel_rfl) (by kernel_rfl) (by kernel_rfl) (by kernel_rfl) rfl (fun _ _ _ h => h) (Or.inl ⟨by rfl, ?_⟩) t0' ?_
      rotate_left
      · intro W hSW
        go_simp
        try with_reducible rfl
      simp only [Act.put, List.setIfInBounds_toArray, List.set_cons_zero, List.set_cons_succ]
      refine wpAnyL_take' (i := 1) (v := ?_) (oi := { dst := some 12, op := Op.fieldAddr 24 (Operand.tmp 2) 0, type := 0, pos := "ref.go:111", after := #[], guard := none }) rfl (by kernel_rfl) (by kernel_rfl) (by kernel_rfl) (by kernel_rfl) rfl (fun _ _ _ h => h) (Or.inl ⟨by rfl, ?_⟩) t0' ?_
      rotate_left
      · intro W hSW
        go_simp
        try with_reducible rfl
      simp only [Act.put, List.setIfInBounds_toArray, List.set_cons_zero, List.set_cons_succ]
      refine wpAnyL_take' (i := 2) (v := ?_) (oi := { dst := some 13, op := Op.load 22 (Operand.tmp 12), type := 22, pos := "ref.go:111", after := #[{ on := 1, ground := Ground.data }], guard := none }) rfl (by kernel_rfl) (by kernel_rfl) (by kernel_rfl) (by kernel_rfl) rfl (fun _ _ _ h => h) (Or.inl ⟨by rfl, ?_⟩) t0' ?_
      rotate_left
      · intro W hSW
        go_simp
        try with_reducible rfl
      simp only [Act.put, List.setIfInBounds_toArray, List.set_cons_zero, List.set_cons_succ]
      refine wpAnyL_take' (i := 3) (v := ?_) (oi := { dst := some 14, op := Op.call { callee := Callee.builtin Builtin.len, args := #[Operand.tmp 13], argTypes := #[22] }, type := 3, pos := "ref.go:111", after := #[{ on := 2, ground := Ground.data }], guard := none }) rfl (by kernel_rfl) (by kernel_rfl) (by kernel_rfl) (by kernel_rfl) rfl (fun _ _ _ h => h) (Or.inl ⟨by rfl, ?_⟩) t0' ?_
      rotate_left
      · intro W hSW
        go_simp
        try with_reducible rfl
      simp only [Act.put, List.setIfInBounds_toArray, List.set_cons_zero, List.set_cons_succ]
      refine wpAnyL_take' (i := 4) (v := ?_) (oi := { dst := some 15, op := Op.binOp BinOp.lss 3 (Operand.tmp 11) (Operand.tmp 14) 3, type := 4, pos := "ref.go:111", after := #[{ on := 0, ground := Ground.data }, { on := 3, ground := Ground.data }], guard := none }) rfl (by kernel_rfl) (by kernel_rfl) (by kernel_rfl) (by kernel_rfl) rfl (fun _ _ _ h => h) (Or.inl ⟨by rfl, ?_⟩) t0' ?_
      rotate_left
      · intro W hSW
        go_simp
        try with_reducible rfl
      simp only [Act.put, List.setIfInBounds_toArray, List.set_cons_zero, List.set_cons_succ]
      refine wpAnyL_take' (i := 5) (v := ?_) (oi := { dst := some 16, op := Op.move (Operand.tmp 15), type := 4, pos := "ref.go:111", after := #[{ on := 4, ground := Ground.data }], guard := none }) rfl (by kernel_rfl) (by kernel_rfl) (by kernel_rfl) (by kernel_rfl) rfl (fun _ _ _ h => h) (Or.inl ⟨by rfl, ?_⟩) t0' ?_
      rotate_left
      · intro W hSW
        go_simp
        try with_reducible rfl
      simp only [Act.put, List.setIfInBounds_toArray, List.set_cons_zero, List.set_cons_succ]
      refine wpAnyL_take' (i := 6) (v := undef) (oi := { dst := some 17, op := Op.fieldAddr 24 (Operand.tmp 2) 0, type := 0, pos := "ref.go:111", after := #[{ on := 5, ground := Ground.guard }], guard := some (5, true) }) rfl (by kernel_rfl) (by kernel_rfl) (by kernel_rfl) (by kernel_rfl) rfl (fun _ _ _ h => h) (Or.inr ⟨by rfl, rfl⟩) t0' ?_
      simp only [Act.put, List.setIfInBounds_toArray, List.set_cons_zero, List.set_cons_succ]
      refine wpAnyL_take' (i := 7) (v := undef) (oi := { dst := some 18, op := Op.load 22 (Operand.tmp 17), type := 22, pos := "ref.go:111", after := #[{ on := 6, ground := Ground.data }, { on := 5, ground := Ground.guard }], guard := some (5, true) }) rfl (by kernel_rfl) (by kernel_rfl) (by kernel_rfl) (by kernel_rfl) rfl (fun _ _ _ h => h) (Or.inr ⟨by rfl, rfl⟩) t0' ?_
      simp only [Act.put, List.setIfInBounds_toArray, List.set_cons_zero, List.set_cons_succ]
      refine wpAnyL_take' (i := 8) (v := undef) (oi := { dst := some 19, op := Op.move (Operand.tmp 5), type := 3, pos := "ref.go:111", after := #[{ on := 5, ground := Ground.guard }], guard := some (5, true) }) rfl (by kernel_rfl) (by kernel_rfl) (by kernel_rfl) (by kernel_rfl) rfl (fun _ _ _ h => h) (Or.inr ⟨by rfl, rfl⟩) t0' ?_
      simp only [Act.put, List.setIfInBounds_toArray, List.set_cons_zero, List.set_cons_succ]
      refine wpAnyL_take' (i := 9) (v := undef) (oi := { dst := some 20, op := Op.indexAddr 22 (Operand.tmp 18) (Operand.tmp 19), type := 0, pos := "ref.go:111", after := #[{ on := 7, ground := Ground.data }, { on := 8, ground := Ground.data }, { on := 5, ground := Ground.guard }], guard := some (5, true) }) rfl (by kernel_rfl) (by kernel_rfl) (by kernel_rfl) (by kernel_rfl) rfl (fun _ _ _ h => h) (Or.inr ⟨by rfl, rfl⟩) t0' ?_
      simp only [Act.put, List.setIfInBounds_toArray, List.set_cons_zero, List.set_cons_succ]
      refine wpAnyL_take' (i := 10) (v := undef) (oi := { dst := some 21, op := Op.load 35 (Operand.tmp 20), type := 35, pos := "ref.go:111", after := #[{ on := 9, ground := Ground.data }, { on := 5, ground := Ground.guard }], guard := some (5, true) }) rfl (by kernel_rfl) (by kernel_rfl) (by kernel_rfl) (by kernel_rfl) rfl (fun _ _ _ h => h) (Or.inr ⟨by rfl, rfl⟩) t0' ?_
      simp only [Act.put, List.setIfInBounds_toArray, List.set_cons_zero, List.set_cons_succ]
      refine wpAnyL_take' (i := 11) (v := undef) (oi := { dst := some 22, op := Op.load 35 (Operand.tmp 3), type := 35, pos := "ref.go:111", after := #[{ on := 5, ground := Ground.guard }], guard := some (5, true) }) rfl (by kernel_rfl) (by kernel_rfl) (by kernel_rfl) (by kernel_rfl) rfl (fun _ _ _ h => h) (Or.inr ⟨by rfl, rfl⟩) t0' ?_
      simp only [Act.put, List.setIfInBounds_toArray, List.set_cons_zero, List.set_cons_succ]
      refine wpAnyL_take' (i := 12) (v := undef) (oi := { dst := some 23, op := Op.call { callee := Callee.value (Operand.func 14), args := #[Operand.tmp 21, Operand.tmp 22], argTypes := #[35, 35] }, type := 4, pos := "ref.go:111", after := #[{ on := 10, ground := Ground.data }, { on := 11, ground := Ground.data }, { on := 5, ground := Ground.chain }, { on := 5, ground := Ground.guard }], guard := some (5, true) }) rfl (by kernel_rfl) (by kernel_rfl) (by kernel_rfl) (by kernel_rfl) rfl (fun _ _ _ h => h) (Or.inr ⟨by rfl, rfl⟩) t0' ?_
      simp only [Act.put, List.setIfInBounds_toArray, List.set_cons_zero, List.set_cons_succ]
      refine wpAnyL_take' (i := 13) (v := ?_) (oi := { dst := some 24, op := Op.pick (Operand.tmp 16) (Operand.tmp 23) (Operand.const (Value.bool false)), type := 4, pos := "ref.go:111", after := #[{ on := 5, ground := Ground.data }, { on := 12, ground := Ground.data }], guard := none }) rfl (by kernel_rfl) (by kernel_rfl) (by kernel_rfl) (by kernel_rfl) rfl (fun _ _ _ h => h) (Or.inl ⟨by rfl, ?_⟩) t0' ?_
      rotate_left
      · intro W hSW
        go_simp
        try with_reducible rfl
      simp only [Act.put, List.setIfInBounds_toArray, List.set_cons_zero, List.set_cons_succ]
      refine wpAnyL_done (by kernel_rfl) ?_ _
      go_wp2_with fail
      go_meet
      exact ⟨false, rfl, fun h => (by cases h), fun _ h => absurd h hlt, below_then HBR.out D0 HBR.out.size⟩
    have dj : decide ((j : Int) < l.length) = true := decide_eq_true (by omega)
    obtain ⟨b2, o2, yu, rfl, _, _, ⟨ya, yc, rfl⟩, hcells⟩ := HNJ.out j hlt
    have HGL : Hid (∀ h : j < l.length, l[j] = l[j]) := fun _ => rfl
    obtain ⟨q0, q1, q2, _⟩ := hcells wr (HT.out wr HBR.out).2.2.2.2
    have HLJ : Hid (∃ y, l[j]? = some y ∧ y = l[j]) := ⟨_, List.getElem?_eq_getElem hlt, rfl⟩
    have HCB := gbefore_any l[j] ⟨st, pl, []⟩ (.slice ya l[j].links.length yc) (.slice xa xn xc) wr.drew
    have HBS : Hid (befB l[j] ⟨st, pl, []⟩ = decide (ltS (spG l[j]) (pl, st))) := befS _ _
    have HSL : Hid (∀ W, Below wr.heap.size wr W → W.cell? ⟨w.heap.size, 0, none⟩ = some (.slice (some ⟨b2, o2, none⟩) l.length lc) ∧ (W.cell? ⟨w.heap.size + 1, 0, none⟩ = some (.int .i64 st) ∧ W.cell? ⟨w.heap.size + 1, 1, none⟩ = some (.int .i64 pl) ∧ W.cell? ⟨w.heap.size + 1, 2, none⟩ = some (.slice xa xn xc)) ∧ W.cell? ⟨b2, o2 + j * 3, none⟩ = some (.int .i64 l[j].st) ∧ W.cell? ⟨b2, o2 + j * 3 + 1, none⟩ = some (.int .i64 l[j].pl) ∧ W.cell? ⟨b2, o2 + j * 3 + 2, none⟩ = some (.slice ya l[j].links.length yc)) := fun W hW => by
      have h1 := HT.out W (below_then HBR.out hW HBR.out.size)
      obtain ⟨c0, c1, c2, _⟩ := hcells W h1.2.2.2.2
      exact ⟨h1.1, h1.2.1, c0, c1, c2⟩
    clear hcells q0 q1 q2 t0 tx
    simp only at HCB
    generalize l[j].st = ys at *
    generalize l[j].pl = yp at *
    generalize (Value.slice ya l[j].links.length yc) = yu at *
    generalize befB l[j] ⟨st, pl, []⟩ = BB at *
    have D0 : Below wr.heap.size wr wr.drew := below_drewN (Below.refl _ _) 1
    have HS := HSL.out
    refine wp_region_L (fun W => W.cell? ⟨w.heap.size, 0, none⟩ = some (.slice (some ⟨b2, o2, none⟩) l.length lc) ∧ (W.cell? ⟨w.heap.size + 1, 0, none⟩ = some (.int .i64 st) ∧ W.cell? ⟨w.heap.size + 1, 1, none⟩ = some (.int .i64 pl) ∧ W.cell? ⟨w.heap.size + 1, 2, none⟩ = some (.slice xa xn xc)) ∧ W.cell? ⟨b2, o2 + j * 3, none⟩ = some (.int .i64 ys) ∧ W.cell? ⟨b2, o2 + j * 3 + 1, none⟩ = some (.int .i64 yp) ∧ W.cell? ⟨b2, o2 + j * 3 + 2, none⟩ = some yu) 14 (by kernel_rfl) 14 rfl ?_
    refine wpAnyL_take' (i := 0) (v := ?_) (oi := { dst := some 11, op := Op.move (Operand.tmp 5), type := 3, pos := "ref.go:111", after := #[], guard := none }) rfl (by kernel_rfl) (by kernel_rfl) (by kernel_rfl) (by kernel_rfl) rfl (fun _ _ _ h => h) (Or.inl ⟨by rfl, ?_⟩) (HS _ D0) ?_
    rotate_left
    · intro W hSW
      go_simp
      try with_reducible rfl
    simp only [Act.put, List.setIfInBounds_toArray, List.set_cons_zero, List.set_cons_succ]
    refine wpAnyL_take' (i := 1) (v := ?_) (oi := { dst := some 12, op := Op.fieldAddr 24 (Operand.tmp 2) 0, type := 0, pos := "ref.go:111", after := #[], guard := none }) rfl (by kernel_rfl) (by kernel_rfl) (by kernel_rfl) (by kernel_rfl) rfl (fun _ _ _ h => h) (Or.inl ⟨by rfl, ?_⟩) (HS _ D0) ?_
    rotate_left
    · intro W hSW
      go_simp
      try with_reducible rfl
    simp only [Act.put, List.setIfInBounds_toArray, List.set_cons_zero, List.set_cons_succ]
    refine wpAnyL_take' (i := 2) (v := ?_) (oi := { dst := some 13, op := Op.load 22 (Operand.tmp 12), type := 22, pos := "ref.go:111", after := #[{ on := 1, ground := Ground.data }], guard := none }) rfl (by kernel_rfl) (by kernel_rfl) (by kernel_rfl) (by kernel_rfl) rfl (fun _ _ _ h => h) (Or.inl ⟨by rfl, ?_⟩) (HS _ D0) ?_
    rotate_left
    · intro W hSW
      go_simp
      try with_reducible rfl
    simp only [Act.put, List.setIfInBounds_toArray, List.set_cons_zero, List.set_cons_succ]
    refine wpAnyL_take' (i := 3) (v := ?_) (oi := { dst := some 14, op := Op.call { callee := Callee.builtin Builtin.len, args := #[Operand.tmp 13], argTypes := #[22] }, type := 3, pos := "ref.go:111", after := #[{ on := 2, ground := Ground.data }], guard := none }) rfl (by kernel_rfl) (by kernel_rfl) (by kernel_rfl) (by kernel_rfl) rfl (fun _ _ _ h => h) (Or.inl ⟨by rfl, ?_⟩) (HS _ D0) ?_
    rotate_left
    · intro W hSW
      go_simp
      try with_reducible rfl
    simp only [Act.put, List.setIfInBounds_toArray, List.set_cons_zero, List.set_cons_succ]
    refine wpAnyL_take' (i := 4) (v := ?_) (oi := { dst := some 15, op := Op.binOp BinOp.lss 3 (Operand.tmp 11) (Operand.tmp 14) 3, type := 4, pos := "ref.go:111", after := #[{ on := 0, ground := Ground.data }, { on := 3, ground := Ground.data }], guard := none }) rfl (by kernel_rfl) (by kernel_rfl) (by kernel_rfl) (by kernel_rfl) rfl (fun _ _ _ h => h) (Or.inl ⟨by rfl, ?_⟩) (HS _ D0) ?_
    rotate_left
    · intro W hSW
      go_simp
      try with_reducible rfl
    simp only [Act.put, List.setIfInBounds_toArray, List.set_cons_zero, List.set_cons_succ]
    refine wpAnyL_take' (i := 5) (v := ?_) (oi := { dst := some 16, op := Op.move (Operand.tmp 15), type := 4, pos := "ref.go:111", after := #[{ on := 4, ground := Ground.data }], guard := none }) rfl (by kernel_rfl) (by kernel_rfl) (by kernel_rfl) (by kernel_rfl) rfl (fun _ _ _ h => h) (Or.inl ⟨by rfl, ?_⟩) (HS _ D0) ?_
    rotate_left
    · intro W hSW
      go_simp
      try with_reducible rfl
    simp only [Act.put, List.setIfInBounds_toArray, List.set_cons_zero, List.set_cons_succ]
    refine wpAnyL_take' (i := 6) (v := ?_) (oi := { dst := some 17, op := Op.fieldAddr 24 (Operand.tmp 2) 0, type := 0, pos := "ref.go:111", after := #[{ on := 5, ground := Ground.guard }], guard := some (5, true) }) rfl (by kernel_rfl) (by kernel_rfl) (by kernel_rfl) (by kernel_rfl) rfl (fun _ _ _ h => h) (Or.inl ⟨by rfl, ?_⟩) (HS _ D0) ?_
    rotate_left
    · intro W hSW
      go_simp
      try with_reducible rfl
    simp only [Act.put, List.setIfInBounds_toArray, List.set_cons_zero, List.set_cons_succ]
    refine wpAnyL_take' (i := 7) (v := ?_) (oi := { dst := some 18, op := Op.load 22 (Operand.tmp 17), type := 22, pos := "ref.go:111", after := #[{ on := 6, ground := Ground.data }, { on := 5, ground := Ground.guard }], guard := some (5, true) }) rfl (by kernel_rfl) (by kernel_rfl) (by kernel_rfl) (by kernel_rfl) rfl (fun _ _ _ h => h) (Or.inl ⟨by rfl, ?_⟩) (HS _ D0) ?_
    rotate_left
    · intro W hSW
      go_simp
      try with_reducible rfl
    simp only [Act.put, List.setIfInBounds_toArray, List.set_cons_zero, List.set_cons_succ]
    refine wpAnyL_take' (i := 8) (v := ?_) (oi := { dst := some 19, op := Op.move (Operand.tmp 5), type := 3, pos := "ref.go:111", after := #[{ on := 5, ground := Ground.guard }], guard := some (5, true) }) rfl (by kernel_rfl) (by kernel_rfl) (by kernel_rfl) (by kernel_rfl) rfl (fun _ _ _ h => h) (Or.inl ⟨by rfl, ?_⟩) (HS _ D0) ?_
    rotate_left
    · intro W hSW
      go_simp
      try with_reducible rfl
    simp only [Act.put, List.setIfInBounds_toArray, List.set_cons_zero, List.set_cons_succ]
    refine wpAnyL_take' (i := 9) (v := ?_) (oi := { dst := some 20, op := Op.indexAddr 22 (Operand.tmp 18) (Operand.tmp 19), type := 0, pos := "ref.go:111", after := #[{ on := 7, ground := Ground.data }, { on := 8, ground := Ground.data }, { on := 5, ground := Ground.guard }], guard := some (5, true) }) rfl (by kernel_rfl) (by kernel_rfl) (by kernel_rfl) (by kernel_rfl) rfl (fun _ _ _ h => h) (Or.inl ⟨by rfl, ?_⟩) (HS _ D0) ?_
    rotate_left
    · intro W hSW
      go_simp
      try with_reducible rfl
    simp only [Act.put, List.setIfInBounds_toArray, List.set_cons_zero, List.set_cons_succ]
    refine wpAnyL_take' (i := 10) (v := ?_) (oi := { dst := some 21, op := Op.load 35 (Operand.tmp 20), type := 35, pos := "ref.go:111", after := #[{ on := 9, ground := Ground.data }, { on := 5, ground := Ground.guard }], guard := some (5, true) }) rfl (by kernel_rfl) (by kernel_rfl) (by kernel_rfl) (by kernel_rfl) rfl (fun _ _ _ h => h) (Or.inl ⟨by rfl, ?_⟩) (HS _ D0) ?_
    rotate_left
    · intro W hSW
      go_simp
      try with_reducible rfl
    simp only [Act.put, List.setIfInBounds_toArray, List.set_cons_zero, List.set_cons_succ]
    refine wpAnyL_take' (i := 11) (v := ?_) (oi := { dst := some 22, op := Op.load 35 (Operand.tmp 3), type := 35, pos := "ref.go:111", after := #[{ on := 5, ground := Ground.guard }], guard := some (5, true) }) rfl (by kernel_rfl) (by kernel_rfl) (by kernel_rfl) (by kernel_rfl) rfl (fun _ _ _ h => h) (Or.inl ⟨by rfl, ?_⟩) (HS _ D0) ?_
    rotate_left
    · intro W hSW
      go_simp
      try with_reducible rfl
    simp only [Act.put, List.setIfInBounds_toArray, List.set_cons_zero, List.set_cons_succ]
    refine wpAnyL_one' (i := 12) (o := { dst := some 23, op := Op.call { callee := Callee.value (Operand.func 14), args := #[Operand.tmp 21, Operand.tmp 22], argTypes := #[35, 35] }, type := 4, pos := "ref.go:111", after := #[{ on := 10, ground := Ground.data }, { on := 11, ground := Ground.data }, { on := 5, ground := Ground.chain }, { on := 5, ground := Ground.guard }], guard := some (5, true) }) (by kernel_rfl) rfl rfl (fun K hK => ?_)
    go_simp
    refine (HCB).mono ?_
    rintro e w3 ⟨rfl, b3⟩
    refine hK.out _ _ (fun _ => HS _ (below_then D0 b3 D0.size)) ?_
    clear hK
    refine wpAnyL_take' (i := 13) (v := ?_) (oi := { dst := some 24, op := Op.pick (Operand.tmp 16) (Operand.tmp 23) (Operand.const (Value.bool false)), type := 4, pos := "ref.go:111", after := #[{ on := 5, ground := Ground.data }, { on := 12, ground := Ground.data }], guard := none }) rfl (by kernel_rfl) (by kernel_rfl) (by kernel_rfl) (by kernel_rfl) rfl (fun _ _ _ h => h) (Or.inl ⟨by rfl, ?_⟩) (HS _ (below_then D0 b3 D0.size)) ?_
    rotate_left
    · intro W hSW
      go_simp
      try with_reducible rfl
    simp only [Act.put, List.setIfInBounds_toArray, List.set_cons_zero, List.set_cons_succ]
    refine wpAnyL_done (by kernel_rfl) ?_ _
    go_wp2_with fail
    go_meet
    refine ⟨BB, rfl, fun h => ⟨hlt, fun h' => ?_⟩, fun h h' => ?_, below_then HBR.out (below_then D0 b3 D0.size) HBR.out.size⟩
    · rw [HBS.out] at h; simpa using h
    · rw [HBS.out] at h; simpa using h
  case rest =>
  obtain ⟨G, rfl, HG1, HG2, HBX⟩ := hcut
  clear t0 tx HBR
  cases G with
  | true =>
    have hjl := (HG1.out rfl).1
    have HPL2 : Hid (∀ t (ht : t < l.length), t < j + 1 → ltS (spG l[t]) (pl, st)) := fun t ht h => by
      by_cases e : t = j
      · subst e; exact (HG1.out rfl).2 ht
      · exact HPL.out t ht (by omega)
    clear HG1 HG2 HPL
    go_wp2_with fail
    exact ⟨⟨j + 1, by go_num, by omega, HPL2, HBX⟩, by simp [intOf]; omega⟩
  | false =>
    have HPO : Hid (posG l (pl, st) = j) := posG_eq hj HPL.out (HG2.out rfl)
    clear HG1 HG2 HPL
    obtain ⟨O, hO⟩ : ∃ O, O = openG (posG l (pl, st)) ⟨st, pl, []⟩ l := ⟨_, rfl⟩
    have HOG : Hid (∀ k, O[k]? = if k < j then (l[k]?).map (incG j) else if k = j then some ⟨st, pl, []⟩ else (l[k - 1]?).map (incG j)) := fun k => by rw [hO, HPO.out]; exact open_get hj k
    have HOL : Hid (O.length = l.length + 1) := by show _ = _; rw [hO, HPO.out]; exact openG_len hj
    have HOE : Hid (openG (posG l (pl, st)) ⟨st, pl, []⟩ l = O) := hO.symm
    clear hO HPO
    have BO : Below wc.heap.size wc (wc.alloc (Obj.cells #[.slice none 0 0] 24)) := below_box _ _ _
    have ko : (wc.alloc (Obj.cells #[.slice none 0 0] 24)).heap[wc.heap.size]? = some (Obj.cells #[.slice none 0 0] 24) := heap_alloc_new _ _
    have HB1 : Hid (Below w0.heap.size w0 (wc.alloc (Obj.cells #[.slice none 0 0] 24))) := below_then HBX.out BO HBX.out.size
    have HOB : Hid (w0.heap.size ≤ wc.heap.size) := HBX.out.size
    go_wp2_with fail
    obtain ⟨ob, hob⟩ : ∃ ob, ob = wc.heap.size := ⟨_, rfl⟩
    have HOB2 : Hid (w0.heap.size ≤ ob) := by rw [hob]; exact HOB.out
    rw [← hob] at ko ⊢
    generalize wc.alloc (Obj.cells #[.slice none 0 0] 24) = w1 at *
    clear hob BO HBX HOB
    obtain ⟨ig, hig, hge0, hge1, hge2⟩ := info_parts infoG
    obtain ⟨ii, hii, hz0, hz1, hz2⟩ := info_parts info3
    go_loopw [7] (fun iv wr => ∃ (i : Nat) (L : List GnV) (mv : Value), iv = .int .i64 i ∧ i ≤ l.length ∧ Hid (L.map Prod.fst = O.take (i + if j < i then 1 else 0)) ∧ Hid (OwnS w0.heap.size L mv wr) ∧ Hid (Below w0.heap.size w0 wr) ∧ Hid (wr.heap[ob]? = some (Obj.cells #[mv] 24))) (fun i _ => l.length + 1 - (intOf i).toNat)
    case atStart => exact ⟨0, [], .slice none 0 0, rfl, Nat.zero_le _, by show _ = _; simp, OwnS.nil _ _, HB1, ko⟩
    case round =>
    clear ko HB1
    obtain ⟨i, L, mv, rfl, hi, HLT, HOS, HBR, HKO⟩ := hrel
    obtain ⟨t0, tx, tr, _, tB⟩ := HT.out wr HBR.out
    have di : decide ((i : Int) ≤ l.length) = true := decide_eq_true (by omega)
    obtain ⟨ma, mc, rfl⟩ := slice_of_ownK HOS.out.nodes
    have HLL : Hid (L.length ≤ i + 1) := by
      have h9 := congrArg List.length HLT.out
      rw [List.length_map, List.length_take] at h9
      show _ ≤ _
      split at h9 <;> omega
    have hlm := HLL.out
    have co : wr.cell? ⟨ob, 0, none⟩ = some (.slice ma L.length mc) := by rw [Lib.cell_of_heap HKO.out]; rfl
    obtain ⟨GB, HGB, hgb⟩ : ∃ GB : Bool, Hid (GB = true ↔ i = j) ∧ ((i : Int) == j) = GB := ⟨_, by show _ ↔ _; simp; omega, rfl⟩
    go_upto_if 37 with fail
    clear hgb
    go_cut [] from 38 to 47 (fun wx => ∃ (L' : List GnV) (ma' : Option Addr) (mc' : Nat), Hid (L'.map Prod.fst = O.take (i + if j ≤ i then 1 else 0)) ∧ L'.length ≤ i + 1 ∧ Hid (OwnS w0.heap.size L' (.slice ma' L'.length mc') wx) ∧ Hid (Below w0.heap.size w0 wx) ∧ Hid (wx.heap[ob]? = some (Obj.cells #[.slice ma' L'.length mc'] 24)))
    case first =>
      cases GB with
      | false =>
        have hij : i ≠ j := fun e => by have := HGB.out.2 e; cases this
        go_wp2_with fail
        go_meet
        refine ⟨L, ma, mc, ?_, by omega, HOS, HBR, HKO⟩
        show _ = _
        rw [HLT.out]
        congr 2
        by_cases h : j < i
        · rw [if_pos h, if_pos (by omega)]
        · rw [if_neg h, if_neg (by omega)]
      | true =>
      have hij := HGB.out.1 rfl
      subst hij
      obtain ⟨x0, x1, x2⟩ := tx
      have hON : (wr.alloc (Obj.cells #[.int .i64 st, .int .i64 pl, .slice none 0 0] 35)).ownsRow w0.heap.size 35 3 (.slice ma L.length mc) L.length (L.flatMap encG) := World.ownsRow.alloc HOS.out.nodes _
      have hsz : w0.heap.size ≤ (wr.alloc (Obj.cells #[.int .i64 st, .int .i64 pl, .slice none 0 0] 35)).heap.size := by have := HBR.out.size; simp; omega
      have hnw := new_cell3 wr (.int .i64 st) (.int .i64 pl) (.slice none 0 0) 35
      have bN : Below wr.heap.size wr (wr.alloc (Obj.cells #[.int .i64 st, .int .i64 pl, .slice none 0 0] 35)) := (Below.refl _ _).alloc (Nat.le_refl _) _
      have kon := (bN.block _ (blk_lt HKO.out)).trans HKO.out
      have HOSN : Hid (OwnS w0.heap.size L (.slice ma L.length mc) (wr.alloc (Obj.cells #[.int .i64 st, .int .i64 pl, .slice none 0 0] 35))) := HOS.out.next bN
      have HBN : Hid (Below w0.heap.size w0 (wr.alloc (Obj.cells #[.int .i64 st, .int .i64 pl, .slice none 0 0] 35))) := below_then HBR.out bN HBR.out.size
      clear bN tr tB HOS HBR HKO
      go_wp2_with (at_builtin; refine wpList_append_own_at _ rfl _ _ 22 rfl w0.heap.size 35 ig _ 3 40 Try.underlying22 hig hge0 hge1 hge2 rfl (by omega) _ _ _ rfl hON ⟨wr.heap.size, 0, none⟩ 1 1 [.int .i64 st, .int .i64 pl, .slice none 0 0] rfl rfl hnw (by simp [Value.oneCell']) (by unfold maxLen; omega) (by omega) hsz ?_)
      intro v3 w3 hown3 hg3 _ _
      generalize wr.alloc (Obj.cells #[.int .i64 st, .int .i64 pl, .slice none 0 0] 35) = wn at *
      obtain ⟨va, vc, rfl⟩ := slice_of_ownK hown3
      have b3 : But (fun k => (Value.slice ma L.length mc).ownBlock = some k) wn w3 := ⟨hg3.os, hg3.tape, hg3.output, hg3.size, fun k hk hD => hg3.block k hk (fun e => hD e.symm)⟩
      have nob : ¬ (Value.slice ma L.length mc).ownBlock = some ob := fun e => by obtain ⟨cs, e'⟩ := own_blk hON e kon; simp at e'
      have ko3 := but_blk b3 kon nob
      have co3 : w3.cell? ⟨ob, 0, none⟩ = some (.slice ma L.length mc) := by rw [Lib.cell_of_heap ko3]; rfl
      have cf3 : w3.frozen? ⟨ob, 0, none⟩ = false := Lib.frozen_of_heap ko3 _
      have HF : Hid (∃ (L' : List GnV) (ma' : Option Addr) (mc' : Nat), Hid (L'.map Prod.fst = O.take (i + if i ≤ i then 1 else 0)) ∧ L'.length ≤ i + 1 ∧ Hid (OwnS w0.heap.size L' (.slice ma' L'.length mc') (w3.setCell ⟨ob, 0, none⟩ (.slice va (L.length + 1) vc))) ∧ Hid (Below w0.heap.size w0 (w3.setCell ⟨ob, 0, none⟩ (.slice va (L.length + 1) vc))) ∧ Hid ((w3.setCell ⟨ob, 0, none⟩ (.slice va (L.length + 1) vc)).heap[ob]? = some (Obj.cells #[.slice ma' L'.length mc'] 24))) := by
        have h9 : (L ++ [((⟨st, pl, []⟩ : Gn), Value.slice none 0 0)]).map Prod.fst = O.take (i + 1) := by
          rw [take_snoc (x := ⟨st, pl, []⟩) (by rw [HOG.out, if_neg (by omega), if_pos rfl]), List.map_append, HLT.out, if_neg (by omega)]; rfl
        have hO3 : OwnS w0.heap.size (L ++ [((⟨st, pl, []⟩ : Gn), Value.slice none 0 0)]) (.slice va (L.length + 1) vc) w3 := HOSN.out.snoc2 b3 hown3 (World.ownsRow_nil _ _ _ _) (fun p _ k _ e => by simp [Value.ownBlock] at e) ⟨HSP.out.1, HSP.out.2, fun y hy => by simp at hy, by simp⟩
        refine ⟨L ++ [((⟨st, pl, []⟩ : Gn), Value.slice none 0 0)], va, vc, by rw [if_pos (Nat.le_refl _)]; exact h9, ?_, ?_, ?_, ?_⟩
        · have := congrArg List.length h9
          rw [List.length_map, List.length_take] at this
          omega
        · rw [List.length_append]; exact hO3.keepG ko3 ((But.refl _ _).setCell _ _ (.inr rfl))
        · have h8 : Below w0.heap.size w0 w3 := HBN.out.trans (b3.below HBN.out.size (fun k hk => (World.ownsRow.lt HOSN.out.nodes k hk).1))
          exact h8.setCell HOB2.out _
        · show _ = _
          rw [List.length_append]
          simpa using blk_set (o := 0) ko3 (.slice va (L.length + 1) vc)
      clear hown3 hg3 b3 ko3 hnw hON HOSN HBN kon HLT
      go_wp2_with fail
      go_meet
      exact HF.out
    case rest =>
    obtain ⟨L1, ma1, mc1, HLT1, hl1, HOS1, HBR1, HKO1⟩ := hcut
    clear HLT HOS HBR HKO co t0 tx tr tB HLL hlm HGB
    obtain ⟨t0, tx, tr, _, tB⟩ := HT.out wc HBR1.out
    have co : wc.cell? ⟨ob, 0, none⟩ = some (.slice ma1 L1.length mc1) := by rw [Lib.cell_of_heap HKO1.out]; rfl
    by_cases hil : i < l.length
    case neg =>
      obtain rfl : i = l.length := by omega
      have dil : ((l.length : Int) == l.length) = true := by simp
      have cr : wc.cell? ⟨w.heap.size + 1 + 1, 0, none⟩ = some (.slice none 0 0) := by rw [Lib.cell_of_heap tr]; rfl
      have fr : wc.frozen? ⟨w.heap.size + 1 + 1, 0, none⟩ = false := Lib.frozen_of_heap tr _
      have z : (wc.setCell ⟨w.heap.size + 1 + 1, 0, none⟩ (.slice ma1 L1.length mc1)).heap[w.heap.size + 1 + 1]? = some (Obj.cells #[.slice ma1 L1.length mc1] 24) := by
        have := blk_set (o := 0) tr (.slice ma1 L1.length mc1)
        simpa using this
      have HE : Hid (L1.map Prod.fst = openG (posG l (pl, st)) ⟨st, pl, []⟩ l ∧ OwnS w.heap.size L1 (.slice ma1 L1.length mc1) (wc.setCell ⟨w.heap.size + 1 + 1, 0, none⟩ (.slice ma1 L1.length mc1)) ∧ Below w.heap.size w (wc.setCell ⟨w.heap.size + 1 + 1, 0, none⟩ (.slice ma1 L1.length mc1))) := by
        have hz := HZ0.out
        refine ⟨?_, ?_, tB.setCell (by simp; omega) _⟩
        · rw [HLT1.out, HOE.out, if_pos hj, List.take_of_length_le (by have := HOL.out; omega)]
        · exact (HOS1.out.keep (D := fun k => k = w.heap.size + 1 + 1) ((But.refl _ _).setCell _ _ (.inr rfl)) (fun k hk => by omega)).mono (by omega)
      clear HLT1 HOS1 HBR1 HKO1 tr tB HNJ HT HOG HOL HOE HLK hig hge0 hge1 hge2 hii hz0 hz1 hz2
      go_wp2_with fail
      refine bodyPost_ret (results_cell1 rfl _ _ _ rfl (run_loadVar_row _ _ _ _ _ _ _ z Try.underlying24 rfl (by kernel_rfl))) rfl ?_
      exact ⟨_, L1, rfl, HE.out⟩
    have dil : ((i : Int) == l.length) = false := by simp; omega
    obtain ⟨b2, o2, yu, rfl, x64, y64, ⟨ya, yc, rfl⟩, hcells⟩ := HNJ.out i hil
    have HLI : Hid (l[i]? = some l[i]) := List.getElem?_eq_getElem hil
    have HXK : Hid (l[i].links.length ≤ 1000000 ∧ ∀ y ∈ l[i].links, 0 ≤ y ∧ y < 1000000) := HLK.out _ (List.getElem_mem hil)
    have HC : Hid (∀ W, Below w0.heap.size w0 W → W.cell? ⟨w.heap.size, 0, none⟩ = some (.slice (some ⟨b2, o2, none⟩) l.length lc) ∧ W.cell? ⟨b2, o2 + i * 3, none⟩ = some (.int .i64 l[i].st) ∧ W.cell? ⟨b2, o2 + i * 3 + 1, none⟩ = some (.int .i64 l[i].pl) ∧ W.cell? ⟨b2, o2 + i * 3 + 2, none⟩ = some (.slice ya l[i].links.length yc) ∧ SlI l[i].links (.slice ya l[i].links.length yc) W) := fun W hW => by
      have h1 := HT.out W hW
      obtain ⟨c0, c1, c2, c3⟩ := hcells W h1.2.2.2.2
      exact ⟨h1.1, c0, c1, c2, c3⟩
    clear hcells
    generalize l[i] = x at *
    obtain ⟨xs, xp, xk⟩ := x
    simp only at *
    have hxk := HXK.out.1
    go_upto_region 11 with fail
    have D0 : Below wc.heap.size wc wc.drew := below_drewN (Below.refl _ _) 1
    have HS : ∀ W, Below wc.heap.size wc W → W.cell? ⟨w.heap.size, 0, none⟩ = some (.slice (some ⟨b2, o2, none⟩) l.length lc) ∧ W.cell? ⟨b2, o2 + i * 3, none⟩ = some (.int .i64 xs) ∧ W.cell? ⟨b2, o2 + i * 3 + 1, none⟩ = some (.int .i64 xp) := fun W hW => by
      obtain ⟨c0, c1, c2, _⟩ := HC.out W (below_then HBR1.out hW HBR1.out.size)
      exact ⟨c0, c1, c2⟩
    clear t0 tx tr tB co
    refine wp_region_L (fun W => W.cell? ⟨w.heap.size, 0, none⟩ = some (.slice (some ⟨b2, o2, none⟩) l.length lc) ∧ W.cell? ⟨b2, o2 + i * 3, none⟩ = some (.int .i64 xs) ∧ W.cell? ⟨b2, o2 + i * 3 + 1, none⟩ = some (.int .i64 xp)) 15 (by kernel_rfl) 15 rfl ?_
    refine wpAnyL_take' (i := 0) (v := ?_) (oi := { dst := some 53, op := Op.fieldAddr 24 (Operand.tmp 2) 0, type := 0, pos := "ref.go:122", after := #[], guard := none }) rfl (by kernel_rfl) (by kernel_rfl) (by kernel_rfl) (by kernel_rfl) rfl (fun _ _ _ h => h) (Or.inl ⟨by rfl, ?_⟩) (HS _ D0) ?_
    rotate_left
    · intro W hSW
      go_simp
      try with_reducible rfl
    simp only [Act.put, List.setIfInBounds_toArray, List.set_cons_zero, List.set_cons_succ]
    refine wpAnyL_take' (i := 1) (v := ?_) (oi := { dst := some 54, op := Op.load 22 (Operand.tmp 53), type := 22, pos := "ref.go:122", after := #[{ on := 0, ground := Ground.data }], guard := none }) rfl (by kernel_rfl) (by kernel_rfl) (by kernel_rfl) (by kernel_rfl) rfl (fun _ _ _ h => h) (Or.inl ⟨by rfl, ?_⟩) (HS _ D0) ?_
    rotate_left
    · intro W hSW
      go_simp
      try with_reducible rfl
    simp only [Act.put, List.setIfInBounds_toArray, List.set_cons_zero, List.set_cons_succ]
    refine wpAnyL_take' (i := 2) (v := ?_) (oi := { dst := some 55, op := Op.move (Operand.tmp 7), type := 3, pos := "ref.go:122", after := #[], guard := none }) rfl (by kernel_rfl) (by kernel_rfl) (by kernel_rfl) (by kernel_rfl) rfl (fun _ _ _ h => h) (Or.inl ⟨by rfl, ?_⟩) (HS _ D0) ?_
    rotate_left
    · intro W hSW
      go_simp
      try with_reducible rfl
    simp only [Act.put, List.setIfInBounds_toArray, List.set_cons_zero, List.set_cons_succ]
    refine wpAnyL_take' (i := 3) (v := ?_) (oi := { dst := some 56, op := Op.indexAddr 22 (Operand.tmp 54) (Operand.tmp 55), type := 0, pos := "ref.go:122", after := #[{ on := 1, ground := Ground.data }, { on := 2, ground := Ground.data }], guard := none }) rfl (by kernel_rfl) (by kernel_rfl) (by kernel_rfl) (by kernel_rfl) rfl (fun _ _ _ h => h) (Or.inl ⟨by rfl, ?_⟩) (HS _ D0) ?_
    rotate_left
    · intro W hSW
      go_simp
      try with_reducible rfl
    simp only [Act.put, List.setIfInBounds_toArray, List.set_cons_zero, List.set_cons_succ]
    refine wpAnyL_take' (i := 4) (v := ?_) (oi := { dst := some 57, op := Op.fieldAddr 35 (Operand.tmp 56) 0, type := 0, pos := "ref.go:122", after := #[{ on := 3, ground := Ground.data }], guard := none }) rfl (by kernel_rfl) (by kernel_rfl) (by kernel_rfl) (by kernel_rfl) rfl (fun _ _ _ h => h) (Or.inl ⟨by rfl, ?_⟩) (HS _ D0) ?_
    rotate_left
    · intro W hSW
      go_simp
      try with_reducible rfl
    simp only [Act.put, List.setIfInBounds_toArray, List.set_cons_zero, List.set_cons_succ]
    refine wpAnyL_take' (i := 5) (v := ?_) (oi := { dst := some 58, op := Op.load 3 (Operand.tmp 57), type := 3, pos := "ref.go:122", after := #[{ on := 4, ground := Ground.data }], guard := none }) rfl (by kernel_rfl) (by kernel_rfl) (by kernel_rfl) (by kernel_rfl) rfl (fun _ _ _ h => h) (Or.inl ⟨by rfl, ?_⟩) (HS _ D0) ?_
    rotate_left
    · intro W hSW
      go_simp
      try with_reducible rfl
    simp only [Act.put, List.setIfInBounds_toArray, List.set_cons_zero, List.set_cons_succ]
    refine wpAnyL_take' (i := 6) (v := ?_) (oi := { dst := some 59, op := Op.fieldAddr 24 (Operand.tmp 2) 0, type := 0, pos := "ref.go:122", after := #[], guard := none }) rfl (by kernel_rfl) (by kernel_rfl) (by kernel_rfl) (by kernel_rfl) rfl (fun _ _ _ h => h) (Or.inl ⟨by rfl, ?_⟩) (HS _ D0) ?_
    rotate_left
    · intro W hSW
      go_simp
      try with_reducible rfl
    simp only [Act.put, List.setIfInBounds_toArray, List.set_cons_zero, List.set_cons_succ]
    refine wpAnyL_take' (i := 7) (v := ?_) (oi := { dst := some 60, op := Op.load 22 (Operand.tmp 59), type := 22, pos := "ref.go:122", after := #[{ on := 6, ground := Ground.data }], guard := none }) rfl (by kernel_rfl) (by kernel_rfl) (by kernel_rfl) (by kernel_rfl) rfl (fun _ _ _ h => h) (Or.inl ⟨by rfl, ?_⟩) (HS _ D0) ?_
    rotate_left
    · intro W hSW
      go_simp
      try with_reducible rfl
    simp only [Act.put, List.setIfInBounds_toArray, List.set_cons_zero, List.set_cons_succ]
    refine wpAnyL_take' (i := 8) (v := ?_) (oi := { dst := some 61, op := Op.move (Operand.tmp 7), type := 3, pos := "ref.go:122", after := #[], guard := none }) rfl (by kernel_rfl) (by kernel_rfl) (by kernel_rfl) (by kernel_rfl) rfl (fun _ _ _ h => h) (Or.inl ⟨by rfl, ?_⟩) (HS _ D0) ?_
    rotate_left
    · intro W hSW
      go_simp
      try with_reducible rfl
    simp only [Act.put, List.setIfInBounds_toArray, List.set_cons_zero, List.set_cons_succ]
    refine wpAnyL_take' (i := 9) (v := ?_) (oi := { dst := some 62, op := Op.indexAddr 22 (Operand.tmp 60) (Operand.tmp 61), type := 0, pos := "ref.go:122", after := #[{ on := 7, ground := Ground.data }, { on := 8, ground := Ground.data }], guard := none }) rfl (by kernel_rfl) (by kernel_rfl) (by kernel_rfl) (by kernel_rfl) rfl (fun _ _ _ h => h) (Or.inl ⟨by rfl, ?_⟩) (HS _ D0) ?_
    rotate_left
    · intro W hSW
      go_simp
      try with_reducible rfl
    simp only [Act.put, List.setIfInBounds_toArray, List.set_cons_zero, List.set_cons_succ]
    refine wpAnyL_take' (i := 10) (v := ?_) (oi := { dst := some 63, op := Op.fieldAddr 35 (Operand.tmp 62) 1, type := 0, pos := "ref.go:122", after := #[{ on := 9, ground := Ground.data }], guard := none }) rfl (by kernel_rfl) (by kernel_rfl) (by kernel_rfl) (by kernel_rfl) rfl (fun _ _ _ h => h) (Or.inl ⟨by rfl, ?_⟩) (HS _ D0) ?_
    rotate_left
    · intro W hSW
      go_simp
      try with_reducible rfl
    simp only [Act.put, List.setIfInBounds_toArray, List.set_cons_zero, List.set_cons_succ]
    refine wpAnyL_take' (i := 11) (v := ?_) (oi := { dst := some 64, op := Op.load 3 (Operand.tmp 63), type := 3, pos := "ref.go:122", after := #[{ on := 10, ground := Ground.data }], guard := none }) rfl (by kernel_rfl) (by kernel_rfl) (by kernel_rfl) (by kernel_rfl) rfl (fun _ _ _ h => h) (Or.inl ⟨by rfl, ?_⟩) (HS _ D0) ?_
    rotate_left
    · intro W hSW
      go_simp
      try with_reducible rfl
    simp only [Act.put, List.setIfInBounds_toArray, List.set_cons_zero, List.set_cons_succ]
    refine wpAnyL_take' (i := 12) (v := ?_) (oi := { dst := some 65, op := Op.build 35 #[(0, Operand.tmp 58), (1, Operand.tmp 64)], type := 35, pos := "ref.go:122", after := #[{ on := 5, ground := Ground.data }, { on := 11, ground := Ground.data }], guard := none }) rfl (by kernel_rfl) (by kernel_rfl) (by kernel_rfl) (by kernel_rfl) rfl (fun _ _ _ h => h) (Or.inl ⟨by rfl, ?_⟩) (HS _ D0) ?_
    rotate_left
    · intro W hSW
      go_simp
      try with_reducible rfl
    simp only [Act.put, List.setIfInBounds_toArray, List.set_cons_zero, List.set_cons_succ]
    refine wpAnyL_one' (i := 13) (o := { dst := some 8, op := Op.alloc 35, type := 0, pos := "ref.go:122", after := #[], guard := none }) (by kernel_rfl) rfl rfl (fun K hK => ?_)
    go_simp
    refine hK.out _ _ (fun _ => HS _ (D0.alloc D0.size _)) ?_
    clear hK
    try simp only [Act.put, List.setIfInBounds_toArray, List.set_cons_zero, List.set_cons_succ]
    refine wpAnyL_one' (i := 14) (o := { dst := none, op := Op.store 35 (Operand.tmp 8) (Operand.tmp 65), type := 0, pos := "ref.go:122", after := #[{ on := 13, ground := Ground.data }, { on := 12, ground := Ground.data }, { on := 0, ground := Ground.phase }, { on := 1, ground := Ground.phase }, { on := 2, ground := Ground.phase }, { on := 3, ground := Ground.phase }, { on := 4, ground := Ground.phase }, { on := 5, ground := Ground.phase }, { on := 6, ground := Ground.phase }, { on := 7, ground := Ground.phase }, { on := 8, ground := Ground.phase }, { on := 9, ground := Ground.phase }, { on := 10, ground := Ground.phase }, { on := 11, ground := Ground.phase }, { on := 12, ground := Ground.phase }, { on := 13, ground := Ground.phase }], guard := none }) (by kernel_rfl) rfl rfl (fun K hK => ?_)
    go_simp
    refine hK.out _ _ (fun _ => HS _ (((Below.refl _ _).alloc (Nat.le_refl _) _).drew)) ?_
    clear hK
    refine wpAnyL_done (by kernel_rfl) ?_ _
    have bN : Below wc.heap.size wc (wc.alloc (Obj.cells #[.int .i64 xs, .int .i64 xp, .slice none 0 0] 35)).drew := ((Below.refl _ _).alloc (Nat.le_refl _) _).drew
    have kn : (wc.alloc (Obj.cells #[.int .i64 xs, .int .i64 xp, .slice none 0 0] 35)).drew.heap[wc.heap.size]? = some (Obj.cells #[.int .i64 xs, .int .i64 xp, .slice none 0 0] 35) := heap_alloc_new _ _
    have HON : Hid (OwnS w0.heap.size L1 (.slice ma1 L1.length mc1) (wc.alloc (Obj.cells #[.int .i64 xs, .int .i64 xp, .slice none 0 0] 35)).drew) := HOS1.out.next bN
    have HBN : Hid (Below w0.heap.size w0 (wc.alloc (Obj.cells #[.int .i64 xs, .int .i64 xp, .slice none 0 0] 35)).drew) := below_then HBR1.out bN HBR1.out.size
    have HKN : Hid ((wc.alloc (Obj.cells #[.int .i64 xs, .int .i64 xp, .slice none 0 0] 35)).drew.heap[ob]? = some (Obj.cells #[.slice ma1 L1.length mc1] 24)) := (bN.block _ (blk_lt HKO1.out)).trans HKO1.out
    have HAP : Hid ((∀ k, (Value.slice ma1 L1.length mc1).ownBlock = some k → k < wc.heap.size) ∧ ∀ p ∈ L1, ∀ k, p.2.ownBlock = some k → k < wc.heap.size) := ⟨fun k hk => (World.ownsRow.lt HOS1.out.nodes k hk).2, fun p hp k hk => (World.ownsRow.lt (HOS1.out.links p hp).own k hk).2⟩
    have HNB : Hid (w0.heap.size ≤ wc.heap.size ∧ ob < wc.heap.size) := ⟨HBR1.out.size, blk_lt HKO1.out⟩
    obtain ⟨nb, hnb⟩ : ∃ nb, nb = wc.heap.size := ⟨_, rfl⟩
    rw [← hnb] at kn HAP HNB ⊢
    generalize (wc.alloc (Obj.cells #[.int .i64 xs, .int .i64 xp, .slice none 0 0] 35)).drew = wn at *
    clear hnb bN HOS1 HBR1 HKO1 HS D0
    go_wp2_with fail
    go_loopw [9] (fun iv wq => ∃ (k : Nat) (P : List Int) (uv : Value), iv = .int .i64 k ∧ k ≤ xk.length ∧ Hid (P = (xk.take k).map (inc1 j)) ∧ P.length ≤ k ∧ Hid (OwnI w0.heap.size P uv wq) ∧ Hid (∀ q, uv.ownBlock = some q → nb < q) ∧ Hid (OwnS w0.heap.size L1 (.slice ma1 L1.length mc1) wq) ∧ Hid (Below w0.heap.size w0 wq) ∧ Hid (wq.heap[ob]? = some (Obj.cells #[.slice ma1 L1.length mc1] 24)) ∧ Hid (wq.heap[nb]? = some (Obj.cells #[.int .i64 xs, .int .i64 xp, uv] 35))) (fun i _ => xk.length - (intOf i).toNat)
    case atStart => exact ⟨0, [], .slice none 0 0, rfl, Nat.zero_le _, by show _ = _; simp, Nat.le_refl _, World.ownsRow_nil _ _ _ _, fun q hq => by simp [Value.ownBlock] at hq, HON, HBN, HKN, kn⟩
    case round =>
    clear HON HBN HKN kn
    obtain ⟨k, P, uv, rfl, hk, HPE, hPl, HOU, HUA, HOS, HBQ, HKO, HKN⟩ := hrel
    obtain ⟨ua, uc, rfl⟩ := slice_of_own HOU.out.own
    obtain ⟨c0, _, _, c2, hsx⟩ := HC.out wr HBQ.out
    have co : wr.cell? ⟨ob, 0, none⟩ = some (.slice ma1 L1.length mc1) := by rw [Lib.cell_of_heap HKO.out]; rfl
    have n0 : wr.cell? ⟨nb, 0, none⟩ = some (.int .i64 xs) := by rw [Lib.cell_of_heap HKN.out]; rfl
    have n1 : wr.cell? ⟨nb, 1, none⟩ = some (.int .i64 xp) := by rw [Lib.cell_of_heap HKN.out]; rfl
    have n2 : wr.cell? ⟨nb, 2, none⟩ = some (.slice ua P.length uc) := by rw [Lib.cell_of_heap HKN.out]; rfl
    have hwz := HBQ.out.size
    by_cases hkl : k < xk.length
    case neg =>
      obtain rfl : k = xk.length := by omega
      have hnw := new_cell3 wr (.int .i64 xs) (.int .i64 xp) (.slice ua P.length uc) 35
      have bN : Below wr.heap.size wr (wr.alloc (Obj.cells #[.int .i64 xs, .int .i64 xp, .slice ua P.length uc] 35)) := (Below.refl _ _).alloc (Nat.le_refl _) _
      have hON : (wr.alloc (Obj.cells #[.int .i64 xs, .int .i64 xp, .slice ua P.length uc] 35)).ownsRow w0.heap.size 35 3 (.slice ma1 L1.length mc1) L1.length (L1.flatMap encG) := World.ownsRow.alloc HOS.out.nodes _
      have hsz : w0.heap.size ≤ (wr.alloc (Obj.cells #[.int .i64 xs, .int .i64 xp, .slice ua P.length uc] 35)).heap.size := by simp; omega
      have kon := (bN.block _ (blk_lt HKO.out)).trans HKO.out
      have HOSN : Hid (OwnS w0.heap.size L1 (.slice ma1 L1.length mc1) (wr.alloc (Obj.cells #[.int .i64 xs, .int .i64 xp, .slice ua P.length uc] 35))) := HOS.out.next bN
      have HUN : Hid (OwnI w0.heap.size P (.slice ua P.length uc) (wr.alloc (Obj.cells #[.int .i64 xs, .int .i64 xp, .slice ua P.length uc] 35))) := ownsRow_below4 HOU.out bN
      have HBN : Hid (Below w0.heap.size w0 (wr.alloc (Obj.cells #[.int .i64 xs, .int .i64 xp, .slice ua P.length uc] 35))) := below_then HBQ.out bN HBQ.out.size
      clear bN HOS HOU HBQ HKO HKN hsx
      go_wp2_with (at_builtin; refine wpList_append_own_at _ rfl _ _ 22 rfl w0.heap.size 35 ig _ 3 40 Try.underlying22 hig hge0 hge1 hge2 rfl (by omega) _ _ _ rfl hON ⟨wr.heap.size, 0, none⟩ 1 1 [.int .i64 xs, .int .i64 xp, .slice ua P.length uc] rfl rfl hnw (by simp [Value.oneCell']) (by unfold maxLen; omega) (by omega) hsz ?_)
      intro v3 w3 hown3 hg3 _ _
      generalize wr.alloc (Obj.cells #[.int .i64 xs, .int .i64 xp, .slice ua P.length uc] 35) = wn at *
      obtain ⟨va, vc, rfl⟩ := slice_of_ownK hown3
      have b3 : But (fun k => (Value.slice ma1 L1.length mc1).ownBlock = some k) wn w3 := ⟨hg3.os, hg3.tape, hg3.output, hg3.size, fun k hk hD => hg3.block k hk (fun e => hD e.symm)⟩
      have nob : ¬ (Value.slice ma1 L1.length mc1).ownBlock = some ob := fun e => by obtain ⟨cs, e'⟩ := own_blk hON e kon; simp at e'
      have ko3 := but_blk b3 kon nob
      have co3 : w3.cell? ⟨ob, 0, none⟩ = some (.slice ma1 L1.length mc1) := by rw [Lib.cell_of_heap ko3]; rfl
      have cf3 : w3.frozen? ⟨ob, 0, none⟩ = false := Lib.frozen_of_heap ko3 _
      have HF : Hid (∃ (L' : List GnV) (mv' : Value), Hid (L'.map Prod.fst = O.take (i + 1 + if j < i + 1 then 1 else 0)) ∧ Hid (OwnS w0.heap.size L' mv' (w3.setCell ⟨ob, 0, none⟩ (.slice va (L1.length + 1) vc))) ∧ Hid (Below w0.heap.size w0 (w3.setCell ⟨ob, 0, none⟩ (.slice va (L1.length + 1) vc))) ∧ Hid ((w3.setCell ⟨ob, 0, none⟩ (.slice va (L1.length + 1) vc)).heap[ob]? = some (Obj.cells #[mv'] 24))) := by
        have hO3 : OwnS w0.heap.size (L1 ++ [((⟨xs, xp, P⟩ : Gn), Value.slice ua P.length uc)]) (.slice va (L1.length + 1) vc) w3 := HOSN.out.snoc2 b3 hown3 (ownsRow_keep HUN.out b3 (fun q hq e => own_types HOSN.out.nodes HUN.out.own (by decide) q e hq)) (fun p hp k hk e => by have h1 := HAP.out.2 p hp k hk; have h2 := HUA.out k e; omega) ⟨x64, y64, fun y hy => by
            rw [HPE.out, List.mem_map] at hy
            obtain ⟨q, hq, rfl⟩ := hy
            have := HXK.out.2 q (List.mem_of_mem_take hq)
            unfold inc1 i64B
            split <;> omega, by show P.length ≤ 1000000; omega⟩
        refine ⟨_, _, ?_, hO3.keepG ko3 ((But.refl _ _).setCell _ _ (.inr rfl)), ?_, ?_⟩
        · show _ = _
          have hP : (⟨xs, xp, P⟩ : Gn) = incG j ⟨xs, xp, xk⟩ := by unfold incG; rw [HPE.out, List.take_length]
          rw [List.map_append, HLT1.out]
          by_cases h : j ≤ i
          · rw [if_pos h, if_pos (by omega), take_snoc (k := i + 1) (x := ⟨xs, xp, P⟩) (by rw [HOG.out, if_neg (by omega), if_neg (by omega), Nat.add_sub_cancel, HLI.out, hP]; rfl)]; rfl
          · rw [if_neg h, if_neg (by omega), Nat.add_zero, Nat.add_zero, take_snoc (k := i) (x := ⟨xs, xp, P⟩) (by rw [HOG.out, if_pos (by omega), HLI.out, hP]; rfl)]; rfl
        · have h8 : Below w0.heap.size w0 w3 := HBN.out.trans (b3.below HBN.out.size (fun k hk => (World.ownsRow.lt HOSN.out.nodes k hk).1))
          exact h8.setCell HOB2.out _
        · show _ = _
          simpa using blk_set (o := 0) ko3 (.slice va (L1.length + 1) vc)
      clear hown3 hg3 b3 ko3 hnw hON HOSN HBN kon HLT1 HUN HUA HPE
      go_wp2_with fail
      obtain ⟨L', mv', z1, z2, z3, z4⟩ := HF.out
      exact ⟨⟨i + 1, L', mv', by go_num, by omega, z1, z2, z3, z4⟩, by simp [intOf]; omega⟩
    obtain ⟨_, _, e0, hrx, _⟩ := hsx
    cases e0
    obtain ⟨b3, o3, rfl, hb3, q3⟩ := hrx.at (Below.refl _ _) hkl
    unfold encI at q3
    have HPS : Hid (xk.take (k + 1) = xk.take k ++ [xk[k]]) := List.take_succ_eq_append_getElem hkl
    have hjb := HXK.out.2 _ (List.getElem_mem hkl)
    generalize xk[k] = jj at *
    obtain ⟨jn, rfl⟩ : ∃ jn : Nat, jj = jn := ⟨jj.toNat, by omega⟩
    clear hrx
    obtain ⟨GC, HGC, hgc⟩ : ∃ GC : Bool, Hid (GC = true ↔ (j : Int) ≤ jn) ∧ decide (j ≤ jn) = GC := ⟨_, by show _ ↔ _; simp, rfl⟩
    have hgc2 : decide ((jn : Int) ≥ j) = GC := by rw [← hgc]; simp
    go_upto_if 88 with fail
    clear hgc hgc2
    go_cut [10] from 89 to 90 (fun t10 wx => t10 = .int .i64 (inc1 j jn) ∧ wx = wr)
    case first =>
      cases GC with
      | true =>
        have he : inc1 j jn = (jn : Int) + 1 := by unfold inc1; rw [if_pos (HGC.out.1 rfl)]
        go_wp2_with fail
        go_meet
        exact ⟨by rw [he], rfl⟩
      | false =>
        have he : inc1 j jn = (jn : Int) := by unfold inc1; rw [if_neg (fun h => by have := HGC.out.2 h; cases this)]
        go_wp2_with fail
        go_meet
        exact ⟨by rw [he], rfl⟩
    case rest =>
    obtain ⟨rfl, rfl⟩ := hcut
    clear HGC
    have hy2 : 0 ≤ inc1 j jn ∧ inc1 j jn ≤ 1000000 := by unfold inc1; split <;> omega
    obtain ⟨y, HYE⟩ : ∃ y, Hid (inc1 j jn = y) := ⟨_, rfl⟩
    rw [HYE.out] at hy2 ⊢
    have bI : Below wc.heap.size wc (wc.alloc (Obj.cells #[.int .i64 y] 3)) := below_box _ _ _
    have hUN : (wc.alloc (Obj.cells #[.int .i64 y] 3)).ownsRow w0.heap.size 3 1 (.slice ua P.length uc) P.length (P.map encI) := World.ownsRow.alloc HOU.out.own _
    have hsz : w0.heap.size ≤ (wc.alloc (Obj.cells #[.int .i64 y] 3)).heap.size := by simp; omega
    have hnw := new_cell wc (.int .i64 y) 3
    have kon := (bI.block _ (blk_lt HKO.out)).trans HKO.out
    have knn := (bI.block _ (blk_lt HKN.out)).trans HKN.out
    have HOSN : Hid (OwnS w0.heap.size L1 (.slice ma1 L1.length mc1) (wc.alloc (Obj.cells #[.int .i64 y] 3))) := HOS.out.next bI
    have HBN : Hid (Below w0.heap.size w0 (wc.alloc (Obj.cells #[.int .i64 y] 3))) := below_then HBQ.out bI HBQ.out.size
    have HNW : Hid (nb < wc.heap.size) := blk_lt HKN.out
    have hzI : (wc.alloc (Obj.cells #[.int .i64 y] 3)).heap.size = wc.heap.size + 1 := by simp
    have HZI : Hid ((wc.alloc (Obj.cells #[.int .i64 y] 3)).heap.size = wc.heap.size + 1) := hzI
    clear bI HOS HOU HBQ HKO HKN q3 c0 c2 hzI
    go_wp2_with (at_builtin; refine wpList_append_own_at _ rfl _ _ 33 rfl w0.heap.size 3 ii _ 1 8 Try.underlying33 hii hz0 hz1 hz2 rfl (by omega) _ _ _ rfl hUN ⟨wc.heap.size, 0, none⟩ 1 1 [.int .i64 y] rfl rfl hnw (by simp [Value.oneCell']) (by unfold maxLen; omega) (by omega) hsz ?_)
    intro v3 w3 hown3 hg3 _ hat3
    generalize wc.alloc (Obj.cells #[.int .i64 y] 3) = wn at *
    obtain ⟨va, vc, rfl⟩ := slice_of_own hown3
    have b3 : But (fun k => (Value.slice ua P.length uc).ownBlock = some k) wn w3 := ⟨hg3.os, hg3.tape, hg3.output, hg3.size, fun k hk hD => hg3.block k hk (fun e => hD e.symm)⟩
    have nob : ¬ (Value.slice ua P.length uc).ownBlock = some ob := fun e => by obtain ⟨cs, e'⟩ := own_blk hUN e kon; simp at e'
    have nnb : ¬ (Value.slice ua P.length uc).ownBlock = some nb := fun e => by obtain ⟨cs, e'⟩ := own_blk hUN e knn; simp at e'
    have ko3 := but_blk b3 kon nob
    have kn3 := but_blk b3 knn nnb
    have cn3 : w3.cell? ⟨nb, 2, none⟩ = some (.slice ua P.length uc) := by rw [Lib.cell_of_heap kn3]; rfl
    have fn3 : w3.frozen? ⟨nb, 2, none⟩ = false := Lib.frozen_of_heap kn3 _
    have HF : Hid (∃ (P' : List Int) (uv' : Value), Hid (P' = (xk.take (k + 1)).map (inc1 j)) ∧ P'.length ≤ k + 1 ∧ Hid (OwnI w0.heap.size P' uv' (w3.setCell ⟨nb, 2, none⟩ (.slice va (P.length + 1) vc))) ∧ Hid (∀ q, uv'.ownBlock = some q → nb < q) ∧ Hid (OwnS w0.heap.size L1 (.slice ma1 L1.length mc1) (w3.setCell ⟨nb, 2, none⟩ (.slice va (P.length + 1) vc))) ∧ Hid (Below w0.heap.size w0 (w3.setCell ⟨nb, 2, none⟩ (.slice va (P.length + 1) vc))) ∧ Hid ((w3.setCell ⟨nb, 2, none⟩ (.slice va (P.length + 1) vc)).heap[ob]? = some (Obj.cells #[.slice ma1 L1.length mc1] 24)) ∧ Hid ((w3.setCell ⟨nb, 2, none⟩ (.slice va (P.length + 1) vc)).heap[nb]? = some (Obj.cells #[.int .i64 xs, .int .i64 xp, uv'] 35))) := by
      have hnw2 := HNW.out
      have huv : ∀ q, (Value.slice va (P.length + 1) vc).ownBlock = some q → nb < q := fun q hq => by
        rcases hat3 with h | h
        · rw [h] at hq; exact HUA.out q hq
        · rw [h] at hq; have := Option.some.inj hq; have := HZI.out; omega
      have hown4 : OwnI w0.heap.size (P ++ [y]) (.slice va (P.length + 1) vc) w3 := by unfold OwnI; simpa [encI] using hown3
      have b5 : But (fun q => (Value.slice ua P.length uc).ownBlock = some q ∨ q = nb) wn (w3.setCell ⟨nb, 2, none⟩ (.slice va (P.length + 1) vc)) := (b3.mono (fun _ _ h => .inl h)).setCell _ _ (.inr (.inr rfl))
      refine ⟨P ++ [y], .slice va (P.length + 1) vc, ?_, by simp; omega, ?_, huv, ?_, ?_, ?_, ?_⟩
      · show _ = _
        rw [HPS.out, List.map_append, ← HPE.out, ← HYE.out]; rfl
      · exact ownsRow_keep (D := fun q => q = nb) hown4 ((But.refl _ _).setCell _ _ (.inr rfl)) (fun q hq e => by have := huv q hq; omega)
      · refine HOSN.out.keepD b5 (fun q hq h => ?_) (fun p hp q hq h => ?_)
        · have h1 := HAP.out.1 q hq
          rcases h with h | h
          · have := HUA.out q h; omega
          · omega
        · have h1 := HAP.out.2 p hp q hq
          rcases h with h | h
          · have := HUA.out q h; omega
          · omega
      · exact HBN.out.trans (b5.below HBN.out.size (fun q hq => by
          rcases hq with h | h
          · exact (World.ownsRow.lt hUN q h).1
          · have := HNB.out.1; omega))
      · exact set_blk ko3 (by have := HNB.out.2; omega)
      · show _ = _
        simpa using blk_set (o := 2) kn3 (.slice va (P.length + 1) vc)
    clear hown3 hg3 hat3 b3 ko3 kn3 hnw hUN HOSN HBN kon knn HUA HPE HPS HYE
    go_wp2_with fail
    obtain ⟨P', uv', z1, z2, z3, z4, z5, z6, z7, z8⟩ := HF.out
    exact ⟨⟨k + 1, P', uv', by go_num, by omega, z1, z2, z3, z4, z5, z6, z7, z8⟩, by simp [intOf]; omega⟩
end Go.Proofs.Ytjpbfckdiojghaa
