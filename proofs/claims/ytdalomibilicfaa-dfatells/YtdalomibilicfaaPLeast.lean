/- The program's Least: it is in the least form, and does the same. -/
import Derived.Test.YtdalomibilicfaaJPMach0
import Derived.Laws.EntriesVeiled
namespace Go.Proofs.Ytdalomibilicfaa
open Go.RowKit Go.Shelf
attribute [local go_sem] Oper.semAt_some

/-- A box of one cell is none of a machine's rows. -/
theorem box1 {W : World} {k : Nat} {x : Value} {t : TypeId} (h : W.heap[k]? = some (Obj.cells #[x] t)) {b o : Nat} {u : Value} (hc : W.cell? ⟨b, o, none⟩ = some u) (ho : 0 < o) : b ≠ k := by
  intro e
  subst e
  rw [Lib.cell_of_heap h] at hc
  have : ¬ o < (#[x] : Array Value).size := by simp; omega
  rw [Array.getElem?_eq_none (by omega)] at hc
  cases hc
theorem SlA.box1 {l : List Ar} {v : Value} {W : World} {k : Nat} {x : Value} {t : TypeId} (h : SlA l v W) (hk : W.heap[k]? = some (Obj.cells #[x] t)) (y : Value) : SlA l v (W.setCell ⟨k, 0, none⟩ y) := by
  obtain ⟨ao, cap, h0, h1, h2⟩ := h
  refine ⟨ao, cap, h0, fun i z hi => ?_, h2⟩
  obtain ⟨b, off, e, hb, c0, c1, c2, h3⟩ := h1 i z hi
  have hne := Go.Proofs.Ytdalomibilicfaa.box1 hk c1 (by omega)
  have hB : But (fun j => j = k) W (W.setCell ⟨k, 0, none⟩ y) := (But.refl _ _).setCell _ _ (.inr rfl)
  exact ⟨b, off, e, Nat.lt_of_lt_of_le hb hB.size, (hB.cell (p := ⟨b, off + i * 3, none⟩) hb hne).trans c0, (hB.cell (p := ⟨b, off + i * 3 + 1, none⟩) hb hne).trans c1, (hB.cell (p := ⟨b, off + i * 3 + 2, none⟩) hb hne).trans c2, h3⟩
theorem SlD.box1 {l : List Ds} {v : Value} {W : World} {k : Nat} {x : Value} {t : TypeId} (h : SlD l v W) (hk : W.heap[k]? = some (Obj.cells #[x] t)) (y : Value) : SlD l v (W.setCell ⟨k, 0, none⟩ y) := by
  obtain ⟨ao, cap, h0, h1, h2⟩ := h
  refine ⟨ao, cap, h0, fun i z hi => ?_, h2⟩
  obtain ⟨b, off, u, e, hb, c0, c1, c2, h3⟩ := h1 i z hi
  have hne := Go.Proofs.Ytdalomibilicfaa.box1 hk c1 (by omega)
  have hB : But (fun j => j = k) W (W.setCell ⟨k, 0, none⟩ y) := (But.refl _ _).setCell _ _ (.inr rfl)
  exact ⟨b, off, u, e, Nat.lt_of_lt_of_le hb hB.size, (hB.cell (p := ⟨b, off + i * 2, none⟩) hb hne).trans c0, (hB.cell (p := ⟨b, off + i * 2 + 1, none⟩) hb hne).trans c1, c2.box1 hk y, h3⟩

set_option maxRecDepth 100000 in
set_option maxHeartbeats 1600000 in
theorem ofClasses_any (l : List Ds) (c : List Int) (k : Nat) (v cv : Value) (w : World) (hl : SlD l v w) (hc : SlI c cv w) (hC : Cls l k c) (hC' : Cls l (k + 1) c) (hn : l.length ≤ 600) (hf : fitD l) (har : ∀ s ∈ l, s.arcs.length ≤ 100000) :
    Calls Try.prog 33 #[v, cv] w fun e w' => ∃ dv d, e = .returned (.agg #[dv]) ∧ SlD d dv w' ∧ NF d ∧ (resD d 0 = resD l 0 ∧ d.length ≤ l.length) ∧ Below w.heap.size w w' := by
  have hl0 : 0 < l.length := List.length_pos_iff.2 hf.some
  have hc0 : 0 < c.length := by rw [hC.len]; exact hl0
  have hq0 : clsOf c 0 = c[0] := by unfold clsOf; simp [hc0]
  have hqc : clsOf c 0 ∈ c := by rw [hq0]; exact List.getElem_mem hc0
  have HNF : Hid (∀ L d, MI l c (clsOf c 0) L.length L d → NF d ∧ (resD d 0 = resD l 0 ∧ d.length ≤ l.length)) := fun L d h => ⟨(h.nf hf hC.len (cls_all hf hC hC')).1, (h.nf hf hC.len (cls_all hf hC hC')).2, by have h1 := h.small; have h2 := h.len; have h3 := hC.len; omega⟩
  have HMA : Hid (∀ (Bl Bc Bo : Nat) (W : World), Below w.heap.size w W → ClsB W v cv Bl Bc Bo W → Calls Try.prog 55 #[.int .i64 (clsOf c 0), .func (.func 52) #[] #[.pointer (some ⟨Bo, 0, none⟩)], .func (.func 53) #[] #[.pointer (some ⟨Bo, 0, none⟩), .pointer (some ⟨Bc, 0, none⟩)]] W fun e w' => ∃ dv d L, e = .returned (.tuple #[.agg #[dv], .int .i64 0]) ∧ SlD d dv w' ∧ MI l c (clsOf c 0) L.length L d ∧ Below W.heap.size W w') := fun Bl Bc Bo W hW hB => machine_any l c v cv (clsOf c 0) Bl Bc Bo W (hl.next hW) (hc.next hW) hC.len hn hf har hqc hB
  obtain ⟨va, vc, rfl, _⟩ := hl
  obtain ⟨ca, cc, rfl, hcr, _⟩ := hc
  obtain ⟨b, off, rfl, hb, cj⟩ := hcr.at (Below.refl _ _) hc0
  have cj2 : w.cell? ⟨b, off, none⟩ = some (.int .i64 (clsOf c 0)) := by rw [hq0]; simpa [encI] using cj
  generalize clsOf c 0 = q at *
  clear hC hC' hf har hcr cj hq0 hqc
  go_enter Try.func33, Try.ntmps33
  have H4 : Hid (Below w.heap.size w ((((w.alloc (Obj.cells #[.slice va l.length vc] 22)).alloc (Obj.cells #[.slice (some ⟨b, off, none⟩) c.length cc] 57)).alloc (Obj.cells #[.slice none 0 0] 24)).alloc (Obj.cells #[Value.func (.func 50) #[] #[.pointer (some ⟨w.heap.size, 0, none⟩), .pointer (some ⟨w.heap.size + 1, 0, none⟩)]] 84)) ∧ ((((w.alloc (Obj.cells #[.slice va l.length vc] 22)).alloc (Obj.cells #[.slice (some ⟨b, off, none⟩) c.length cc] 57)).alloc (Obj.cells #[.slice none 0 0] 24)).alloc (Obj.cells #[Value.func (.func 50) #[] #[.pointer (some ⟨w.heap.size, 0, none⟩), .pointer (some ⟨w.heap.size + 1, 0, none⟩)]] 84)).heap[w.heap.size]? = some (Obj.cells #[.slice va l.length vc] 22) ∧ ((((w.alloc (Obj.cells #[.slice va l.length vc] 22)).alloc (Obj.cells #[.slice (some ⟨b, off, none⟩) c.length cc] 57)).alloc (Obj.cells #[.slice none 0 0] 24)).alloc (Obj.cells #[Value.func (.func 50) #[] #[.pointer (some ⟨w.heap.size, 0, none⟩), .pointer (some ⟨w.heap.size + 1, 0, none⟩)]] 84)).heap[w.heap.size + 1]? = some (Obj.cells #[.slice (some ⟨b, off, none⟩) c.length cc] 57) ∧ ((((w.alloc (Obj.cells #[.slice va l.length vc] 22)).alloc (Obj.cells #[.slice (some ⟨b, off, none⟩) c.length cc] 57)).alloc (Obj.cells #[.slice none 0 0] 24)).alloc (Obj.cells #[Value.func (.func 50) #[] #[.pointer (some ⟨w.heap.size, 0, none⟩), .pointer (some ⟨w.heap.size + 1, 0, none⟩)]] 84)).heap[w.heap.size + 1 + 1]? = some (Obj.cells #[.slice none 0 0] 24) ∧ ((((w.alloc (Obj.cells #[.slice va l.length vc] 22)).alloc (Obj.cells #[.slice (some ⟨b, off, none⟩) c.length cc] 57)).alloc (Obj.cells #[.slice none 0 0] 24)).alloc (Obj.cells #[Value.func (.func 50) #[] #[.pointer (some ⟨w.heap.size, 0, none⟩), .pointer (some ⟨w.heap.size + 1, 0, none⟩)]] 84)).heap[w.heap.size + 1 + 1 + 1]? = some (Obj.cells #[Value.func (.func 50) #[] #[.pointer (some ⟨w.heap.size, 0, none⟩), .pointer (some ⟨w.heap.size + 1, 0, none⟩)]] 84)) := by
    refine ⟨(((((Below.refl _ _).alloc (Nat.le_refl _) _).alloc (by simp) _).alloc (by simp <;> omega) _).alloc (by simp <;> omega) _), blk_new (blk_new (blk_new (heap_alloc_new _ _))), blk_new (blk_new ?_), blk_new ?_, ?_⟩
    · have := heap_alloc_new (w.alloc (Obj.cells #[.slice va l.length vc] 22)) (Obj.cells #[.slice (some ⟨b, off, none⟩) c.length cc] 57)
      simpa using this
    · have := heap_alloc_new ((w.alloc (Obj.cells #[.slice va l.length vc] 22)).alloc (Obj.cells #[.slice (some ⟨b, off, none⟩) c.length cc] 57)) (Obj.cells #[.slice none 0 0] 24)
      simpa using this
    · have := heap_alloc_new (((w.alloc (Obj.cells #[.slice va l.length vc] 22)).alloc (Obj.cells #[.slice (some ⟨b, off, none⟩) c.length cc] 57)).alloc (Obj.cells #[.slice none 0 0] 24)) (Obj.cells #[Value.func (.func 50) #[] #[.pointer (some ⟨w.heap.size, 0, none⟩), .pointer (some ⟨w.heap.size + 1, 0, none⟩)]] 84)
      simpa using this
  go_upto_region 4 with fail
  generalize ((((w.alloc (Obj.cells #[.slice va l.length vc] 22)).alloc (Obj.cells #[.slice (some ⟨b, off, none⟩) c.length cc] 57)).alloc (Obj.cells #[.slice none 0 0] 24)).alloc (Obj.cells #[Value.func (.func 50) #[] #[.pointer (some ⟨w.heap.size, 0, none⟩), .pointer (some ⟨w.heap.size + 1, 0, none⟩)]] 84)) = W4 at *
  obtain ⟨y0, y1, y2, y3, y4⟩ := H4.out
  have k0 : W4.cell? ⟨w.heap.size + 1, 0, none⟩ = some (.slice (some ⟨b, off, none⟩) c.length cc) := by rw [Lib.cell_of_heap y2]; rfl
  have k1 : W4.cell? ⟨b, off, none⟩ = some (.int .i64 q) := (y0.cell (p := ⟨b, off, none⟩) hb).trans cj2
  have C1 := HMA.out w.heap.size (w.heap.size + 1) (w.heap.size + 1 + 1 + 1) W4 y0 ⟨Below.refl _ _, y1, y2, y4⟩
  clear y0 y1 y2 y3 y4 cj2 HMA
  go_wp2_with fail
  refine C1.mono ?_
  rintro e W5 ⟨dv, d, L, rfl, hsd, hmi, hb5⟩
  clear C1 k0 k1
  obtain ⟨h1, h2⟩ := HNF.out L d hmi
  have HE : Hid (SlD d dv W5 ∧ NF d ∧ (resD d 0 = resD l 0 ∧ d.length ≤ l.length) ∧ Below w.heap.size w W5 ∧ W5.heap[w.heap.size + 1 + 1]? = some (Obj.cells #[.slice none 0 0] 24)) := ⟨hsd, h1, h2, H4.out.1.trans (hb5.mono H4.out.1.size), (hb5.block _ (blk_lt H4.out.2.2.2.1)).trans H4.out.2.2.2.1⟩
  obtain ⟨da, dc, rfl, _⟩ := hsd
  clear hmi hb5 h1 h2 H4 HNF
  have g6 : W5.cell? ⟨w.heap.size + 1 + 1, 0, none⟩ = some (.slice none 0 0) := by rw [Lib.cell_of_heap HE.out.2.2.2.2]; rfl
  have g7 : W5.frozen? ⟨w.heap.size + 1 + 1, 0, none⟩ = false := Lib.frozen_of_heap HE.out.2.2.2.2 _
  have g8 : w.heap.size + 1 + 1 < W5.heap.size := blk_lt HE.out.2.2.2.2
  have HZ : Hid (∀ W, W = (W5.setCell ⟨w.heap.size + 1 + 1, 0, none⟩ (.slice da d.length dc)).alloc (Obj.cells #[.slice da d.length dc] 24) → W.heap[w.heap.size + 1 + 1]? = some (Obj.cells #[.slice da d.length dc] 24) ∧ SlD d (.slice da d.length dc) W ∧ NF d ∧ (resD d 0 = resD l 0 ∧ d.length ≤ l.length) ∧ Below w.heap.size w W) := fun W hW => by
    obtain ⟨e1, e2, e3, e4, e5⟩ := HE.out
    have b1 : But (fun j => j = w.heap.size + 1 + 1) W5 (W5.setCell ⟨w.heap.size + 1 + 1, 0, none⟩ (.slice da d.length dc)) := (But.refl _ _).setCell _ _ (.inr rfl)
    have b2 := below_box (W5.setCell ⟨w.heap.size + 1 + 1, 0, none⟩ (.slice da d.length dc)) (.slice da d.length dc) 24
    have b3 := below_but e4 b1 (Nat.le_refl _) (fun k hk => by omega)
    rw [hW]
    exact ⟨blk_new (by simpa using blk_set (o := 0) e5 (.slice da d.length dc)), (e1.box1 e5 _).next b2, e2, e3, b3.trans (b2.mono b3.size)⟩
  clear HE
  go_wp2_with fail
  have HZ2 := HZ.out _ rfl
  refine bodyPost_ret (results_cell_row rfl _ _ (w.heap.size + 1 + 1) 24 #[.slice da d.length dc] (0, 0) _ rfl HZ2.1 Try.underlying24 rfl (by kernel_rfl)) rfl ?_
  exact ⟨_, d, rfl, HZ2.2⟩

set_option maxRecDepth 100000 in
set_option maxHeartbeats 1600000 in
theorem least_any (l : List Ds) (v : Value) (w : World) (hl : SlD l v w) (hfb : fitB l = true) (hn : l.length ≤ 600) (hf : fitD l) (har : ∀ s ∈ l, s.arcs.length ≤ 100000) :
    Calls Try.prog 14 #[.agg #[v]] w fun e w' => ∃ dv d, e = .returned (.agg #[dv]) ∧ SlD d dv w' ∧ NF d ∧ (resD d 0 = resD l 0 ∧ d.length ≤ l.length) ∧ Below w.heap.size w w' := by
  have HSE : Hid (∀ W, Below w.heap.size w W → Calls Try.prog 34 #[v] W fun e w' => ∃ cv c k, e = .returned cv ∧ SlI c cv w' ∧ Cls l k c ∧ Cls l (k + 1) c ∧ Below W.heap.size W w') := fun W hW => settled_any l v W (hl.next hW) hf (by omega) har
  have HOF : Hid (∀ W c cv k, Below w.heap.size w W → SlI c cv W → Cls l k c → Cls l (k + 1) c → Calls Try.prog 33 #[v, cv] W fun e w' => ∃ dv d, e = .returned (.agg #[dv]) ∧ SlD d dv w' ∧ NF d ∧ (resD d 0 = resD l 0 ∧ d.length ≤ l.length) ∧ Below W.heap.size W w') := fun W c cv k hW h1 h2 h3 => ofClasses_any l c k v cv W (hl.next hW) h1 h2 h3 hn hf har
  have HFI : Hid (∀ W, Below w.heap.size w W → Calls Try.prog 6 #[.agg #[v]] W fun e w' => e = .returned (.bool true) ∧ Below W.heap.size W w') := fun W hW => by
    have := fit_any l v W (hl.next hW)
    rw [hfb] at this
    exact this
  obtain ⟨va, vc, rfl, _⟩ := hl
  have H2 : Hid (Below w.heap.size w ((w.alloc (Obj.cells #[.slice va l.length vc] 24)).alloc (Obj.cells #[.slice none 0 0] 24)) ∧ ((w.alloc (Obj.cells #[.slice va l.length vc] 24)).alloc (Obj.cells #[.slice none 0 0] 24)).heap[w.heap.size]? = some (Obj.cells #[.slice va l.length vc] 24) ∧ ((w.alloc (Obj.cells #[.slice va l.length vc] 24)).alloc (Obj.cells #[.slice none 0 0] 24)).heap[w.heap.size + 1]? = some (Obj.cells #[.slice none 0 0] 24)) := by
    refine ⟨((Below.refl _ _).alloc (Nat.le_refl _) _).alloc (by simp) _, blk_new (heap_alloc_new _ _), ?_⟩
    have := heap_alloc_new (w.alloc (Obj.cells #[.slice va l.length vc] 24)) (Obj.cells #[.slice none 0 0] 24)
    simpa using this
  have C1 := HFI.out _ H2.out.1
  clear hf har hfb HFI
  go_enter Try.func14, Try.ntmps14
  go_wp2_with fail
  refine C1.mono ?_
  rintro e W1 ⟨rfl, hb1⟩
  clear C1
  have H3 : Hid (Below w.heap.size w W1 ∧ W1.heap[w.heap.size]? = some (Obj.cells #[.slice va l.length vc] 24) ∧ W1.heap[w.heap.size + 1]? = some (Obj.cells #[.slice none 0 0] 24)) := by
    obtain ⟨z1, z2, z3⟩ := H2.out
    exact ⟨z1.trans (hb1.mono z1.size), (hb1.block _ (blk_lt z2)).trans z2, (hb1.block _ (blk_lt z3)).trans z3⟩
  clear H2 hb1
  go_wp2_with fail
  have bd : Below w.heap.size w W1.drew := below_drewN H3.out.1 1
  have k0 : W1.cell? ⟨w.heap.size, 0, none⟩ = some (.slice va l.length vc) := by rw [Lib.cell_of_heap H3.out.2.1]; rfl
  have HS : W1.drew.cell? ⟨w.heap.size, 0, none⟩ = some (.slice va l.length vc) := k0
  have HS1 : Hid (∀ W, Below W1.drew.heap.size W1.drew W → W.cell? ⟨w.heap.size, 0, none⟩ = some (.slice va l.length vc) ∧ Below w.heap.size w W ∧ W.heap[w.heap.size + 1]? = some (Obj.cells #[.slice none 0 0] 24)) := fun W hW => ⟨(hW.cell (p := ⟨w.heap.size, 0, none⟩) (World.block_lt_of_cell? _ _ k0)).trans k0, bd.trans (hW.mono bd.size), (hW.block _ (blk_lt H3.out.2.2)).trans H3.out.2.2⟩
  have C2 := HSE.out _ bd
  clear bd k0 H3 HSE
  refine wp_region_L (fun W => W.cell? ⟨w.heap.size, 0, none⟩ = some (.slice va l.length vc)) 6 (by kernel_rfl) 7 rfl ?_
  refine wpAnyL_take' (i := 0) (v := ?_) (oi := { dst := some 7, op := Op.fieldAddr 24 (Operand.tmp 1) 0, type := 0, pos := "dfa.go:49", after := #[], guard := none }) rfl (by kernel_rfl) (by kernel_rfl) (by kernel_rfl) (by kernel_rfl) rfl (fun _ _ _ h => h) (Or.inl ⟨by rfl, ?_⟩) HS ?_
  rotate_left
  · intro W hSW
    go_simp
    try with_reducible rfl
  simp only [Act.put, List.setIfInBounds_toArray, List.set_cons_zero, List.set_cons_succ]
  refine wpAnyL_take' (i := 1) (v := ?_) (oi := { dst := some 8, op := Op.load 22 (Operand.tmp 7), type := 22, pos := "dfa.go:49", after := #[{ on := 0, ground := Ground.data }], guard := none }) rfl (by kernel_rfl) (by kernel_rfl) (by kernel_rfl) (by kernel_rfl) rfl (fun _ _ _ h => h) (Or.inl ⟨by rfl, ?_⟩) HS ?_
  rotate_left
  · intro W hSW
    go_simp
    try with_reducible rfl
  simp only [Act.put, List.setIfInBounds_toArray, List.set_cons_zero, List.set_cons_succ]
  refine wpAnyL_take' (i := 2) (v := ?_) (oi := { dst := some 9, op := Op.fieldAddr 24 (Operand.tmp 1) 0, type := 0, pos := "dfa.go:49", after := #[], guard := none }) rfl (by kernel_rfl) (by kernel_rfl) (by kernel_rfl) (by kernel_rfl) rfl (fun _ _ _ h => h) (Or.inl ⟨by rfl, ?_⟩) HS ?_
  rotate_left
  · intro W hSW
    go_simp
    try with_reducible rfl
  simp only [Act.put, List.setIfInBounds_toArray, List.set_cons_zero, List.set_cons_succ]
  refine wpAnyL_take' (i := 3) (v := ?_) (oi := { dst := some 10, op := Op.load 22 (Operand.tmp 9), type := 22, pos := "dfa.go:49", after := #[{ on := 2, ground := Ground.data }], guard := none }) rfl (by kernel_rfl) (by kernel_rfl) (by kernel_rfl) (by kernel_rfl) rfl (fun _ _ _ h => h) (Or.inl ⟨by rfl, ?_⟩) HS ?_
  rotate_left
  · intro W hSW
    go_simp
    try with_reducible rfl
  simp only [Act.put, List.setIfInBounds_toArray, List.set_cons_zero, List.set_cons_succ]
  refine wpAnyL_one' (i := 4) (o := { dst := some 11, op := Op.call { callee := Callee.value (Operand.func 34), args := #[Operand.tmp 10], argTypes := #[22] }, type := 57, pos := "dfa.go:49", after := #[{ on := 3, ground := Ground.data }], guard := none }) (by kernel_rfl) rfl rfl (fun K hK => ?_)
  go_simp
  refine (C2).mono ?_
  rintro e W2 ⟨cv, c, k, rfl, hsc, hk1, hk2, hb2⟩
  refine hK.out _ _ (fun _ => (HS1.out _ hb2).1) ?_
  clear hK
  refine wpAnyL_one' (i := 5) (o := { dst := some 12, op := Op.call { callee := Callee.value (Operand.func 33), args := #[Operand.tmp 8, Operand.tmp 11], argTypes := #[22, 57] }, type := 24, pos := "dfa.go:49", after := #[{ on := 1, ground := Ground.data }, { on := 4, ground := Ground.data }, { on := 4, ground := Ground.chain }], guard := none }) (by kernel_rfl) rfl rfl (fun K hK => ?_)
  go_simp
  refine ((HOF.out _ c cv k (HS1.out _ hb2).2.1 hsc hk1 hk2)).mono ?_
  rintro e W3 ⟨dv, d, rfl, hsd, hnf, hrs, hb3⟩
  refine hK.out _ _ (fun _ => (HS1.out _ (hb2.trans (hb3.mono hb2.size))).1) ?_
  clear hK
  have g9 := (HS1.out _ (hb2.trans (hb3.mono hb2.size))).2
  obtain ⟨da, dc, rfl, _⟩ := id hsd
  have g6 : W3.cell? ⟨w.heap.size + 1, 0, none⟩ = some (.slice none 0 0) := by rw [Lib.cell_of_heap g9.2]; rfl
  have g7 : W3.frozen? ⟨w.heap.size + 1, 0, none⟩ = false := Lib.frozen_of_heap g9.2 _
  refine wpAnyL_one' (i := 6) (o := { dst := none, op := Op.store 24 (Operand.tmp 2) (Operand.tmp 12), type := 0, pos := "dfa.go:49", after := #[{ on := 5, ground := Ground.data }, { on := 5, ground := Ground.chain }, { on := 0, ground := Ground.phase }, { on := 1, ground := Ground.phase }, { on := 2, ground := Ground.phase }, { on := 3, ground := Ground.phase }, { on := 4, ground := Ground.phase }, { on := 5, ground := Ground.phase }], guard := none }) (by kernel_rfl) rfl rfl (fun K hK => ?_)
  go_simp
  refine hK.out _ _ (fun h => absurd h (by decide)) ?_
  clear hK
  refine wpAnyL_done (by kernel_rfl) ?_ _
  have HZ : Hid ((W3.setCell ⟨w.heap.size + 1, 0, none⟩ (.slice da d.length dc)).heap[w.heap.size + 1]? = some (Obj.cells #[.slice da d.length dc] 24) ∧ SlD d (.slice da d.length dc) (W3.setCell ⟨w.heap.size + 1, 0, none⟩ (.slice da d.length dc)) ∧ NF d ∧ (resD d 0 = resD l 0 ∧ d.length ≤ l.length) ∧ Below w.heap.size w (W3.setCell ⟨w.heap.size + 1, 0, none⟩ (.slice da d.length dc))) := by
    have b1 : But (fun j => j = w.heap.size + 1) W3 (W3.setCell ⟨w.heap.size + 1, 0, none⟩ (.slice da d.length dc)) := (But.refl _ _).setCell _ _ (.inr rfl)
    exact ⟨by simpa using blk_set (o := 0) g9.2 (.slice da d.length dc), hsd.box1 g9.2 _, hnf, hrs, below_but g9.1 b1 (Nat.le_refl _) (fun k hk => by omega)⟩
  clear hsd hnf hrs hb3 hb2 hsc hk1 hk2 HS HS1 C2 HOF g6 g7 g9
  generalize W3.setCell ⟨w.heap.size + 1, 0, none⟩ (.slice da d.length dc) = W4 at *
  go_wp2_with fail
  refine bodyPost_ret (results_cell_row rfl _ _ (w.heap.size + 1) 24 #[.slice da d.length dc] (0, 0) _ rfl HZ.out.1 Try.underlying24 rfl (by kernel_rfl)) rfl ?_
  exact ⟨_, d, rfl, HZ.out.2⟩
end Go.Proofs.Ytdalomibilicfaa
