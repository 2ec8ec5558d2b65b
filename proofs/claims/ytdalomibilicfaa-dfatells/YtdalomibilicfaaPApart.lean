/- The program's apart. -/
import Derived.Test.YtdalomibilicfaaJPBackR
import Derived.Test.YtdalomibilicfaaRound
import Derived.Laws.BytesArg
namespace Go.Proofs.Ytdalomibilicfaa
open Go.RowKit Go.Shelf
attribute [local go_sem] Oper.semAt_some

theorem bkT_len (VV : List Value) : ∀ n, (bkT VV n).length = n
  | 0 => rfl
  | n + 1 => by rw [bkT, List.length_cons, bkT_len VV n]
theorem conv_u8 {W : World} {B : Nat} {sv : Value} {P : List Int} (h : W.ownsRow B 5 1 sv P.length (P.map encZ8)) (hb : ∀ z ∈ P, 0 ≤ z ∧ z ≤ 255) : (convert 64 9 sv).run Try.prog W = .ok (.string (strB P)) W := by
  rcases h.2 with ⟨rfl, h0⟩ | ⟨g, cap, cur, rfl, _, _, _⟩
  · obtain rfl := List.eq_nil_of_length_eq_zero h0
    exact run_convert_bytes_nil W 64 5 Try.underlying64 Try.underlying5 _ _ 9 Try.underlying9
  · have h9 := run_convert_bytes_back (P := Try.prog) W 64 9 5 ⟨g, 0, none⟩ cap (P.map fun z => UInt8.ofNat z.toNat) Try.underlying64 Try.underlying5 Try.underlying9 (fun j hj => by
      have hj' : j < P.length := by simpa using hj
      have h8 := own_cells1 h (j := j) (u := encZ8 P[j]) (by simp [hj'])
      rw [add_plain, Nat.zero_add, h8]
      have := hb P[j] (List.getElem_mem hj')
      simp [encZ8]
      omega)
    simpa [strB] using h9
theorem infoU8 : (Try.prog.info? 5).map (fun i => (i.zero, i.size, i.bytes)) = some (some (.int .u8 0), 1, 1) := by kernel_rfl
theorem allocs5 (w : World) (o0 o1 o2 o3 o4 : Obj) : (((((w.alloc o0).alloc o1).alloc o2).alloc o3).alloc o4).heap.size = w.heap.size + 5 ∧ Below w.heap.size w (((((w.alloc o0).alloc o1).alloc o2).alloc o3).alloc o4) ∧ (((((w.alloc o0).alloc o1).alloc o2).alloc o3).alloc o4).heap[w.heap.size]? = some o0 ∧ (((((w.alloc o0).alloc o1).alloc o2).alloc o3).alloc o4).heap[w.heap.size + 1]? = some o1 ∧ (((((w.alloc o0).alloc o1).alloc o2).alloc o3).alloc o4).heap[w.heap.size + 1 + 1]? = some o2 ∧ (((((w.alloc o0).alloc o1).alloc o2).alloc o3).alloc o4).heap[w.heap.size + 1 + 1 + 1]? = some o3 ∧ (((((w.alloc o0).alloc o1).alloc o2).alloc o3).alloc o4).heap[w.heap.size + 1 + 1 + 1 + 1]? = some o4 := by
  refine ⟨by simp, (((((Below.refl _ _).alloc (Nat.le_refl _) _).alloc (by simp) _).alloc (by simp; omega) _).alloc (by simp; omega) _).alloc (by simp; omega) _, blk_new (blk_new (blk_new (blk_new (heap_alloc_new _ _)))), blk_new (blk_new (blk_new ?_)), blk_new (blk_new ?_), blk_new ?_, ?_⟩
  · simpa using heap_alloc_new (w.alloc o0) o1
  · simpa using heap_alloc_new ((w.alloc o0).alloc o1) o2
  · simpa using heap_alloc_new (((w.alloc o0).alloc o1).alloc o2) o3
  · simpa using heap_alloc_new ((((w.alloc o0).alloc o1).alloc o2).alloc o3) o4

set_option maxRecDepth 100000 in
set_option maxHeartbeats 3200000 in
theorem apart_any (l : List Ds) (AH : List (List Int)) (lv v : Value) (s0 t0 : Int) (w : World) (hl : SlD l lv w) (hA : SlR AH v w) (hf : fitD l) (hn : l.length ≤ 10000) (har : ∀ s ∈ l, s.arcs.length ≤ 100000) (hal : AH.length ≤ 50000) (hcl : ∀ c ∈ AH, c.length = l.length) (hs : okS l.length s0) (ht : okS l.length t0) :
    Calls Try.prog 30 #[lv, v, .int .i64 s0, .int .i64 t0] w fun e w' => e = .returned (.string (strB (apartL l AH.reverse s0 t0))) ∧ Below w.heap.size w w' := by
  obtain ⟨VV, va, vc, rfl, hVl, hVA, hVS⟩ := slr_vals hA
  have HGV : Hid (∀ Bx V, GivesT 4 Try.prog 66 #[.pointer (some ⟨Bx, 0, none⟩)] encBk (fun xs _ => xs = bkT VV VV.length) (fun _ _ _ => True) (fun xs => xs <+: bkT VV VV.length) (fun _ => False) (FxB w (.slice va VV.length vc) Bx) V) := fun Bx V => backR_gives 4 VV va vc Bx w V hVA (by omega)
  have HLE : Hid (∀ W n c, Below w.heap.size w W → 0 ≤ c → c ≤ 255 → Calls Try.prog 41 #[lv, .int .i64 n, .int .u8 c] W fun e w' => e = .returned (.int .i64 (ledD l n c)) ∧ Below W.heap.size W w') := fun W n c hW h0 h1 => led_any l lv n c W (hl.next hW) (fun s hs => ⟨(hf.arcs s hs).1, by have := har s hs; omega⟩) h0 h1
  have HCO : Hid (∀ i u, VV[i]? = some u → ∃ c, AH[i]? = some c ∧ ∀ W a, Below w.heap.size w W → okS l.length a → Calls Try.prog 49 #[u, .int .i64 a] W fun e w' => e = .returned (.int .i64 (clsOf c a)) ∧ w' = W) := fun i u hi => by
    have hil : i < AH.length := by have := (List.getElem?_eq_some_iff.1 hi).1; omega
    refine ⟨AH[i], List.getElem?_eq_getElem hil, fun W a hW ha => classOf_any AH[i] u a W ((hVS i u _ hi (List.getElem?_eq_getElem hil)).next hW) (by rw [hcl _ (List.getElem_mem hil)]; exact ha)⟩
  have HF : Hid (fitD l) := hf
  have HO : Hid (okS l.length s0 ∧ okS l.length t0) := ⟨hs, ht⟩
  have HVl : Hid (VV.length = AH.length) := hVl
  have hVn : VV.length ≤ 50000 := by omega
  have hLn : l.length ≤ 10000 := hn
  obtain ⟨la, lc, rfl, _⟩ := hl
  clear hf har hcl hA hVl hVA hVS hs ht hn hal
  have HC := backR_any (.slice va VV.length vc) ((((w.alloc (Obj.cells #[.slice la l.length lc] 22)).alloc (Obj.cells #[.int .i64 s0] 3)).alloc (Obj.cells #[.int .i64 t0] 3)).alloc (Obj.cells #[.slice none 0 0] 64)) ⟨_, _, _, rfl⟩
  refine (callsIn_wide (n := 5)).1 ?_
  refine callsIn_of_wp_marks Try.func30 rfl trivial ?_ rfl
  simp only [Try.ntmps30, List.size_toArray, List.length_cons, List.length_nil, Nat.reduceAdd, Nat.reduceSub, Array.replicate_succ, Array.replicate_zero, List.push_toArray, List.append_toArray, List.nil_append, List.cons_append]
  gi_wp2_with fail
  refine ⟨trivial, (callsIn_wide.2 HC).mono ?_⟩
  rintro e w3 ⟨rfl, rfl⟩
  clear HC
  gi_wp2_with fail
  have HW3 : Hid (_ ∧ _) := allocs5 w (Obj.cells #[.slice la l.length lc] 22) (Obj.cells #[.int .i64 s0] 3) (Obj.cells #[.int .i64 t0] 3) (Obj.cells #[.slice none 0 0] 64) (Obj.cells #[.slice va VV.length vc] 53)
  generalize (((((w.alloc (Obj.cells #[.slice la l.length lc] 22)).alloc (Obj.cells #[.int .i64 s0] 3)).alloc (Obj.cells #[.int .i64 t0] 3)).alloc (Obj.cells #[.slice none 0 0] 64)).alloc (Obj.cells #[.slice va VV.length vc] 53)) = w3 at *
  refine wpIn_range_V (α := Nat × Value) (by omega) (gf := 66) (lb := #[.pointer (some ⟨w.heap.size + 1 + 1 + 1 + 1, 0, none⟩)]) rfl (enters_of Try.func66 (by kernel_rfl) rfl) (encs := encBk) (S := fun xs _ => xs = bkT VV VV.length) (Ok := fun _ _ _ => True) (Pf := fun xs => xs <+: bkT VV VV.length) (A0 := fun _ => False) (Fx := FxB w (.slice va VV.length vc) (w.heap.size + 1 + 1 + 1 + 1)) (fun _ => rfl) (fun q hq => hq.elim) (fun V _ => HGV.out _ V) (fun _ _ _ _ _ _ _ _ => trivial) (fun ys V V' r h1 _ _ => h1)
    (XA w l AH s0 t0 (.slice la l.length lc) (.slice va VV.length vc) (w.heap.size) (w.heap.size + 1) (w.heap.size + 1 + 1) (w.heap.size + 1 + 1 + 1) (w.heap.size + 1 + 1 + 1 + 1)) (fun _ _ => False) (XA.keep _ _ _ _ _ _ _ _ _ _ _ _) (fun V h1 h2 => ?init)
    (fun x a' => a' = { tmps := #[.slice la l.length lc, .slice va VV.length vc, .int .i64 s0, .int .i64 t0, .pointer (some ⟨w.heap.size, 0, none⟩), undef, .pointer (some ⟨w.heap.size + 1, 0, none⟩), .pointer (some ⟨w.heap.size + 1 + 1, 0, none⟩), .string { data := #[] }, .pointer (some ⟨w.heap.size + 1 + 1 + 1, 0, none⟩), undef, x.2, undef, undef, undef, .slice va VV.length vc, .func (.func 66) #[] #[.pointer (some ⟨w.heap.size + 1 + 1 + 1 + 1, 0, none⟩)], .int .i64 x.1, x.2, undef, undef, undef, undef, undef, undef, undef, undef, undef, undef, undef, undef, undef, undef, undef, undef, undef, undef, undef, undef, undef, undef, undef, undef, undef, undef, undef, undef, undef, undef], defers := [] })
    ?assign ?body ?done (fun V h => h.elim)
  case init =>
    obtain ⟨z1, z2, z3, z4, z5, z6, z7⟩ := HW3.out
    have nA : ∀ j, j < w3.heap.size → ¬ (False ∨ j = w3.heap.size ∨ j = w3.heap.size + 1) := fun j hj h => by
      rcases h with h | h | h
      · exact h
      · omega
      · omega
    refine ⟨below_then z2 h1 z2.size, fun k hk => ?_, ⟨nA _ (blk_lt z3), nA _ (blk_lt z4), nA _ (blk_lt z5), nA _ (blk_lt z6), nA _ (blk_lt z7)⟩, (h1.block _ (blk_lt z3)).trans z3, (h1.block _ (blk_lt z7)).trans z7, s0, t0, [], .slice none 0 0, ⟨by simp, HO.out.1, HO.out.2, fun z hz => (by simp at hz), Nat.le_refl _, Nat.zero_le _⟩, (h1.block _ (blk_lt z4)).trans z4, (h1.block _ (blk_lt z5)).trans z5, (h1.block _ (blk_lt z6)).trans z6, World.ownsRow_nil _ _ _ _, fun k hk => (by cases hk)⟩
    rcases hk with h | h | h
    · exact h.elim
    · omega
    · omega
  case assign =>
    intro l' x V K hK
    simp only [encBk]
    have HK : Hid _ := hK
    clear hK
    gi_wp2_with fail
    exact HK.out _ rfl
  case body =>
    rintro l' A' pre ⟨xi, u⟩ a' V hI rfl _ hPf
    obtain ⟨p1, p2, p3⟩ := bkT_pre hPf
    simp only at p2 p3
    obtain ⟨s, t, P, sv, e0, e1, e2, e3, e4, e5⟩ := hI.ex
    obtain ⟨cl, hcl, HCl⟩ := HCO.out xi u p3
    have HCL : Hid (∀ W a, Below w.heap.size w W → okS l.length a → Calls Try.prog 49 #[u, .int .i64 a] W fun e w' => e = .returned (.int .i64 (clsOf cl a)) ∧ w' = W) := HCl
    have HOS : Hid (okS l.length s ∧ okS l.length t) := ⟨e0.okS, e0.okT⟩
    have HM : Hid (pre.length < AH.length ∧ AH[AH.length - 1 - pre.length]? = some cl) := by
      have h9 := HVl.out
      refine ⟨by omega, ?_⟩
      rw [← hcl]
      congr 1
      omega
    have HB : Hid (∀ W, Below V.heap.size V W → (W.cell? ⟨w.heap.size, 0, none⟩ = some (.slice la l.length lc) ∧ W.cell? ⟨w.heap.size + 1, 0, none⟩ = some (.int .i64 s) ∧ W.cell? ⟨w.heap.size + 1 + 1, 0, none⟩ = some (.int .i64 t)) ∧ Below w.heap.size w W) := fun W hW => by
      refine ⟨⟨?_, ?_, ?_⟩, hI.bel.trans (hW.mono hI.bel.size)⟩
      · rw [Lib.cell_of_heap ((hW.block _ (blk_lt hI.lbox)).trans hI.lbox)]; rfl
      · rw [Lib.cell_of_heap ((hW.block _ (blk_lt e1)).trans e1)]; rfl
      · rw [Lib.cell_of_heap ((hW.block _ (blk_lt e2)).trans e2)]; rfl
    have HI : Hid (XA w l AH s0 t0 (.slice la l.length lc) (.slice va VV.length vc) (w.heap.size) (w.heap.size + 1) (w.heap.size + 1 + 1) (w.heap.size + 1 + 1 + 1) (w.heap.size + 1 + 1 + 1 + 1) (fun k => A' k ∨ k = w3.heap.size ∨ k = w3.heap.size + 1) pre V) := hI
    have HE0 : Hid (ApI l AH s0 t0 pre.length s t P ∧ V.heap[w.heap.size + 1]? = some (Obj.cells #[.int .i64 s] 3) ∧ V.heap[w.heap.size + 1 + 1]? = some (Obj.cells #[.int .i64 t] 3) ∧ V.heap[w.heap.size + 1 + 1 + 1]? = some (Obj.cells #[sv] 64) ∧ V.ownsRow w.heap.size 5 1 sv P.length (P.map encZ8) ∧ ∀ k, sv.ownBlock = some k → ¬ (A' k ∨ k = w3.heap.size ∨ k = w3.heap.size + 1)) := ⟨e0, e1, e2, e3, e4, e5⟩
    clear hI hPf p1 p2 p3 hcl HCl e0 e1 e2 e3 e4 e5
    gi_wp2_with fail
    gi_loopw [19] (fun cv wr => ∃ c : Nat, cv = .int .i64 c ∧ c ≤ 256 ∧ Hid (∀ y : Nat, y < c → clsOf cl (ledD l s y) = clsOf cl (ledD l t y)) ∧ Hid (Below V.heap.size V wr)) (fun i _ => 256 - (intOf i).toNat)
    case atStart => exact ⟨0, rfl, Nat.zero_le _, fun y hy => (by omega), Below.refl _ _⟩
    case round =>
      obtain ⟨c, rfl, hc, HN, HBW⟩ := hrel
      by_cases hlt : c < 256
      case neg =>
        obtain rfl : c = 256 := by omega
        have HE : Hid (XA w l AH s0 t0 (.slice la l.length lc) (.slice va VV.length vc) (w.heap.size) (w.heap.size + 1) (w.heap.size + 1 + 1) (w.heap.size + 1 + 1 + 1) (w.heap.size + 1 + 1 + 1 + 1) (fun k => A' k ∨ k = w3.heap.size ∨ k = w3.heap.size + 1) (pre ++ [(xi, u)]) wr ∧ But (fun k => ¬ (A' k ∨ k = w3.heap.size ∨ k = w3.heap.size + 1)) V wr) := by
          obtain ⟨q1, q2, q3, q4, q5, q6⟩ := HE0.out
          have hI := HI.out
          have hb := HBW.out
          refine ⟨⟨hI.bel.trans (hb.mono hI.bel.size), fun k hk => by have := hI.low k hk; have := hb.size; omega, hI.nA, (hb.block _ (blk_lt hI.lbox)).trans hI.lbox, (hb.block _ (blk_lt hI.vbox)).trans hI.vbox, s, t, P, sv, ?_, (hb.block _ (blk_lt q2)).trans q2, (hb.block _ (blk_lt q3)).trans q3, (hb.block _ (blk_lt q4)).trans q4, own_below q5 hb, q6⟩, But.of_next hb⟩
          rw [List.length_append]
          exact q1.same HM.out.1 HM.out.2 HN.out
        clear HE0 HI HB HN HBW HCL HOS HM
        gi_wp2_with fail
        have HE' := HE.out
        simp only [not_or] at HE'
        exact HE'
      have hwu : IntKind.u8.wrap (c : Int) = c := by rw [IntKind.wrap_u8]; omega
      have dlt : decide ((c : Int) < 256) = true := decide_eq_true (by omega)
      have hb0 := HB.out wr.drew (below_drewN HBW.out 1)
      have HS : wr.drew.cell? ⟨w.heap.size, 0, none⟩ = some (.slice la l.length lc) ∧ wr.drew.cell? ⟨w.heap.size + 1, 0, none⟩ = some (.int .i64 s) ∧ wr.drew.cell? ⟨w.heap.size + 1 + 1, 0, none⟩ = some (.int .i64 t) := hb0.1
      have HSB : Hid (∀ W, Below wr.drew.heap.size wr.drew W → (W.cell? ⟨w.heap.size, 0, none⟩ = some (.slice la l.length lc) ∧ W.cell? ⟨w.heap.size + 1, 0, none⟩ = some (.int .i64 s) ∧ W.cell? ⟨w.heap.size + 1 + 1, 0, none⟩ = some (.int .i64 t)) ∧ Below w.heap.size w W ∧ Below V.heap.size V W) := fun W hW => by
        have b1 : Below V.heap.size V W := (below_drewN HBW.out 1).trans (hW.mono HBW.out.size)
        exact ⟨(HB.out W b1).1, (HB.out W b1).2, b1⟩
      have CL1 := HLE.out wr.drew s c hb0.2 (by omega) (by omega)
      clear hb0
      gi_wp2_with fail
      refine wpIn_region_L (fun W => W.cell? ⟨w.heap.size, 0, none⟩ = some (.slice la l.length lc) ∧ W.cell? ⟨w.heap.size + 1, 0, none⟩ = some (.int .i64 s) ∧ W.cell? ⟨w.heap.size + 1 + 1, 0, none⟩ = some (.int .i64 t)) 12 (by kernel_rfl) 12 rfl (by kernel_rfl) (by rintro ⟨_, _, h⟩; rcases h with ⟨h, _⟩ | ⟨h, _⟩ <;> cases h) ?_
      refine wpAnyL_take' (i := 0) (v := ?_) (oi := { dst := some 22, op := Op.load 22 (Operand.tmp 4), type := 22, pos := "classes.go:108", after := #[], guard := none }) rfl (by kernel_rfl) (by kernel_rfl) (by kernel_rfl) (by kernel_rfl) rfl (fun _ _ _ h => h) (Or.inl ⟨by rfl, ?_⟩) HS ?_
      rotate_left
      · intro W hSW
        go_simp
        try with_reducible rfl
      simp only [Act.put, List.setIfInBounds_toArray, List.set_cons_zero, List.set_cons_succ]
      refine wpAnyL_take' (i := 1) (v := ?_) (oi := { dst := some 23, op := Op.load 3 (Operand.tmp 6), type := 3, pos := "classes.go:108", after := #[], guard := none }) rfl (by kernel_rfl) (by kernel_rfl) (by kernel_rfl) (by kernel_rfl) rfl (fun _ _ _ h => h) (Or.inl ⟨by rfl, ?_⟩) HS ?_
      rotate_left
      · intro W hSW
        go_simp
        try with_reducible rfl
      simp only [Act.put, List.setIfInBounds_toArray, List.set_cons_zero, List.set_cons_succ]
      refine wpAnyL_take' (i := 2) (v := ?_) (oi := { dst := some 24, op := Op.move (Operand.tmp 12), type := 3, pos := "classes.go:108", after := #[], guard := none }) rfl (by kernel_rfl) (by kernel_rfl) (by kernel_rfl) (by kernel_rfl) rfl (fun _ _ _ h => h) (Or.inl ⟨by rfl, ?_⟩) HS ?_
      rotate_left
      · intro W hSW
        go_simp
        try with_reducible rfl
      simp only [Act.put, List.setIfInBounds_toArray, List.set_cons_zero, List.set_cons_succ]
      refine wpAnyL_take' (i := 3) (v := ?_) (oi := { dst := some 25, op := Op.convert 3 5 (Operand.tmp 24), type := 5, pos := "classes.go:108", after := #[{ on := 2, ground := Ground.data }], guard := none }) rfl (by kernel_rfl) (by kernel_rfl) (by kernel_rfl) (by kernel_rfl) rfl (fun _ _ _ h => h) (Or.inl ⟨by rfl, ?_⟩) HS ?_
      rotate_left
      · intro W hSW
        go_simp
        try with_reducible rfl
      simp only [Act.put, List.setIfInBounds_toArray, List.set_cons_zero, List.set_cons_succ]
      refine wpAnyL_take' (i := 5) (v := ?_) (oi := { dst := some 27, op := Op.load 22 (Operand.tmp 4), type := 22, pos := "classes.go:108", after := #[], guard := none }) rfl (by kernel_rfl) (by kernel_rfl) (by kernel_rfl) (by kernel_rfl) rfl (fun _ _ _ h => h) (Or.inl ⟨by rfl, ?_⟩) HS ?_
      rotate_left
      · intro W hSW
        go_simp
        try with_reducible rfl
      simp only [Act.put, List.setIfInBounds_toArray, List.set_cons_zero, List.set_cons_succ]
      refine wpAnyL_take' (i := 6) (v := ?_) (oi := { dst := some 28, op := Op.load 3 (Operand.tmp 7), type := 3, pos := "classes.go:108", after := #[], guard := none }) rfl (by kernel_rfl) (by kernel_rfl) (by kernel_rfl) (by kernel_rfl) rfl (fun _ _ _ h => h) (Or.inl ⟨by rfl, ?_⟩) HS ?_
      rotate_left
      · intro W hSW
        go_simp
        try with_reducible rfl
      simp only [Act.put, List.setIfInBounds_toArray, List.set_cons_zero, List.set_cons_succ]
      refine wpAnyL_take' (i := 7) (v := ?_) (oi := { dst := some 29, op := Op.move (Operand.tmp 12), type := 3, pos := "classes.go:108", after := #[], guard := none }) rfl (by kernel_rfl) (by kernel_rfl) (by kernel_rfl) (by kernel_rfl) rfl (fun _ _ _ h => h) (Or.inl ⟨by rfl, ?_⟩) HS ?_
      rotate_left
      · intro W hSW
        go_simp
        try with_reducible rfl
      simp only [Act.put, List.setIfInBounds_toArray, List.set_cons_zero, List.set_cons_succ]
      refine wpAnyL_take' (i := 8) (v := ?_) (oi := { dst := some 30, op := Op.convert 3 5 (Operand.tmp 29), type := 5, pos := "classes.go:108", after := #[{ on := 7, ground := Ground.data }], guard := none }) rfl (by kernel_rfl) (by kernel_rfl) (by kernel_rfl) (by kernel_rfl) rfl (fun _ _ _ h => h) (Or.inl ⟨by rfl, ?_⟩) HS ?_
      rotate_left
      · intro W hSW
        go_simp
        try with_reducible rfl
      simp only [Act.put, List.setIfInBounds_toArray, List.set_cons_zero, List.set_cons_succ]
      refine wpAnyL_one' (i := 4) (o := { dst := some 26, op := Op.call { callee := Callee.value (Operand.func 41), args := #[Operand.tmp 22, Operand.tmp 23, Operand.tmp 25], argTypes := #[22, 3, 5] }, type := 3, pos := "classes.go:108", after := #[{ on := 0, ground := Ground.data }, { on := 1, ground := Ground.data }, { on := 3, ground := Ground.data }], guard := none }) (by kernel_rfl) rfl rfl (fun K hK => ?_)
      go_simp
      refine (CL1).mono ?_
      rintro e W2 ⟨rfl, hb2⟩
      refine hK.out _ _ (fun _ => (HSB.out _ hb2).1) ?_
      clear hK
      have CL2 := HLE.out W2 t c (HSB.out _ hb2).2.1 (by omega) (by omega)
      refine wpAnyL_one' (i := 9) (o := { dst := some 31, op := Op.call { callee := Callee.value (Operand.func 41), args := #[Operand.tmp 27, Operand.tmp 28, Operand.tmp 30], argTypes := #[22, 3, 5] }, type := 3, pos := "classes.go:108", after := #[{ on := 5, ground := Ground.data }, { on := 6, ground := Ground.data }, { on := 8, ground := Ground.data }, { on := 4, ground := Ground.chain }], guard := none }) (by kernel_rfl) rfl rfl (fun K hK => ?_)
      go_simp
      refine (CL2).mono ?_
      rintro e W3 ⟨rfl, hb3⟩
      refine hK.out _ _ (fun _ => (HSB.out _ (hb2.trans (hb3.mono hb2.size))).1) ?_
      clear hK
      have HS3 := (HSB.out _ (hb2.trans (hb3.mono hb2.size))).1
      refine wpAnyL_take' (i := 10) (v := ?_) (oi := { dst := some 13, op := Op.assign (Operand.tmp 26), type := 3, pos := "classes.go:108", after := #[{ on := 4, ground := Ground.data }, { on := 9, ground := Ground.chain }, { on := 0, ground := Ground.phase }, { on := 1, ground := Ground.phase }, { on := 2, ground := Ground.phase }, { on := 3, ground := Ground.phase }, { on := 4, ground := Ground.phase }, { on := 5, ground := Ground.textOnly Departure.lateStores }, { on := 6, ground := Ground.textOnly Departure.lateStores }, { on := 7, ground := Ground.textOnly Departure.lateStores }, { on := 8, ground := Ground.textOnly Departure.lateStores }, { on := 9, ground := Ground.textOnly Departure.lateStoresUnsure }], guard := none }) rfl (by kernel_rfl) (by kernel_rfl) (by kernel_rfl) (by kernel_rfl) rfl (fun _ _ _ h => h) (Or.inl ⟨by rfl, ?_⟩) HS3 ?_
      rotate_left
      · intro W hSW
        go_simp
        try with_reducible rfl
      simp only [Act.put, List.setIfInBounds_toArray, List.set_cons_zero, List.set_cons_succ]
      refine wpAnyL_take' (i := 11) (v := ?_) (oi := { dst := some 14, op := Op.assign (Operand.tmp 31), type := 3, pos := "classes.go:108", after := #[{ on := 9, ground := Ground.data }, { on := 10, ground := Ground.chain }, { on := 0, ground := Ground.phase }, { on := 1, ground := Ground.phase }, { on := 2, ground := Ground.phase }, { on := 3, ground := Ground.phase }, { on := 4, ground := Ground.phase }, { on := 5, ground := Ground.phase }, { on := 6, ground := Ground.phase }, { on := 7, ground := Ground.phase }, { on := 8, ground := Ground.phase }, { on := 9, ground := Ground.phase }, { on := 10, ground := Ground.phase }], guard := none }) rfl (by kernel_rfl) (by kernel_rfl) (by kernel_rfl) (by kernel_rfl) rfl (fun _ _ _ h => h) (Or.inl ⟨by rfl, ?_⟩) HS3 ?_
      rotate_left
      · intro W hSW
        go_simp
        try with_reducible rfl
      simp only [Act.put, List.setIfInBounds_toArray, List.set_cons_zero, List.set_cons_succ]
      refine wpAnyL_done (by kernel_rfl) ?_ _
      have HB3 : Hid (Below w.heap.size w W3 ∧ Below V.heap.size V W3) := (HSB.out _ (hb2.trans (hb3.mono hb2.size))).2
      have CC1 := HCL.out W3 (ledD l s c) HB3.out.1 (led_ok HF.out HOS.out.1 _)
      have CC2 := HCL.out W3 (ledD l t c) HB3.out.1 (led_ok HF.out HOS.out.2 _)
      clear hb2 hb3 HS HS3 HSB CL1 CL2 HBW
      have HNX : Hid (clsOf cl (ledD l s c) = clsOf cl (ledD l t c) → ∀ y : Nat, y < c + 1 → clsOf cl (ledD l s y) = clsOf cl (ledD l t y)) := fun h y hy => by
        by_cases hyc : y = c
        · rw [hyc]; exact h
        · exact HN.out y (by omega)
      have HFD : Hid (clsOf cl (ledD l s c) ≠ clsOf cl (ledD l t c) → ApI l AH s0 t0 (pre.length + 1) (ledD l s c) (ledD l t c) (P ++ [(c : Int)])) := fun h => HE0.out.1.found HF.out HM.out.1 HM.out.2 hlt HN.out h
      generalize ledD l s c = x at *
      generalize ledD l t c = y at *
      generalize clsOf cl x = cx at *
      generalize clsOf cl y = cy at *
      clear HN
      gi_wp2_with fail
      refine ⟨trivial, (callsIn_wide.2 CC1).mono ?_⟩
      rintro e W4 ⟨rfl, h9⟩
      obtain rfl := h9.symm
      clear CC1
      gi_wp2_with fail
      refine ⟨trivial, (callsIn_wide.2 CC2).mono ?_⟩
      rintro e W4 ⟨rfl, h9⟩
      obtain rfl := h9.symm
      clear CC2
      by_cases hne : cx = cy
      · have HE : Hid (∀ y : Nat, y < c + 1 → clsOf cl (ledD l s y) = clsOf cl (ledD l t y)) := HNX.out hne
        have HBV : Hid (Below V.heap.size V W3) := HB3.out.2
        have dne : (cx != cy) = false := by simpa using hne
        clear HNX HFD hne HB3 HE0 HI HB HCL HOS HM
        gi_wp2_with fail
        go_roundw
        case rel => exact ⟨c + 1, by go_num, by omega, HE, HBV⟩
        case measure => simp [intOf]; omega
      have dne : (cx != cy) = true := by simpa using hne
      obtain ⟨q1, q2, q3, q4, q5, q6⟩ := HE0.out
      have hI := HI.out
      obtain ⟨hb1, hb2⟩ := HB3.out
      obtain ⟨sa, sc, rfl⟩ := slice_of_ownK q5
      obtain ⟨i0, hi0, hz0, hz1, hz2⟩ := info_parts infoU8
      have m1 := (hb2.block _ (blk_lt q2)).trans q2
      have m2 := (hb2.block _ (blk_lt q3)).trans q3
      have m3 := (hb2.block _ (blk_lt q4)).trans q4
      have k3 : W3.cell? ⟨w.heap.size + 1 + 1 + 1, 0, none⟩ = some (.slice sa P.length sc) := by rw [Lib.cell_of_heap m3]; rfl
      have bA : Below W3.heap.size W3 (W3.alloc (Obj.cells #[.int .u8 c] 5)) := below_box _ _ _
      have hON : (W3.alloc (Obj.cells #[.int .u8 c] 5)).ownsRow w.heap.size 5 1 (.slice sa P.length sc) P.length (P.map encZ8) := own_below (own_below q5 hb2) bA
      have hnw := new_cell W3 (.int .u8 c) 5
      have hszn : w.heap.size ≤ (W3.alloc (Obj.cells #[.int .u8 c] 5)).heap.size := Nat.le_trans hb1.size bA.size
      have hPl : P.length ≤ 50000 := by have := q1.len; have := q1.kle; have := HVl.out; omega
      have HZ : Hid (W3.heap[w.heap.size + 1]? = some (Obj.cells #[.int .i64 s] 3) ∧ W3.heap[w.heap.size + 1 + 1]? = some (Obj.cells #[.int .i64 t] 3) ∧ W3.heap[w.heap.size + 1 + 1 + 1]? = some (Obj.cells #[.slice sa P.length sc] 64) ∧ Below W3.heap.size W3 (W3.alloc (Obj.cells #[.int .u8 c] 5)) ∧ (W3.alloc (Obj.cells #[.int .u8 c] 5)).ownsRow w.heap.size 5 1 (.slice sa P.length sc) P.length (P.map encZ8) ∧ W3.ownsRow w.heap.size 5 1 (.slice sa P.length sc) P.length (P.map encZ8) ∧ Below V.heap.size V W3 ∧ Below w.heap.size w W3) := ⟨m1, m2, m3, bA, hON, own_below q5 hb2, hb2, hb1⟩
      have HFX : Hid (ApI l AH s0 t0 (pre.length + 1) x y (P ++ [(c : Int)])) := HFD.out hne
      clear q1 q2 q3 q4 q5 q6 hI hb1 hb2 m1 m2 m3 bA HFD HNX hne
      gi_wp2_with (first
        | (gi_at_builtin; refine wpListIn_append_own_at _ rfl _ _ 64 rfl w.heap.size 5 i0 _ 1 1 Try.underlying64 hi0 hz0 hz1 hz2 rfl (by omega) _ _ _ rfl hON ⟨W3.heap.size, 0, none⟩ 1 1 [.int .u8 c] rfl rfl hnw (by simp [Value.oneCell']) (by unfold maxLen; omega) (by omega) hszn ?_)
        | gi_in)
      intro v' W5 ho5 hg5 _ hat5
      obtain ⟨m1, m2, m3, bA, _, own3, hb2, hb1⟩ := HZ.out
      have b35 : But (fun k => (Value.slice sa P.length sc).ownBlock = some k) W3 W5 := (But.of_next bA).trans (but_grown hg5 (fun r h => h))
      have n1 := but_blk b35 m1 (own_nb own3 m1 (by decide))
      have n2 := but_blk b35 m2 (own_nb own3 m2 (by decide))
      have n3 := but_blk b35 m3 (own_nb own3 m3 (by decide))
      have hv5 : ∀ k, v'.ownBlock = some k → (Value.slice sa P.length sc).ownBlock = some k ∨ W3.heap.size ≤ k := fun k hk => by
        rcases hat5 with h | h
        · exact .inl (by rw [← h]; exact hk)
        · rw [h] at hk; cases hk; exact .inr (by simp)
      have c1 : W5.cell? ⟨w.heap.size + 1, 0, none⟩ = some (.int .i64 s) := by rw [Lib.cell_of_heap n1]; rfl
      have c2 : W5.cell? ⟨w.heap.size + 1 + 1, 0, none⟩ = some (.int .i64 t) := by rw [Lib.cell_of_heap n2]; rfl
      have c3 : W5.cell? ⟨w.heap.size + 1 + 1 + 1, 0, none⟩ = some (.slice sa P.length sc) := by rw [Lib.cell_of_heap n3]; rfl
      have f1 : W5.frozen? ⟨w.heap.size + 1, 0, none⟩ = false := Lib.frozen_of_heap n1 _
      have f2 : W5.frozen? ⟨w.heap.size + 1 + 1, 0, none⟩ = false := Lib.frozen_of_heap n2 _
      have f3 : W5.frozen? ⟨w.heap.size + 1 + 1 + 1, 0, none⟩ = false := Lib.frozen_of_heap n3 _
      have HE : Hid (XA w l AH s0 t0 (.slice la l.length lc) (.slice va VV.length vc) (w.heap.size) (w.heap.size + 1) (w.heap.size + 1 + 1) (w.heap.size + 1 + 1 + 1) (w.heap.size + 1 + 1 + 1 + 1) (fun k => A' k ∨ k = w3.heap.size ∨ k = w3.heap.size + 1) (pre ++ [(xi, u)]) (((W5.setCell ⟨w.heap.size + 1 + 1 + 1, 0, none⟩ v').setCell ⟨w.heap.size + 1, 0, none⟩ (.int .i64 x)).setCell ⟨w.heap.size + 1 + 1, 0, none⟩ (.int .i64 y)) ∧ But (fun k => ¬ (A' k ∨ k = w3.heap.size ∨ k = w3.heap.size + 1)) V (((W5.setCell ⟨w.heap.size + 1 + 1 + 1, 0, none⟩ v').setCell ⟨w.heap.size + 1, 0, none⟩ (.int .i64 x)).setCell ⟨w.heap.size + 1 + 1, 0, none⟩ (.int .i64 y))) := by
        have hI := HI.out
        obtain ⟨q1, q2, q3, q4, q5, q6⟩ := HE0.out
        obtain ⟨a1, a2, a3, a4, a5⟩ := hI.nA
        have s1 : But (fun k => k = w.heap.size + 1 + 1 + 1 ∨ k = w.heap.size + 1 ∨ k = w.heap.size + 1 + 1) W5 (((W5.setCell ⟨w.heap.size + 1 + 1 + 1, 0, none⟩ v').setCell ⟨w.heap.size + 1, 0, none⟩ (.int .i64 x)).setCell ⟨w.heap.size + 1 + 1, 0, none⟩ (.int .i64 y)) := (((But.refl _ _).setCell _ _ (.inr (.inl rfl))).setCell _ _ (.inr (.inr (.inl rfl)))).setCell _ _ (.inr (.inr (.inr rfl)))
        have r1 : (((W5.setCell ⟨w.heap.size + 1 + 1 + 1, 0, none⟩ v').setCell ⟨w.heap.size + 1, 0, none⟩ (.int .i64 x)).setCell ⟨w.heap.size + 1 + 1, 0, none⟩ (.int .i64 y)).heap[w.heap.size + 1]? = some (Obj.cells #[.int .i64 x] 3) := set_blk (by simpa using blk_set (o := 0) (set_blk n1 (by omega)) (.int .i64 x)) (by omega)
        have r2 : (((W5.setCell ⟨w.heap.size + 1 + 1 + 1, 0, none⟩ v').setCell ⟨w.heap.size + 1, 0, none⟩ (.int .i64 x)).setCell ⟨w.heap.size + 1 + 1, 0, none⟩ (.int .i64 y)).heap[w.heap.size + 1 + 1]? = some (Obj.cells #[.int .i64 y] 3) := by simpa using blk_set (o := 0) (set_blk (set_blk n2 (by omega)) (by omega)) (.int .i64 y)
        have r3 : (((W5.setCell ⟨w.heap.size + 1 + 1 + 1, 0, none⟩ v').setCell ⟨w.heap.size + 1, 0, none⟩ (.int .i64 x)).setCell ⟨w.heap.size + 1 + 1, 0, none⟩ (.int .i64 y)).heap[w.heap.size + 1 + 1 + 1]? = some (Obj.cells #[v'] 64) := set_blk (set_blk (by simpa using blk_set (o := 0) n3 v') (by omega)) (by omega)
        generalize (((W5.setCell ⟨w.heap.size + 1 + 1 + 1, 0, none⟩ v').setCell ⟨w.heap.size + 1, 0, none⟩ (.int .i64 x)).setCell ⟨w.heap.size + 1 + 1, 0, none⟩ (.int .i64 y)) = WF at *
        have s2 : But (fun k => (k = w.heap.size + 1 + 1 + 1 ∨ k = w.heap.size + 1 ∨ k = w.heap.size + 1 + 1) ∨ (Value.slice sa P.length sc).ownBlock = some k) V WF := (But.of_next hb2).trans ((b35.mono (fun k _ h => .inr h)).trans (s1.mono (fun k _ h => .inl h)))
        have hVl := hI.bel.size
        have hVz := s2.size
        have hV3 := hb2.size
        refine ⟨⟨hI.bel.trans (s2.below hI.bel.size (fun k hk => ?_)), fun k hk => by have := hI.low k hk; omega, hI.nA, but_blk s2 hI.lbox (fun h => ?_), but_blk s2 hI.vbox (fun h => ?_), x, y, P ++ [(c : Int)], v', by rw [List.length_append]; exact HFX.out, r1, r2, r3, ?_, fun k hk hA => ?_⟩, s2.mono (fun k _ h hA => ?_)⟩
        · rcases hk with (hk | hk | hk) | hk
          · omega
          · omega
          · omega
          · exact (World.ownsRow.lt q5 k hk).1
        · rcases h with (h | h | h) | h
          · omega
          · omega
          · omega
          · exact own_nb q5 hI.lbox (by decide) h
        · rcases h with (h | h | h) | h
          · omega
          · omega
          · omega
          · exact own_nb q5 hI.vbox (by decide) h
        · have h9 := ownsRow_keep ho5 s1 (fun k hk h => by
            rcases h with rfl | rfl | rfl
            · exact own_nb ho5 n3 (by decide) hk
            · exact own_nb ho5 n1 (by decide) hk
            · exact own_nb ho5 n2 (by decide) hk)
          simpa [encZ8] using h9
        · rcases hv5 k hk with h | h
          · exact q6 k h hA
          · have := hI.low k hA
            omega
        · rcases h with (h | h | h) | h
          · exact a4 (h ▸ hA)
          · exact a2 (h ▸ hA)
          · exact a3 (h ▸ hA)
          · exact q6 k h hA
      obtain ⟨va', vc', rfl⟩ := slice_of_ownK ho5
      clear m1 m2 m3 bA own3 hb2 hb1 b35 n1 n2 n3 hv5 ho5 hg5 hat5 HI HE0 HB HZ HFX hON hnw hszn HCL HOS HM k3
      gi_wp2_with fail
      have HE' := HE.out
      simp only [not_or] at HE'
      exact HE'
  case done =>
    intro xs V hS hI hd
    subst hS
    obtain ⟨s, t, P, sv, e0, e1, e2, e3, e4, e5⟩ := hI.ex
    have HP : Hid (apartL l AH.reverse s0 t0 = P) := by
      show _ = _
      rw [e0.eq, bkT_len, List.drop_of_length_le (by rw [List.length_reverse]; exact Nat.le_of_eq HVl.out.symm)]
      simp [apartL]
    have hcv := conv_u8 e4 e0.byte
    have HE : Hid (Below w.heap.size w V ∧ w.heap.size ≤ w3.heap.size) := ⟨hI.bel, HW3.out.2.1.size⟩
    obtain ⟨sa, sc, rfl⟩ := slice_of_ownK e4
    have cs : V.cell? ⟨w.heap.size + 1 + 1 + 1, 0, none⟩ = some (.slice sa P.length sc) := by rw [Lib.cell_of_heap e3]; rfl
    clear hI e0 e1 e2 e3 e4 e5 HF HO HW3 HCO HLE HGV
    gi_wp2
    exact leaves_marksC (Rw := fun W => Below w.heap.size w W) (v := .string (strB P)) (fun W _ => (results_tmp (t := 8) rfl _ _ _).trans (by rfl)) (fun q => w.heap.size ≤ q) (fun W q h1 h2 h3 => h3.trans ((But.putObj W q (.deferred none)).below h3.size (fun k hk => by omega))) (fun W h => ⟨by rw [HP.out], h⟩) [w3.heap.size] V ⟨by simp, fun q hq => by simp at hq; subst hq; exact hd⟩ (fun q hq => by simp at hq; subst hq; exact HE.out.2) HE.out.1
end Go.Proofs.Ytdalomibilicfaa
