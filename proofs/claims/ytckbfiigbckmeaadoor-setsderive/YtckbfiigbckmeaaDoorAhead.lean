/- Ahead of the program. -/
import Derived.Test.YtckbfiigbckmeaaDoorLib11
import Derived.Test.YtckbfiigbckmeaaDoorFollow2
namespace Go.Proofs.YtckbfiigbckmeaaDoor
open Go.RowKit

theorem beg_on {emp emp' : Nat → Prop} {fst fst' : Nat → Int → Prop} {sy : List Nat} {t : Int} (he : ∀ x ∈ sy, emp x → emp' x) (hf : ∀ x ∈ sy, ∀ t, fst x t → fst' x t) (h : Beg emp fst (fun _ => False) sy t) : Beg emp' fst' (fun _ => False) sy t := by
  obtain ⟨pre, x, post, rfl, h1, h2⟩ := beg_split h
  exact beg_join (fun y hy => he y (by simp [hy]) (h1 y hy)) (hf x (by simp) t h2)
theorem symsN_lt {N : Nat} {l : List It} : ∀ x ∈ symsN N l, x < N := by
  intro x hx
  unfold symsN at hx
  obtain ⟨y, hy, rfl⟩ := List.mem_map.1 hx
  have := (List.mem_filter.1 hy).2
  simp at this
  omega
/-- What Ahead of the program tells. -/
def aheadW (R : List (List Nat)) (L : List Bool) (m : Nat) (sy : List Nat) (bh : List Int) : List Int :=
  if (begW (WR R) (onb L) (List.replicate m 0) sy).2.2 then Lib.compact (sortL (listW (begW (WR R) (onb L) (List.replicate m 0) sy).1 ++ bh)) else listW (begW (WR R) (onb L) (List.replicate m 0) sy).1
theorem aheadW_ok {f : Fl} {m : Nat} {R : List (List Nat)} {L : List Bool} {l : List It} {bh : List Int} (hL : GivesB (fun s => false = true ∧ s < f.terms.length) f.gr f.n L) (hR : StW f m R) (hc : ∀ q ∈ f.gr, ClosF f R q) :
    Rising (aheadW R L m (symsN f.n l) bh) ∧ ∀ t, t ∈ aheadW R L m (symsN f.n l) bh ↔ AheadP f l bh t := by
  have hF : ∀ x ∈ symsN f.n l, Words m (WR R x) := fun x hx => hR.ok.words x (symsN_lt x hx)
  have hm := begW_mem (E := onb L) (words_zero m) hF
  have ht := begW_through (F := WR R) (E := onb L) (sy := symsN f.n l) (A := List.replicate m 0)
  have hr := rising_listW (begW (WR R) (onb L) (List.replicate m 0) (symsN f.n l)).1
  have he := emp_of hL
  have hf := fst_of hR hc
  have hb : ∀ t, t ∈ listW (begW (WR R) (onb L) (List.replicate m 0) (symsN f.n l)).1 ↔ Beg (EmpP f) (FstP f) (fun _ => False) (symsN f.n l) t := fun t => by
    rw [hm, listW_zero]
    constructor
    · rintro (h | h)
      · cases h
      · exact beg_on (fun x hx h => (he x (symsN_lt x hx)).1 h) (fun x hx t h => (hf x (symsN_lt x hx) t).1 h) h
    · intro h
      exact .inr (beg_on (fun x hx h => (he x (symsN_lt x hx)).2 h) (fun x hx t h => (hf x (symsN_lt x hx) t).2 h) h)
  unfold aheadW AheadP
  cases hq : (begW (WR R) (onb L) (List.replicate m 0) (symsN f.n l)).2.2 with
  | true =>
    rw [hq] at ht
    have hall : ∀ y, y ∈ symsN f.n l → EmpP f y := fun y hy => (he y (symsN_lt y hy)).1 (List.all_eq_true.1 ht.symm y hy)
    have hcs := compact_sorted _ (sortL_sorted (listW (begW (WR R) (onb L) (List.replicate m 0) (symsN f.n l)).1 ++ bh))
    rw [if_pos rfl]
    refine ⟨hcs.1, fun t => ?_⟩
    rw [hcs.2, sortL_mem, List.mem_append, hb, beg_iff (b := fun t => t ∈ bh)]
    exact ⟨fun h => h.elim .inl (fun h => .inr ⟨hall, h⟩), fun h => h.elim .inl (fun h => .inr h.2)⟩
  | false =>
    rw [hq] at ht
    rw [if_neg (by simp)]
    refine ⟨hr, fun t => ?_⟩
    rw [hb, beg_iff (b := fun t => t ∈ bh)]
    refine ⟨.inl, fun h => h.elim id (fun h => ?_)⟩
    have : (symsN f.n l).all (onb L) = true := List.all_eq_true.2 fun y hy => (he y (symsN_lt y hy)).2 (h.1 y hy)
    rw [← ht] at this
    cases this

set_option maxRecDepth 100000 in
set_option maxHeartbeats 1000000 in
theorem ahead_any (f : Fl) (a : FlA) (l : List It) (bh : List Int) (vl vb : Value) (w : World) (hf : FlAt f a w) (hp : FitP f) (hT : Tb w) (hl : SlT l vl w) (hb : SlI bh vb w) (hll : l.length ≤ 1000) (hbl : bh.length ≤ 1000) :
    Calls Tryd.prog 20 #[a.val f, vl, vb] w fun e w' => GaveL (AheadP f l bh) w e w' := by
  have HSO : Hid (∀ W, Below w.heap.size w W → Calls Tryd.prog 26 #[a.val f] W fun e w' => e = .returned (.bool true) ∧ Below W.heap.size W w') := fun W hb => sound_any f a W (hf.next hb) hp
  have HNS : Hid (∀ W, Calls Tryd.prog 34 #[a.val f] W fun e w' => ∃ b, e = .returned (.slice (some ⟨b, 0, none⟩) (f.terms.length / 64 + 1) (f.terms.length / 64 + 1)) ∧ W.heap.size ≤ b ∧ SetB b (f.terms.length / 64 + 1) (List.replicate (f.terms.length / 64 + 1) 0) w' ∧ Below W.heap.size W w') := fun W => newSet_any f a W hp.size
  have HVO : Hid (∀ W, Below w.heap.size w W → Calls Tryd.prog 30 #[a.val f] W fun e w' => ∃ V E G bs L R, e = .returned (.pointer (some ⟨V, 0, none⟩)) ∧ VOk f a (f.terms.length / 64 + 1) W V E G bs L R w' ∧ GivesB (fun s => false = true ∧ s < f.terms.length) f.gr f.n L ∧ StW f (f.terms.length / 64 + 1) R ∧ ∀ q ∈ f.gr, ClosF f R q) := fun W hb => viewOf_any f a W (hf.next hb) hp
  have X0 := FBox.new f a 25 w
  have B0 : Below w.heap.size w (w.alloc (fobj f a 25)) := (Below.refl _ _).alloc (Nat.le_refl _) _
  have hm20 : f.terms.length / 64 + 1 ≤ 20 := by have := hp.size; omega
  have hn : f.n ≤ 600 := hp.size
  obtain ⟨la, lc, rfl, _⟩ := id hl
  obtain ⟨ba, bc, rfl, _⟩ := id hb
  have HL : Hid (SlT l (.slice la l.length lc) w ∧ SlI bh (.slice ba bh.length bc) w) := ⟨hl, hb⟩
  have HT : Hid (Tb w) := hT
  clear hl hb hT
  obtain ⟨ta, tc, na, nc, pa, pc⟩ := a
  unfold fobj at X0 B0
  unfold FlA.val at HSO HVO HNS ⊢
  simp only at *
  clear hf hp
  go_enter Tryd.func20, Tryd.ntmps20
  go_wp2_with fail
  generalize (w.alloc (Obj.cells #[Value.slice ta f.terms.length tc, Value.slice na f.nons.length nc, Value.slice pa f.prods.length pc] 25)) = W1 at *
  refine (HSO.out _ B0).mono ?_
  rintro e w1 ⟨rfl, hb1⟩
  have X1 := X0.next hb1
  have B1 := below_then B0 hb1 B0.size
  obtain ⟨x0, x1, x2, x3⟩ := id X1
  simp only at x1 x2 x3
  clear X0 B0 hb1 HSO
  go_wp2_with fail
  refine (HNS.out _).mono ?_
  rintro e w2 ⟨c, rfl, n1, n2, n3⟩
  have X2 := X1.next n3
  have B2 := below_then B1 n3 B1.size
  have hz1 := B1.size
  have hcl := n2.lt
  clear x0 x1 x2 x3 X1 HNS
  obtain ⟨x0, x1, x2, x3⟩ := id X2
  simp only at x1 x2 x3
  go_wp2_with fail
  refine (HVO.out _ B2).mono ?_
  rintro e w3 ⟨V, E, G, bs, L, R, rfl, hV, hL, hR, hc⟩
  have B3 := below_then B2 hV.below B2.size
  have hOK := aheadW_ok (l := l) (bh := bh) hL hR hc
  have hA3 : SetB c (f.terms.length / 64 + 1) (List.replicate (f.terms.length / 64 + 1) 0) w3 := n2.but (D := fun _ => False) (But.of_next hV.below) (fun h => h)
  have HBE := begin_any f ⟨ta, tc, na, nc, pa, pc⟩ V E G _ c bs R L _ l (.slice la l.length lc) w3 hn hm20 hV.v hV.e hV.s hR.ok hA3 (HL.out.1.next B3) hll
    (by have := hV.vl; omega) (by have := hV.el; omega) (by have := hV.gl; omega)
    (fun b ao e hne h => by
      cases e
      obtain ⟨_, _, e, hI, _⟩ := HL.out.1
      cases e
      obtain ⟨b', off', e2, hb', _⟩ := hI.at (Below.refl _ _) (j := 0) (List.length_pos_iff.2 hne)
      cases e2
      simp only at h
      omega)
    (fun s hs e => by
      have := hV.bl _ (hV.s.mem (s := s) (by rw [hR.ok.len]; exact hs))
      omega)
  have HOK : Hid (Rising (aheadW R L (f.terms.length / 64 + 1) (symsN f.n l) bh) ∧ ∀ t, t ∈ aheadW R L (f.terms.length / 64 + 1) (symsN f.n l) bh ↔ AheadP f l bh t) := hOK
  have HLB : Hid (∀ ws, Words (f.terms.length / 64 + 1) ws → (∀ y ∈ listW ws, i64B y) ∧ (listW ws).length ≤ 1280) := fun ws hw => ⟨fun y hy => by
    obtain ⟨k, hk, rfl⟩ := mem_listW.1 hy
    have h1 := bin_lt hk
    have h2 := hw.1
    unfold i64B
    omega, by have := listW_length hw; omega⟩
  clear hV hL hR hc hOK hA3 HVO x0 x1 x2 x3 X2
  unfold aheadW at HOK
  generalize begW (WR R) (onb L) (List.replicate (f.terms.length / 64 + 1) 0) (symsN f.n l) = RES at *
  generalize f.terms.length / 64 + 1 = M at *
  obtain ⟨A, g, th⟩ := RES
  simp only at HOK HBE
  have HBE' : Hid (Calls Tryd.prog 35 #[.pointer (some ⟨V, 0, none⟩), .slice (some ⟨c, 0, none⟩) M M, .slice la l.length lc] w3 fun e w' => e = .returned (.tuple #[.bool g, .bool th]) ∧ SetB c M A w' ∧ But (fun k => k = c) w3 w') := HBE
  clear HBE
  cases th with
  | false =>
    rw [if_neg (by simp)] at HOK
    go_wp2_with fail
    refine HBE'.out.mono ?_
    rintro e w4 ⟨rfl, a1, a2⟩
    have B4 := below_but B3 a2 (fun k hk => by omega)
    have HLI := list_any A c M w4 a1 hm20 (HT.out.next B4)
    have hLB := HLB.out _ a1.2
    clear HBE' a1 a2
    go_wp2_with fail
    refine HLI.mono ?_
    rintro e w5 ⟨v, rfl, o1, o2⟩
    have HF : Hid (SlI (listW A) v w5 ∧ Below w.heap.size w w5) := ⟨sli_own o1 hLB.1, below_then B4 o2 B4.size⟩
    obtain ⟨va, vc, rfl⟩ := slice_of_own o1
    clear o1 o2 HLI
    go_wp2_with fail
    go_ret
    exact ⟨_, _, rfl, HOK.out.1, HOK.out.2, HF.out.1, HF.out.2⟩
  | true =>
    rw [if_pos rfl] at HOK
    go_wp2_with fail
    refine HBE'.out.mono ?_
    rintro e w4 ⟨rfl, a1, a2⟩
    have B4 := below_but B3 a2 (fun k hk => by omega)
    have HLI := list_any A c M w4 a1 hm20 (HT.out.next B4)
    have hLB := HLB.out _ a1.2
    clear HBE' a1 a2
    go_wp2_with fail
    refine HLI.mono ?_
    rintro e w5 ⟨v, rfl, o1, o2⟩
    have B5 := below_then B4 o2 B4.size
    have hz4 := B4.size
    have hz5 := o2.size
    have HSB := HL.out.2.next B5
    have HIB : Hid (∀ y ∈ bh, i64B y) := HL.out.2.choose_spec.choose_spec.2.2.2.2
    have HLA : Hid (∀ y ∈ listW A, i64B y) := hLB.1
    have hLe := hLB.2
    obtain ⟨va, vc, rfl⟩ := slice_of_own o1
    obtain ⟨i0, hi0, hi1, hi2, hi3⟩ := info_parts info3
    obtain ⟨TV, hTV⟩ : ∃ TV, (listW A).map encI = TV := ⟨_, rfl⟩
    have HTV : Hid ((listW A).map encI = TV) := hTV
    unfold Own1 at o1
    rw [hTV] at o1
    clear HLI hTV hLB
    generalize listW A = LA at *
    -- what comes behind
    have HEND : Hid (∀ w6 u, Own1 3 encI w4.heap.size (LA ++ bh) u w6 → Below w.heap.size w w6 → w4.heap.size ≤ w6.heap.size → Calls Tryd.prog 37 #[u] w6 fun e w7 => (∃ x, e = .returned x) ∧ Calls Tryd.prog 38 #[u] w7 fun e w8 => ∃ u2, e = .returned u2 ∧ SlI (Lib.compact (sortL (LA ++ bh))) u2 w8 ∧ Below w.heap.size w w8) := fun w6 u h1 h2 h3 => by
      refine (sort_own _ u _ w6 h1 (by simp; omega) h3).mono ?_
      rintro e w7 ⟨he, k1, k2⟩
      refine ⟨he, ?_⟩
      refine (compact_own _ u _ w7 k1 (by rw [sortL_len]; simp; omega) (Nat.le_trans h3 k2.size)).mono ?_
      rintro e w8 ⟨u2, rfl, k3, k4⟩
      refine ⟨u2, rfl, sli_own k3 (fun y hy => ?_), (h2.trans (k2.mono hz4)).trans (k4.mono hz4)⟩
      rw [(compact_sorted _ (sortL_sorted _)).2, sortL_mem, List.mem_append] at hy
      rcases hy with hy | hy
      · exact HLA.out y hy
      · exact HIB.out y hy
    generalize Lib.compact (sortL (LA ++ bh)) = RL at *
    obtain ⟨_, _, e, hrow, hno, hcap, _⟩ := HSB
    cases e
    cases ba with
    | none =>
      obtain rfl : bc = 0 := hno rfl
      obtain rfl : bh = [] := List.length_eq_zero_iff.1 (by omega)
      have HO6 := HEND.out w5 (.slice va LA.length vc) (by unfold Own1; rw [List.append_nil, HTV.out]; exact o1) B5 hz5
      clear HEND hrow hno hcap
      simp only [List.length_nil]
      go_wp2_with (at_builtin; refine wpList_append_own_none rfl (.tmp 29) (.tmp 30) 27 rfl w4.heap.size 3 i0 1 Tryd.underlying27 hi0 _ LA.length TV rfl o1 rfl ?_)
      refine HO6.mono ?_
      rintro e w7 ⟨⟨x, rfl⟩, hC⟩
      clear HO6
      go_wp2_with fail
      refine hC.mono ?_
      rintro e w8 ⟨u2, rfl, z1, z2⟩
      have HZ : Hid (SlI RL u2 w8 ∧ Below w.heap.size w w8) := ⟨z1, z2⟩
      obtain ⟨ua, uc, rfl, _⟩ := z1
      clear hC z2
      go_wp2_with fail
      go_ret
      exact ⟨_, _, rfl, HOK.out.1, HOK.out.2, HZ.out.1, HZ.out.2⟩
    | some ad =>
      have m1 : (bh.map encI).length = bh.length * 1 := by simp
      have n1' : ∀ j u, (bh.map encI)[j]? = some u → w5.cell? (ad.add j) = some u := by
        intro k u hk
        rw [List.getElem?_map] at hk
        obtain ⟨y, hy, rfl⟩ := Option.map_eq_some_iff.1 hk
        obtain ⟨b, off, e, _, h2⟩ := hrow k y hy
        cases e
        rw [add_plain]; exact h2
      have q1 : ∀ u ∈ bh.map encI, u.oneCell' = true := one_row bh
      obtain ⟨BV, hBV⟩ : ∃ BV, bh.map encI = BV := ⟨_, rfl⟩
      have HBV : Hid (bh.map encI = BV) := hBV
      rw [hBV] at m1 n1' q1
      clear hBV hrow hno hcap
      obtain ⟨NB, hNB⟩ : ∃ NB, bh.length = NB := ⟨_, rfl⟩
      have HNB : Hid (bh.length = NB) := hNB
      rw [hNB] at m1 hbl ⊢
      clear hNB
      go_wp2_with (at_builtin; refine wpList_append_own _ rfl (.tmp 29) (.tmp 30) 27 rfl w4.heap.size 3 i0 _ 1 8 Tryd.underlying27 hi0 hi1 hi2 hi3 rfl (by decide) _ LA.length TV rfl o1 ad NB bc BV rfl m1 n1' q1 (by unfold maxLen; omega) (by omega) hz5 ?_)
      intro u w6 hown hg6 _
      obtain ⟨ua, uc, rfl⟩ := slice_of_own hown
      have B6 : Below w.heap.size w w6 := B5.grown hg6 (Nat.le_trans hz4 hz5) (fun k e => Nat.le_trans hz4 (World.ownsRow.lt o1 k e).1)
      have HO6 := HEND.out w6 (.slice ua (LA.length + NB) uc) (by
        unfold Own1
        rw [List.length_append, List.map_append, HTV.out, HBV.out, HNB.out]
        exact hown) B6 (Nat.le_trans hz5 hg6.size)
      clear HEND hown hg6 o1 n1' q1 m1
      go_wp2_with fail
      refine HO6.mono ?_
      rintro e w7 ⟨⟨x, rfl⟩, hC⟩
      clear HO6
      go_wp2_with fail
      refine hC.mono ?_
      rintro e w8 ⟨u2, rfl, z1, z2⟩
      have HZ : Hid (SlI RL u2 w8 ∧ Below w.heap.size w w8) := ⟨z1, z2⟩
      obtain ⟨ua2, uc2, rfl, _⟩ := z1
      clear hC z2
      go_wp2_with fail
      go_ret
      exact ⟨_, _, rfl, HOK.out.1, HOK.out.2, HZ.out.1, HZ.out.2⟩
end Go.Proofs.YtckbfiigbckmeaaDoor
