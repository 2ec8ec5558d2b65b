/- Texts joined: PClone, PBeside. -/
import Derived.Test.YtdalomibilicfaaPLeast
import Derived.Test.YtdalomibilicfaaDifMath
/- slices.Clone of arcs and of states. -/
namespace Go.Proofs.Ytdalomibilicfaa
open Go.RowKit Go.Shelf

theorem encA3_one (l : List Ar) : ∀ u ∈ l.flatMap encA3, u.oneCell' = true := by
  intro u hu
  obtain ⟨x, _, hx⟩ := List.mem_flatMap.1 hu
  simp [encA3] at hx
  rcases hx with rfl | rfl | rfl <;> rfl
theorem encA3_len (l : List Ar) : (l.flatMap encA3).length = l.length * 3 := by
  induction l with
  | nil => rfl
  | cons x l ih => simp [encA3, ih]; omega
theorem encD2_len (Z : List (Ds × Value)) : (Z.flatMap encD2).length = Z.length * 2 := by
  induction Z with
  | nil => rfl
  | cons x l ih => simp [encD2, ih]; omega
theorem sla_news {l : List Ar} {b off : Nat} {W : World} (h : ArsAt l (some ⟨b, off, none⟩) W) : ∀ (j : Nat) (u : Value), (l.flatMap encA3)[j]? = some u → W.cell? ((⟨b, off, none⟩ : Addr).add j) = some u := by
  intro j u hj
  have hjl := (List.getElem?_eq_some_iff.1 hj).1
  rw [encA3_len] at hjl
  have hx : l[j / 3]? = some (l[j / 3]'(by omega)) := List.getElem?_eq_getElem (by omega)
  obtain ⟨b', o', e, _, c0, c1, c2, _⟩ := h (j / 3) _ hx
  cases e
  have hg := flatK_get (enc := encA3) (c := 3) (fun _ => rfl) hx (Nat.mod_lt j (by omega))
  rw [show j / 3 * 3 + j % 3 = j by omega, hj] at hg
  rw [add_plain]
  have h3 := Nat.mod_lt j (show 0 < 3 by omega)
  rcases Nat.lt_or_ge (j % 3) 1 with h1 | h1
  · have e0 : j % 3 = 0 := by omega
    rw [e0] at hg
    simp [encA3] at hg
    rw [hg, show off + j = off + j / 3 * 3 by omega]
    exact c0
  · rcases Nat.lt_or_ge (j % 3) 2 with h2 | h2
    · have e0 : j % 3 = 1 := by omega
      rw [e0] at hg
      simp [encA3] at hg
      rw [hg, show off + j = off + j / 3 * 3 + 1 by omega]
      exact c1
    · have e0 : j % 3 = 2 := by omega
      rw [e0] at hg
      simp [encA3] at hg
      rw [hg, show off + j = off + j / 3 * 3 + 2 by omega]
      exact c2

set_option maxRecDepth 100000 in
set_option maxHeartbeats 1600000 in
theorem cloneA_any (xs : List Ar) (v : Value) (w : World) (hs : SlA xs v w) (hl : xs.length ≤ 100000) : Calls Try.prog 43 #[v] w fun e w' => ∃ v', e = .returned v' ∧ OwnA w.heap.size xs v' w' ∧ Below w.heap.size w w' := by
  obtain ⟨ao, c, rfl, hr, hno, _⟩ := hs
  cases ao with
  | none =>
    obtain rfl : c = 0 := hno rfl
    have hx : xs = [] := by
      cases xs with
      | nil => rfl
      | cons x r => obtain ⟨b, off, e, _⟩ := hr 0 x rfl; cases e
    subst hx
    have q : ∀ (w : World) (n c n' c' : Nat), (binOp .eql 35 (.slice none n c) (.slice none n' c')).run Try.prog w = .ok (.bool true) w := fun w n c n' c' => Lib.run_eql_slice_nil w _ _ none n c n' c' Try.underlying35
    clear hr hno
    go_enter Try.func43, Try.ntmps43
    go_wp2_with fail
    go_ret
    exact ⟨_, rfl, World.ownsRow_nil _ _ _ _, Below.refl _ _⟩
  | some ad =>
    obtain ⟨ia, hia, hza0, hza1, hza2⟩ := info_parts infoAr
    have q : ∀ (w : World) (n c n' c' : Nat), (binOp .eql 35 (.slice (some ad) n c) (.slice none n' c')).run Try.prog w = .ok (.bool false) w := fun w n c n' c' => Lib.run_eql_slice_nil w _ _ _ n c n' c' Try.underlying35
    have hnw : ∀ (j : Nat) (u : Value), (xs.flatMap encA3)[j]? = some u → (w.alloc (Obj.cells #[] 39)).cell? (ad.add j) = some u := by
      intro j u hj
      have hjl := (List.getElem?_eq_some_iff.1 hj).1
      rw [encA3_len] at hjl
      obtain ⟨b, off, e, hb, _⟩ := hr 0 (xs[0]'(by omega)) (List.getElem?_eq_getElem (by omega))
      cases e
      have h9 := sla_news hr j u hj
      rw [add_plain] at h9 ⊢
      exact (((Below.refl _ w).alloc (Nat.le_refl _) _).cell (p := ⟨b, off + j, none⟩) hb).trans h9
    clear hr hno
    go_enter Try.func43, Try.ntmps43
    go_wp2_with (at_builtin; refine wpList_append_own_at _ rfl (.tmp 5) (.tmp 6) 35 rfl w.heap.size 39 ia _ 3 24 Try.underlying35 hia hza0 hza1 hza2 rfl (by omega) _ _ [] rfl (World.ownsRow_made w #[] 0 (Nat.le_refl _) (Nat.zero_le _) (by simp)) ad xs.length c (xs.flatMap encA3) rfl (encA3_len xs) hnw (encA3_one xs) (by unfold maxLen; omega) (by omega) (by simp) ?_)
    intro v' w1 hown hgrow _ hat
    have HE : Hid (OwnA w.heap.size xs v' w1 ∧ Below w.heap.size w w1) := ⟨by unfold OwnA; simpa using hown, ((Below.refl _ w).alloc (Nat.le_refl _) _).grown hgrow (by simp) (by intro k hk; simp [Value.ownBlock] at hk; omega)⟩
    clear hown hgrow hat
    go_wp2
    go_ret
    exact ⟨v', rfl, HE.out⟩

/-- A slice of states, as cells. -/
theorem sld_cells {l : List Ds} {b off n c : Nat} {W : World} (h : SlD l (.slice (some ⟨b, off, none⟩) n c) W) :
    ∃ Z : List (Ds × Value), Z.map Prod.fst = l ∧ (∀ (j : Nat) (u : Value), (Z.flatMap encD2)[j]? = some u → W.cell? ((⟨b, off, none⟩ : Addr).add j) = some u) ∧ ∀ p ∈ Z, SlA p.1.arcs p.2 W ∧ i64B p.1.acc := by
  obtain ⟨ao, cap, h0, h1, _⟩ := h
  cases h0
  have key : ∀ i : Nat, ∃ v : Value, ∀ x, l[i]? = some x → W.cell? ⟨b, off + i * 2, none⟩ = some v ∧ W.cell? ⟨b, off + i * 2 + 1, none⟩ = some (.int .i64 x.acc) ∧ SlA x.arcs v W ∧ i64B x.acc := by
    intro i
    cases hx : l[i]? with
    | none => exact ⟨undef, fun x hx' => (by cases hx')⟩
    | some x =>
      obtain ⟨b', off', v, e, _, c0, c1, c2, c3⟩ := h1 i x hx
      cases e
      exact ⟨v, fun y hy => by cases hy; exact ⟨c0, c1, c2, c3⟩⟩
  obtain ⟨f, hf⟩ := Classical.axiomOfChoice key
  have hg : ∀ (i : Nat) p, ((l.zipIdx).map fun q => (q.1, f q.2))[i]? = some p → l[i]? = some p.1 ∧ p.2 = f i := by
    intro i p hp
    rw [List.getElem?_map, List.getElem?_zipIdx] at hp
    cases hx : l[i]? with
    | none => rw [hx] at hp; simp at hp
    | some x =>
      rw [hx] at hp
      simp at hp
      subst hp
      exact ⟨rfl, rfl⟩
  refine ⟨(l.zipIdx).map fun q => (q.1, f q.2), ?_, fun j u hj => ?_, fun p hp => ?_⟩
  · apply List.ext_getElem?
    intro i
    rw [List.getElem?_map, List.getElem?_map, List.getElem?_zipIdx]
    cases l[i]? <;> simp
  · generalize hZ : ((l.zipIdx).map fun q => (q.1, f q.2)) = Z at *
    have hjl := (List.getElem?_eq_some_iff.1 hj).1
    rw [encD2_len] at hjl
    have hx : Z[j / 2]? = some (Z[j / 2]'(by omega)) := List.getElem?_eq_getElem (by omega)
    obtain ⟨k1, k2⟩ := hg _ _ hx
    obtain ⟨c0, c1, _⟩ := hf (j / 2) _ k1
    have hgk := flatK_get (enc := encD2) (c := 2) (fun _ => rfl) hx (Nat.mod_lt j (by omega))
    rw [show j / 2 * 2 + j % 2 = j by omega, hj] at hgk
    rw [add_plain]
    rcases Nat.lt_or_ge (j % 2) 1 with h2 | h2
    · have e0 : j % 2 = 0 := by omega
      rw [e0] at hgk
      simp [encD2] at hgk
      rw [hgk, k2, show off + j = off + j / 2 * 2 by omega]
      exact c0
    · have e0 : j % 2 = 1 := by have := Nat.mod_lt j (show 0 < 2 by omega); omega
      rw [e0] at hgk
      simp [encD2] at hgk
      rw [hgk, show off + j = off + j / 2 * 2 + 1 by omega]
      exact c1
  · obtain ⟨i, hi⟩ := List.getElem?_of_mem hp
    obtain ⟨k1, k2⟩ := hg i p hi
    rw [k2]
    exact (hf i _ k1).2.2

set_option maxRecDepth 100000 in
set_option maxHeartbeats 1600000 in
theorem cloneD_any (xs : List Ds) (v : Value) (w : World) (hs : SlD xs v w) (hl : xs.length ≤ 100000) : Calls Try.prog 42 #[v] w fun e w' => ∃ (v' : Value) (Z : List (Ds × Value)), e = .returned v' ∧ Z.map Prod.fst = xs ∧ w'.ownsRow w.heap.size 37 2 v' Z.length (Z.flatMap encD2) ∧ (∀ p ∈ Z, SlA p.1.arcs p.2 w ∧ i64B p.1.acc) ∧ Below w.heap.size w w' := by
  have HS := hs
  obtain ⟨ao, c, rfl, hr, hno, _⟩ := hs
  cases ao with
  | none =>
    obtain rfl : c = 0 := hno rfl
    have hx : xs = [] := by
      cases xs with
      | nil => rfl
      | cons x r => obtain ⟨b, off, _, e, _⟩ := hr 0 x rfl; cases e
    subst hx
    have q : ∀ (w : World) (n c n' c' : Nat), (binOp .eql 22 (.slice none n c) (.slice none n' c')).run Try.prog w = .ok (.bool true) w := fun w n c n' c' => Lib.run_eql_slice_nil w _ _ none n c n' c' Try.underlying22
    clear hr hno HS
    go_enter Try.func42, Try.ntmps42
    go_wp2_with fail
    go_ret
    exact ⟨_, [], rfl, rfl, World.ownsRow_nil _ _ _ _, fun p hp => (by cases hp), Below.refl _ _⟩
  | some ad =>
    obtain ⟨ia, hia, hza0, hza1, hza2⟩ := info_parts infoDs
    have q : ∀ (w : World) (n c n' c' : Nat), (binOp .eql 22 (.slice (some ad) n c) (.slice none n' c')).run Try.prog w = .ok (.bool false) w := fun w n c n' c' => Lib.run_eql_slice_nil w _ _ _ n c n' c' Try.underlying22
    obtain ⟨Z, hZ, hnw, hone, hsl⟩ : ∃ Z : List (Ds × Value), Z.map Prod.fst = xs ∧ (∀ (j : Nat) (u : Value), (Z.flatMap encD2)[j]? = some u → (w.alloc (Obj.cells #[] 37)).cell? (ad.add j) = some u) ∧ (∀ u ∈ Z.flatMap encD2, u.oneCell' = true) ∧ ∀ p ∈ Z, SlA p.1.arcs p.2 w ∧ i64B p.1.acc := by
      rcases Nat.eq_zero_or_pos xs.length with h0 | h0
      · exact ⟨[], by rw [List.eq_nil_of_length_eq_zero h0]; rfl, fun j u h => (by simp at h), fun u h => (by simp at h), fun p hp => (by cases hp)⟩
      · obtain ⟨b, off, _, e, hb, _⟩ := hr 0 (xs[0]'h0) (List.getElem?_eq_getElem h0)
        cases e
        obtain ⟨Z, z1, z2, z3⟩ := sld_cells HS
        refine ⟨Z, z1, fun j u hj => ?_, fun u hu => ?_, z3⟩
        · have h9 := z2 j u hj
          rw [add_plain] at h9 ⊢
          exact (((Below.refl _ w).alloc (Nat.le_refl _) _).cell (p := ⟨b, off + j, none⟩) hb).trans h9
        · obtain ⟨p, hp, hu⟩ := List.mem_flatMap.1 hu
          simp [encD2] at hu
          rcases hu with rfl | rfl
          · obtain ⟨⟨_, _, e, _⟩, _⟩ := z3 p hp
            rw [e]; rfl
          · rfl
    have HZ : Hid (Z.map Prod.fst = xs ∧ ∀ p ∈ Z, SlA p.1.arcs p.2 w ∧ i64B p.1.acc) := ⟨hZ, hsl⟩
    have hlz : xs.length = Z.length := by rw [← hZ]; simp
    have hZl : Z.length ≤ 100000 := by omega
    rw [hlz]
    clear hr hno HS hZ hsl hlz hl
    go_enter Try.func42, Try.ntmps42
    go_wp2_with (at_builtin; refine wpList_append_own_at _ rfl (.tmp 5) (.tmp 6) 22 rfl w.heap.size 37 ia _ 2 32 Try.underlying22 hia hza0 hza1 hza2 rfl (by omega) _ _ [] rfl (World.ownsRow_made w #[] 0 (Nat.le_refl _) (Nat.zero_le _) (by simp)) ad Z.length c (Z.flatMap encD2) rfl (encD2_len Z) hnw hone (by unfold maxLen; omega) (by omega) (by simp) ?_)
    intro v' w1 hown hgrow _ hat
    have HE : Hid (w1.ownsRow w.heap.size 37 2 v' Z.length (Z.flatMap encD2) ∧ Below w.heap.size w w1) := ⟨by simpa using hown, ((Below.refl _ w).alloc (Nat.le_refl _) _).grown hgrow (by simp) (by intro k hk; simp [Value.ownBlock] at hk; omega)⟩
    clear hown hgrow hat
    go_wp2
    go_ret
    exact ⟨v', Z, rfl, HZ.out.1, HE.out.1, HZ.out.2, HE.out.2⟩
end Go.Proofs.Ytdalomibilicfaa
/- Two machines in one list: beside. -/
namespace Go.Proofs.Ytdalomibilicfaa
open Go.RowKit Go.Shelf

/-- A state of the list: its arcs lie where they came in, or in a row of one's own. -/
def ArcP (w W : World) (p : Ds × Value) : Prop := SlA p.1.arcs p.2 w ∨ OwnA w.heap.size p.1.arcs p.2 W
theorem ArcP.but {w W W' : World} {p : Ds × Value} {D : Nat → Prop} (h : ArcP w W p) (hb : But D W W') (hd : ∀ k cs, W.heap[k]? = some (Obj.cells cs 39) → ¬ D k) : ArcP w W' p := by
  rcases h with h | h
  · exact .inl h
  · refine .inr (ownsRow_keep h hb (fun k hk => ?_))
    obtain ⟨cs, hc⟩ := own_is_cells h hk
    exact hd k cs hc
theorem flat_set3 (n : Int) : ∀ (R : List Ar) (i : Nat) (x : Ar), R[i]? = some x → (R.flatMap encA3).set (i * 3 + 2) (.int .i64 n) = (R.set i ⟨x.lo, x.hi, n⟩).flatMap encA3
  | [], i, x, h => by simp at h
  | y :: R, 0, x, h => by
    simp at h
    subst h
    simp [encA3]
  | y :: R, i + 1, x, h => by
    simp at h
    rw [List.flatMap_cons, List.set_cons_succ, List.flatMap_cons, ← flat_set3 n R i x h, List.set_append_right _ _ (by simp [encA3]; omega)]
    congr 2
    simp [encA3]
    omega
/-- The first ones shifted. -/
def shiftTo (n : Int) (R : List Ar) (k : Nat) : List Ar := (R.take k).map (fun x => ⟨x.lo, x.hi, x.tg + n⟩) ++ R.drop k
theorem shiftTo_len (n : Int) (R : List Ar) (k : Nat) : (shiftTo n R k).length = R.length := by unfold shiftTo; simp; omega
theorem shiftTo_get {n : Int} {R : List Ar} {k : Nat} {x : Ar} (h : R[k]? = some x) : (shiftTo n R k)[k]? = some x := by
  have hk := (List.getElem?_eq_some_iff.1 h).1
  unfold shiftTo
  rw [List.getElem?_append_right (by simp; omega), List.getElem?_drop]
  have : k + (k - ((R.take k).map fun x => (⟨x.lo, x.hi, x.tg + n⟩ : Ar)).length) = k := by simp; omega
  rw [this]
  exact h
theorem shiftTo_succ {n : Int} {R : List Ar} {k : Nat} {x : Ar} (h : R[k]? = some x) : (shiftTo n R k).set k ⟨x.lo, x.hi, x.tg + n⟩ = shiftTo n R (k + 1) := by
  have hk := (List.getElem?_eq_some_iff.1 h).1
  unfold shiftTo
  rw [List.set_append_right _ _ (by simp; omega), List.take_add_one, h, List.map_append]
  have e : k - ((R.take k).map fun x => (⟨x.lo, x.hi, x.tg + n⟩ : Ar)).length = 0 := by simp; omega
  rw [e, List.drop_eq_getElem_cons hk]
  rw [List.getElem?_eq_getElem hk] at h
  simp at h
  simp [h]

theorem shiftTo_zero (n : Int) (R : List Ar) : shiftTo n R 0 = R := by simp [shiftTo]
theorem shiftTo_all (n : Int) (R : List Ar) : shiftTo n R R.length = R.map (fun x => ⟨x.lo, x.hi, x.tg + n⟩) := by simp [shiftTo]

theorem rows_sld {B : Nat} {Z : List (Ds × Value)} {dv : Value} {W : World} (h : W.ownsRow B 37 2 dv Z.length (Z.flatMap encD2)) (hl : Z.length ≤ 2000) (hb : ∀ p ∈ Z, SlA p.1.arcs p.2 W ∧ i64B p.1.acc) : SlD (Z.map Prod.fst) dv W := by
  rcases Nat.eq_zero_or_pos Z.length with h0 | h0
  · obtain rfl := List.eq_nil_of_length_eq_zero h0
    rcases h.2 with ⟨rfl, _⟩ | ⟨g, cap, cur, rfl, _, _, hle, _⟩
    · exact SlD.nil _
    · exact ⟨_, _, rfl, fun i x hi => by simp at hi, fun e => (by cases e), hle, by simp⟩
  · obtain ⟨g, cap, rfl, hg, hc, hx⟩ := own_cells (enc := encD2) (c := 2) (fun x => rfl) h h0
    refine ⟨_, cap, by rw [List.length_map], fun i x hi => ?_, fun e => (by cases e), by rw [List.length_map]; exact hc, by rw [List.length_map]; omega⟩
    rw [List.getElem?_map] at hi
    obtain ⟨p, hp, rfl⟩ := Option.map_eq_some_iff.1 hi
    have hm := List.mem_of_getElem? hp
    refine ⟨g, 0, p.2, rfl, hg, ?_, ?_, (hb p hm).1, (hb p hm).2⟩
    · have := hx i 0 p _ hp (by omega) rfl; simpa using this
    · have := hx i 1 p _ hp (by omega) rfl; simpa using this

theorem SlD.bounds {l : List Ds} {v : Value} {W : World} (h : SlD l v W) : ∀ s ∈ l, i64B s.acc ∧ ∀ x ∈ s.arcs, i64B x.lo ∧ i64B x.hi ∧ i64B x.tg := by
  intro s hs
  obtain ⟨ao, cap, _, h1, _⟩ := h
  obtain ⟨i, hi⟩ := List.getElem?_of_mem hs
  obtain ⟨_, _, _, _, _, _, _, ⟨_, _, _, hx, _⟩, hb⟩ := h1 i s hi
  refine ⟨hb, fun x hxm => ?_⟩
  obtain ⟨k, hk⟩ := List.getElem?_of_mem hxm
  obtain ⟨_, _, _, _, _, _, _, hq⟩ := hx k x hk
  exact hq

set_option maxRecDepth 100000 in
set_option maxHeartbeats 3200000 in
theorem beside_any (a b : List Ds) (u v : Value) (w : World) (ha : SlD a u w) (hb : SlD b v w) (hal : a.length ≤ 1000) (hbl : b.length ≤ 1000) (haa : ∀ s ∈ a, s.arcs.length ≤ 100000) (hba : ∀ s ∈ b, s.arcs.length ≤ 100000 ∧ ∀ x ∈ s.arcs, 0 ≤ x.tg ∧ x.tg ≤ 100000) :
    Calls Try.prog 28 #[u, v] w fun e w' => ∃ lv, e = .returned lv ∧ SlD (besideL a b) lv w' ∧ Below w.heap.size w w' := by
  have HB : Hid (SlD b v w) := hb
  have HBA : Hid (∀ s ∈ b, s.arcs.length ≤ 100000 ∧ ∀ x ∈ s.arcs, 0 ≤ x.tg ∧ x.tg ≤ 100000) := hba
  have HSD : Hid (∀ (Y : List (Ds × Value)) (lv : Value) (W : World), W.ownsRow w.heap.size 37 2 lv Y.length (Y.flatMap encD2) → (∀ p ∈ Y, ArcP w W p) → Below w.heap.size w W → Y.map Prod.fst = a ++ b.map (shiftS a.length) → SlD (Y.map Prod.fst) lv W) := fun Y lv W h1 h2 h3 h4 => by
    have hlen : Y.length ≤ 2000 := by have := congrArg List.length h4; simp at this; omega
    have hbnd : ∀ s ∈ a ++ b.map (shiftS a.length), i64B s.acc ∧ s.arcs.length ≤ 100000 ∧ ∀ x ∈ s.arcs, i64B x.lo ∧ i64B x.hi ∧ i64B x.tg := by
      intro s hs
      rcases List.mem_append.1 hs with hs | hs
      · exact ⟨(ha.bounds s hs).1, haa s hs, (ha.bounds s hs).2⟩
      · obtain ⟨t, ht, rfl⟩ := List.mem_map.1 hs
        obtain ⟨q1, q3⟩ := hb.bounds t ht
        obtain ⟨r1, r2⟩ := hba t ht
        refine ⟨q1, by simpa [shiftS] using r1, fun x hx => ?_⟩
        obtain ⟨y, hy, rfl⟩ := List.mem_map.1 hx
        obtain ⟨z1, z2, z3⟩ := q3 y hy
        have := r2 y hy
        refine ⟨z1, z2, ?_⟩
        show i64B (y.tg + a.length)
        unfold i64B
        omega
    exact rows_sld h1 hlen (fun p hp => by
      obtain ⟨q1, q2, q3⟩ := hbnd p.1 (by rw [← h4]; exact List.mem_map.2 ⟨p, hp, rfl⟩)
      refine ⟨?_, q1⟩
      rcases h2 p hp with h | h
      · exact h.next h3
      · exact own_sla h (by omega) q3)
  have C1 := cloneD_any a u w ha (by omega)
  obtain ⟨ua, uc, rfl, _⟩ := ha
  obtain ⟨va, vc, rfl, _⟩ := hb
  clear hba haa
  go_enter Try.func28, Try.ntmps28
  go_wp2_with fail
  refine C1.mono ?_
  rintro e w1 ⟨l1, Z, rfl, hZ, hrow, hsl, hb1⟩
  obtain ⟨la, lc, rfl⟩ := slice_of_ownK hrow
  have HS : Hid (Z.map Prod.fst = a ∧ w1.ownsRow w.heap.size 37 2 (.slice la Z.length lc) Z.length (Z.flatMap encD2) ∧ (∀ p ∈ Z, SlA p.1.arcs p.2 w ∧ i64B p.1.acc) ∧ Below w.heap.size w w1) := ⟨hZ, hrow, hsl, hb1⟩
  have hZl : Z.length ≤ 1000 := by have := congrArg List.length hZ; simp at this; omega
  clear C1 hZ hrow hsl hb1
  go_wp2_with fail
  go_loopw [5, 13] (fun lv iv wr => ∃ (j : Nat) (Y : List (Ds × Value)) (la : Option Addr) (lc yn : Nat), iv = .int .i64 j ∧ lv = .slice la yn lc ∧ j ≤ b.length ∧ yn ≤ 1000 + j ∧ Hid (yn = Y.length ∧ Y.map Prod.fst = a ++ (b.take j).map (shiftS a.length) ∧ wr.ownsRow w.heap.size 37 2 (.slice la yn lc) Y.length (Y.flatMap encD2) ∧ (∀ p ∈ Y, ArcP w wr p) ∧ Below w.heap.size w wr)) (fun _ i _ => b.length - (intOf i).toNat)
  case atStart =>
    obtain ⟨h1, h2, h3, h4⟩ := HS.out
    exact ⟨0, Z, la, lc, Z.length, rfl, rfl, Nat.zero_le _, by omega, rfl, by simpa using h1, h2, fun p hp => .inl (h3 p hp).1, h4⟩
  case round =>
    rename World => wo
    obtain ⟨j, Y, la, lc, yn, rfl, rfl, hj, hyn, HX⟩ := hrel
    clear HS
    by_cases hlt : j < b.length
    case neg =>
      obtain rfl : j = b.length := by omega
      have HE : Hid (SlD (besideL a b) (.slice la yn lc) wo ∧ Below w.heap.size w wo) := by
        obtain ⟨rfl, h2, h3, h4, h5⟩ := HX.out
        rw [List.take_length] at h2
        refine ⟨?_, h5⟩
        have hD : SlD (Y.map Prod.fst) (.slice la Y.length lc) wo := HSD.out Y _ wo h3 h4 h5 h2
        rw [h2] at hD
        exact hD
      clear HX HB HBA
      go_wp2_with fail
      go_ret
      exact ⟨_, rfl, HE.out⟩
    obtain ⟨rfl, h2, h3, h4, h5⟩ := HX.out
    obtain ⟨_, _, e0, hbr, _⟩ := HB.out
    cases e0
    obtain ⟨bb, off, av, e1, hbb, k1, k2, hsa, hacc⟩ := DssAt.at hbr h5 hlt
    cases e1
    have hA := HBA.out _ (List.getElem_mem hlt)
    have htk : b.take (j + 1) = b.take j ++ [b[j]] := by rw [List.take_add_one, List.getElem?_eq_getElem hlt]; rfl
    generalize b[j] = x at *
    obtain ⟨xa, xc, rfl, _⟩ := id hsa
    have ba : Below wo.heap.size wo (wo.alloc (Obj.cells #[.slice xa x.arcs.length xc, .int .i64 x.acc] 37)) := below_box2 _ _ _ _
    have hbx : (wo.alloc (Obj.cells #[.slice xa x.arcs.length xc, .int .i64 x.acc] 37)).heap[wo.heap.size]? = some (Obj.cells #[.slice xa x.arcs.length xc, .int .i64 x.acc] 37) := heap_alloc_new _ _
    have hsz : (wo.alloc (Obj.cells #[.slice xa x.arcs.length xc, .int .i64 x.acc] 37)).heap.size = wo.heap.size + 1 := by simp
    have C2 := cloneA_any x.arcs (.slice xa x.arcs.length xc) (wo.alloc (Obj.cells #[.slice xa x.arcs.length xc, .int .i64 x.acc] 37)) (hsa.next ba) hA.1
    have HI : Hid (Y.map Prod.fst = a ++ (b.take j).map (shiftS a.length) ∧ wo.ownsRow w.heap.size 37 2 (.slice la Y.length lc) Y.length (Y.flatMap encD2) ∧ (∀ p ∈ Y, ArcP w wo p) ∧ Below w.heap.size w wo ∧ b.take (j + 1) = b.take j ++ [x] ∧ (x.arcs.length ≤ 100000 ∧ ∀ y ∈ x.arcs, 0 ≤ y.tg ∧ y.tg ≤ 100000) ∧ Below wo.heap.size wo (wo.alloc (Obj.cells #[.slice xa x.arcs.length xc, .int .i64 x.acc] 37)) ∧ (wo.alloc (Obj.cells #[.slice xa x.arcs.length xc, .int .i64 x.acc] 37)).heap[wo.heap.size]? = some (Obj.cells #[.slice xa x.arcs.length xc, .int .i64 x.acc] 37) ∧ (wo.alloc (Obj.cells #[.slice xa x.arcs.length xc, .int .i64 x.acc] 37)).heap.size = wo.heap.size + 1) := ⟨h2, h3, h4, h5, htk, hA, ba, hbx, hsz⟩
    have hxl : x.arcs.length ≤ 100000 := hA.1
    clear HX HB HBA h2 h3 h4 h5 hbr hA htk hsa ba hbx hsz
    go_wp2_with fail
    refine C2.mono ?_
    rintro e w4 ⟨nv, rfl, hO, hB4⟩
    obtain ⟨na, nc, rfl⟩ := slice_of_ownK hO
    have g5 : w4.heap[wo.heap.size]? = some (Obj.cells #[.slice xa x.arcs.length xc, .int .i64 x.acc] 37) := by
      obtain ⟨_, _, _, _, _, _, _, q1, q2⟩ := HI.out
      exact (hB4.block _ (by omega)).trans q1
    have g6 : w4.frozen? ⟨wo.heap.size, 0, none⟩ = false := Lib.frozen_of_heap g5 _
    have g7 : w4.cell? ⟨wo.heap.size, 0, none⟩ = some (.slice xa x.arcs.length xc) := by rw [Lib.cell_of_heap g5]; rfl
    have g8 : wo.heap.size < w4.heap.size := blk_lt g5
    have HG : Hid ((w4.setCell ⟨wo.heap.size, 0, none⟩ (.slice na x.arcs.length nc)).heap[wo.heap.size]? = some (Obj.cells #[.slice na x.arcs.length nc, .int .i64 x.acc] 37) ∧ OwnA (wo.heap.size + 1) x.arcs (.slice na x.arcs.length nc) (w4.setCell ⟨wo.heap.size, 0, none⟩ (.slice na x.arcs.length nc)) ∧ Below wo.heap.size wo (w4.setCell ⟨wo.heap.size, 0, none⟩ (.slice na x.arcs.length nc))) := by
      obtain ⟨_, _, _, _, _, _, q0, q1, q2⟩ := HI.out
      have b1 : But (fun j => j = wo.heap.size) w4 (w4.setCell ⟨wo.heap.size, 0, none⟩ (.slice na x.arcs.length nc)) := (But.refl _ _).setCell _ _ (.inr rfl)
      refine ⟨by simpa using blk_set (o := 0) g5 (.slice na x.arcs.length nc), ?_, below_but (q0.trans (hB4.mono (by omega))) b1 (Nat.le_refl _) (fun k hk => by omega)⟩
      refine own_mono (ownsRow_keep hO b1 (fun k hk h => ?_)) (by omega)
      have := (World.ownsRow.lt hO k hk).1
      omega
    clear C2 hO hB4 k1 k2 g5
    go_wp2_with fail
    clear g6 g7 g8
    generalize (w4.setCell ⟨wo.heap.size, 0, none⟩ (.slice na x.arcs.length nc)) = w5 at *
    go_loopw [24] (fun kv wq => ∃ (k : Nat), kv = .int .i64 k ∧ k ≤ x.arcs.length ∧ Hid (wq.heap[wo.heap.size]? = some (Obj.cells #[.slice na x.arcs.length nc, .int .i64 x.acc] 37) ∧ OwnA (wo.heap.size + 1) (shiftTo a.length x.arcs k) (.slice na x.arcs.length nc) wq ∧ Below wo.heap.size wo wq)) (fun i _ => x.arcs.length - (intOf i).toNat)
    case atStart => exact ⟨0, rfl, Nat.zero_le _, by show _ ∧ _ ∧ _; rw [shiftTo_zero]; exact HG.out⟩
    case round =>
      obtain ⟨k, rfl, hk, HK⟩ := hrel
      clear HG
      obtain ⟨g1, g2, g3⟩ := HK.out
      have f7 : wr.cell? ⟨wo.heap.size, 0, none⟩ = some (.slice na x.arcs.length nc) := by rw [Lib.cell_of_heap g1]; rfl
      have f8 : wr.cell? ⟨wo.heap.size, 1, none⟩ = some (.int .i64 x.acc) := by rw [Lib.cell_of_heap g1]; rfl
      by_cases hlk : k < x.arcs.length
      case neg =>
        obtain rfl : k = x.arcs.length := by omega
        obtain ⟨ia, hia, hza0, hza1, hza2⟩ := info_parts infoDs
        have bA : Below wr.heap.size wr (wr.alloc (Obj.cells #[.slice na x.arcs.length nc, .int .i64 x.acc] 37)) := below_box2 _ _ _ _
        have hnw := new_cell2 wr (.slice na x.arcs.length nc) (.int .i64 x.acc) 37
        have hON : (wr.alloc (Obj.cells #[.slice na x.arcs.length nc, .int .i64 x.acc] 37)).ownsRow w.heap.size 37 2 (.slice la Y.length lc) Y.length (Y.flatMap encD2) := own_below (own_below HI.out.2.1 g3) bA
        have hszn : w.heap.size ≤ (wr.alloc (Obj.cells #[.slice na x.arcs.length nc, .int .i64 x.acc] 37)).heap.size := Nat.le_trans (Nat.le_trans HI.out.2.2.2.1.size g3.size) bA.size
        have HA : Hid (Below wr.heap.size wr (wr.alloc (Obj.cells #[.slice na x.arcs.length nc, .int .i64 x.acc] 37))) := bA
        clear g1 g2 g3 bA
        go_wp2_with (at_builtin; refine wpList_append_own_at _ rfl _ _ 22 rfl w.heap.size 37 ia _ 2 32 Try.underlying22 hia hza0 hza1 hza2 rfl (by omega) _ _ _ rfl hON ⟨wr.heap.size, 0, none⟩ 1 1 [.slice na x.arcs.length nc, .int .i64 x.acc] rfl rfl hnw (by simp [Value.oneCell']) (by unfold maxLen; omega) (by omega) hszn ?_)
        intro v' w8 ho8 hg8 _ hat8
        have HE : Hid ((Y ++ [(shiftS a.length x, Value.slice na x.arcs.length nc)]).map Prod.fst = a ++ (b.take (j + 1)).map (shiftS a.length) ∧ w8.ownsRow w.heap.size 37 2 v' (Y ++ [(shiftS a.length x, Value.slice na x.arcs.length nc)]).length ((Y ++ [(shiftS a.length x, Value.slice na x.arcs.length nc)]).flatMap encD2) ∧ (∀ p ∈ Y ++ [(shiftS a.length x, Value.slice na x.arcs.length nc)], ArcP w w8 p) ∧ Below w.heap.size w w8) := by
          obtain ⟨q1, q2, q3, q4, q5, q6, q7, q8, q9⟩ := HI.out
          obtain ⟨g1, g2, g3⟩ := HK.out
          have b08 : But (fun k => (Value.slice la Y.length lc).ownBlock = some k) wo w8 := (But.of_next (g3.trans (HA.out.mono g3.size))).trans (but_grown hg8 (fun r h => h))
          refine ⟨by simp [q1, q5], by simpa [encD2, shiftS] using ho8, fun p hp => ?_, below_but q4 b08 (Nat.le_refl _) (fun k hk => (World.ownsRow.lt q2 k hk).1)⟩
          rcases List.mem_append.1 hp with hp | hp
          · exact (q3 p hp).but b08 (fun k cs hk => own_nb q2 hk (by decide))
          · simp at hp
            subst hp
            refine .inr ?_
            rw [shiftTo_all] at g2
            have g9 : OwnA (wo.heap.size + 1) (shiftS a.length x).arcs (.slice na x.arcs.length nc) wr := g2
            refine own_mono (ownsRow_keep (own_below g9 HA.out) (but_grown (A := fun k => (Value.slice la Y.length lc).ownBlock = some k) hg8 (fun r h => h)) (fun k hk h => ?_)) (by have := q4.size; omega)
            have h1 := (World.ownsRow.lt g9 k hk).1
            have h2 := (World.ownsRow.lt q2 k h).2
            omega
        obtain ⟨va', vc', rfl⟩ := slice_of_ownK ho8
        clear ho8 hg8 hat8 hON hnw HK HI HA hszn f7 f8
        go_wp2_with fail
        exact ⟨⟨j + 1, Y ++ [(shiftS a.length x, Value.slice na x.arcs.length nc)], va', vc', Y.length + 1, by go_num, rfl, by omega, by omega, by simp, HE.out⟩, by simp [intOf]; omega⟩
      have hyk : (shiftTo a.length x.arcs k)[k]? = some x.arcs[k] := shiftTo_get (List.getElem?_eq_getElem hlk)
      obtain ⟨g, cap, e3, hg, hcp, hx⟩ := own_cells (enc := encA3) (c := 3) (fun x => rfl) g2 (by rw [shiftTo_len]; omega)
      rw [shiftTo_len] at e3
      cases e3
      have g2r : wr.ownsRow (wo.heap.size + 1) 39 3 (.slice (some ⟨g, 0, none⟩) x.arcs.length nc) x.arcs.length ((shiftTo a.length x.arcs k).flatMap encA3) := by
        have h9 := g2
        unfold OwnA at h9
        rw [shiftTo_len] at h9
        exact h9
      have t2 := hx k 2 _ _ hyk (by omega) rfl
      have hd := (HI.out.2.2.2.2.2.1.2 x.arcs[k] (List.getElem_mem hlk))
      have HST : Hid ((wr.setCell ⟨g, k * 3 + 2, none⟩ (.int .i64 (x.arcs[k].tg + a.length))).heap[wo.heap.size]? = some (Obj.cells #[.slice (some ⟨g, 0, none⟩) x.arcs.length nc, .int .i64 x.acc] 37) ∧ OwnA (wo.heap.size + 1) (shiftTo a.length x.arcs (k + 1)) (.slice (some ⟨g, 0, none⟩) x.arcs.length nc) (wr.setCell ⟨g, k * 3 + 2, none⟩ (.int .i64 (x.arcs[k].tg + a.length))) ∧ Below wo.heap.size wo (wr.setCell ⟨g, k * 3 + 2, none⟩ (.int .i64 (x.arcs[k].tg + a.length)))) := by
        have hgl := (World.ownsRow.lt g2 g rfl).1
        have b1 : But (fun j => j = g) wr (wr.setCell ⟨g, k * 3 + 2, none⟩ (.int .i64 (x.arcs[k].tg + a.length))) := (But.refl _ _).setCell _ _ (.inr rfl)
        refine ⟨but_blk b1 g1 (by omega), ?_, below_but g3 b1 (Nat.le_refl _) (fun k hk => by omega)⟩
        have hst := World.ownsRow.stored g2r (k * 3 + 2) (.int .i64 (x.arcs[k].tg + a.length))
        rw [flat_set3 _ _ _ _ hyk, shiftTo_succ (List.getElem?_eq_getElem hlk)] at hst
        unfold OwnA
        rw [shiftTo_len]
        exact hst.1
      have g9 : wr.frozen? ⟨g, k * 3 + 2, none⟩ = false := World.ownsRow.frozenAt g2r _
      generalize x.arcs[k] = y at *
      try simp only at t2
      have hw1 : IntKind.i64.wrap (y.tg + (a.length : Int)) = y.tg + a.length := IntWalk.i64_in _ (by omega)
      clear hyk hx g1 g2 g2r g3 HK
      go_wp2_with fail
      exact ⟨⟨k + 1, by go_num, by omega, HST⟩, by simp [intOf]; omega⟩
end Go.Proofs.Ytdalomibilicfaa
