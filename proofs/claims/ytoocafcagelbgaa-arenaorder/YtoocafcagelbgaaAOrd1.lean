/- An arena by its handles' trees. -/
import Derived.Test.YtoocafcagelbgaaJAMath12
import Derived.Test.YtoocafcagelbgaaPKeeps
namespace Go.Proofs.Ytoocafcagelbgaa
open Go.RowKit

theorem toSN_sl (s : SN) : toSN s.sl = s := by
  obtain ⟨h, ks, r, nx⟩ := s
  unfold toSN SN.sl
  simp only [Nd.h, intL_nat, Int.toNat_natCast]
theorem st_sl (S : St) : (toSt S.ar).sl = S.sl := by
  show (S.sl.map SN.sl).map toSN = S.sl
  rw [List.map_map]
  conv => rhs; rw [← List.map_id S.sl]
  exact List.map_congr_left fun s _ => toSN_sl s
/-- A tree that a handle has. -/
def RT (a : Ar) (T : Nd) : Prop := ∃ j : Nat, (j : Int) ∈ a.roots ∧ treeA a j = T
theorem tree_in {a : Ar} (h : fitAB a 1048576 = true) (T : Nd) : TreeIn (toSt a) 1048576 T ↔ ∃ R, RT a R ∧ T ∈ subsN R := by
  obtain ⟨z, hz⟩ := inv_of_fit h (by decide)
  rw [hz.trees T]
  constructor
  · rintro ⟨j, h1, h2⟩
    exact ⟨_, ⟨j, h1, rfl⟩, h2⟩
  · rintro ⟨R, ⟨j, h1, rfl⟩, h2⟩
    exact ⟨j, h1, h2⟩
theorem slots_st {a : Ar} (h : fitAB a 1048576 = true) : (toSt a).sl.map SN.sl = a.slots := congrArg Ar.slots (toSt_ar h)
theorem live_rt {a b : Ar} (ha : fitAB a 1048576 = true) (hb : fitAB b 1048576 = true) (h : ∀ T, RT a T → RT b T) : liveN a.slots ≤ liveN b.slots := by
  obtain ⟨z, hz⟩ := inv_of_fit ha (by decide)
  obtain ⟨z', hz'⟩ := inv_of_fit hb (by decide)
  have := live_le hz hz' (fun T hT => by
    obtain ⟨R, h1, h2⟩ := (tree_in ha T).1 hT
    exact (tree_in hb T).2 ⟨R, h R h1, h2⟩)
  rwa [slots_st ha, slots_st hb] at this
/-- How many live, where the trees are told. -/
theorem live_count {a : Ar} (ha : fitAB a 1048576 = true) (c : List Nd) (hc : c.Nodup) (h : ∀ T, (∃ R, RT a R ∧ T ∈ subsN R) ↔ T ∈ c) : liveN a.slots = c.length := by
  obtain ⟨z, hz⟩ := inv_of_fit ha (by decide)
  have hnd : ((liveL ((toSt a).sl.map SN.sl)).map (denF (toSt a).sl 1048576)).Nodup := nodup_mapC (List.Pairwise.filter _ List.nodup_range) (fun x hx y hy e => by
    obtain ⟨x1, x2⟩ := (hz.live x).1 hx
    obtain ⟨y1, y2⟩ := (hz.live y).1 hy
    exact denF_inj hz 1048576 1048576 x y x1 x2 y1 y2 (hz.size x _ (List.getElem?_eq_getElem x1)).2 (hz.size y _ (List.getElem?_eq_getElem y1)).2 e)
  have hmem : ∀ T, T ∈ (liveL ((toSt a).sl.map SN.sl)).map (denF (toSt a).sl 1048576) ↔ T ∈ c := fun T => by
    rw [← h T, ← tree_in ha T]
    constructor
    · intro hm
      obtain ⟨p, hp, e⟩ := List.mem_map.1 hm
      obtain ⟨p1, p2⟩ := (hz.live p).1 hp
      exact ⟨p, p1, p2, e⟩
    · rintro ⟨p, p1, p2, e⟩
      exact List.mem_map.2 ⟨p, (hz.live p).2 ⟨p1, p2⟩, e⟩
  have h1 := nodup_leC hnd (fun T hT => (hmem T).1 hT)
  have h2 := nodup_leC hc (fun T hT => (hmem T).2 hT)
  rw [List.length_map, liveL_len, slots_st ha] at h1 h2
  omega
theorem rt_new (T : Nd) : ¬ RT newA T := by
  rintro ⟨j, h, _⟩
  simp [newA] at h
theorem lay_ok_put {S : St} {h : Hd} {ks : List Nat} (hl : S.sl.length + 1 ≤ 4096) : ∃ S' p, putS S h ks = (S', some p) ∧ S'.sl.length ≤ S.sl.length + 1 := by
  unfold putS
  cases hF : S.F (keyH h (intL ks)) with
  | some p => exact ⟨S, p, rfl, by omega⟩
  | none =>
    simp only
    unfold takeS
    cases hf : S.fl with
    | cons p l => exact ⟨_, p, rfl, by simp [bumps_len]⟩
    | nil =>
      simp only
      rw [if_neg (by omega)]
      exact ⟨_, _, rfl, by simp [bumps_len]⟩
mutual
theorem lay_ok : ∀ (t : Nd) (S : St) (b : Int), S.sl.length + cntN t ≤ 4096 → ∃ S' p, layN t S b = (S', some p) ∧ S'.sl.length ≤ S.sl.length + cntN t
  | .mk h l, S, b, hl => by
    have hc : cntN (.mk h l) = cntL l + 1 := cntN_mk _
    obtain ⟨S1, ks, h1, h2⟩ := layL_ok l S h.frm (by omega)
    obtain ⟨S2, p, h3, h4⟩ := lay_ok_put (S := S1) (h := relH h b) (ks := ks) (by omega)
    refine ⟨S2, p, ?_, by omega⟩
    rw [layN, h1]
    exact h3
theorem layL_ok : ∀ (l : List Nd) (S : St) (b : Int), S.sl.length + cntL l ≤ 4096 → ∃ S' ks, layL l S b = (S', some ks) ∧ S'.sl.length ≤ S.sl.length + cntL l
  | [], S, b, hl => ⟨S, [], rfl, by omega⟩
  | t :: l, S, b, hl => by
    have hc : cntL (t :: l) = cntN t + cntL l := by simp [cntL]
    obtain ⟨S1, p, h1, h2⟩ := lay_ok t S b (by omega)
    obtain ⟨S2, ks, h3, h4⟩ := layL_ok l S1 b (by omega)
    refine ⟨S2, p :: ks, ?_, by omega⟩
    rw [layL, h1]
    simp only
    rw [h3]
 end
/-- What Add leaves, by its handles' trees. -/
theorem add_rt {a : Ar} {t : Nd} {S2 : St} {p : Nat} (h : fitAB a 1048576 = true) (hc : cntN t ≤ 1048576) (hl : layN t (toSt a) 0 = (S2, some p)) (hfit : fitAB (addS S2 p).ar 1048576 = true) :
    (∀ T, RT (addS S2 p).ar T ↔ RT a T ∨ T = relT t 0) ∧ (addS S2 p).ar.roots = a.roots ++ [(p : Int)] ∧ (∀ j : Nat, (j : Int) ∈ a.roots → treeA (addS S2 p).ar j = treeA a j) ∧ treeA (addS S2 p).ar p = relT t 0 := by
  obtain ⟨z, hz⟩ := inv_of_fit h (by decide)
  obtain ⟨z', hz', _, _, hp1, hp2⟩ := layN_inv t (toSt a) [] z 1048576 0 S2 p hz hc hl
  obtain ⟨hs, hd⟩ := layN_den t (toSt a) [] z 1048576 0 S2 p hz hc hl
  have hr : S2.roots = a.roots := by
    have := layN_roots t (toSt a) 0
    rw [hl] at this
    exact this
  have hra : (addS S2 p).ar.roots = a.roots ++ [(p : Int)] := by
    show S2.roots ++ [(p : Int)] = _
    rw [hr]
  have hsb : Same S2 (addS S2 p) := fun i s h1 h2 => ⟨h2, by
    obtain e := bump_at (p := p) h1
    exact ⟨_, e, rfl, rfl⟩⟩
  have t1 : ∀ j : Nat, (j : Int) ∈ a.roots → treeA (addS S2 p).ar j = treeA a j := fun j hj => by
    unfold treeA
    rw [st_sl]
    rcases hz.roots (j : Int) hj with e | ⟨k, e, e1, e2⟩
    · omega
    · obtain rfl : j = k := by omega
      have f1 := denF_same hz (hs.trans hsb) 1048576 j e1 e2
      exact f1
  have t2 : treeA (addS S2 p).ar p = relT t 0 := by
    unfold treeA
    rw [st_sl, denF_same hz' hsb 1048576 p hp1 hp2]
    exact hd 1048576 hc
  refine ⟨fun T => ⟨?_, ?_⟩, hra, t1, t2⟩
  · rintro ⟨j, h1, rfl⟩
    rw [hra] at h1
    rcases List.mem_append.1 h1 with h1 | h1
    · exact .inl ⟨j, h1, (t1 j h1).symm⟩
    · rw [List.mem_singleton] at h1
      obtain rfl : j = p := by omega
      exact .inr t2
  · rintro (⟨j, h1, rfl⟩ | rfl)
    · exact ⟨j, by rw [hra]; exact List.mem_append_left _ h1, t1 j h1⟩
    · exact ⟨p, by rw [hra]; simp, t2⟩
/-- What Drop leaves, by its handles' trees. -/
theorem drop_rt {a : Ar} (h : fitAB a 1048576 = true) : ∃ d : Nat → Nat, (∀ (i : Nat) (s : Sl), a.slots[i]? = some s → ∀ k ∈ s.kids.map Int.toNat, d k < d i) ∧ ∀ (j p : Nat), a.roots[j]? = some (p : Int) → fitAB (dropS a d j p).ar 1048576 = true ∧ (dropS a d j p).ar.roots = a.roots.set j (-1) ∧ ∀ q : Nat, (q : Int) ∈ a.roots.set j (-1) → treeA (dropS a d j p).ar q = treeA a q := by
  obtain ⟨d, h1, h2⟩ := drop_trees h
  refine ⟨d, h1, fun j p hjp => ?_⟩
  obtain ⟨h3, h4, z', hz', h5⟩ := h2 j p hjp
  refine ⟨h3, h4, fun q hq => ?_⟩
  rw [← h4] at hq
  unfold treeA
  rw [st_sl]
  rcases hz'.roots (q : Int) hq with e | ⟨k, e, e1, e2⟩
  · omega
  · obtain rfl : q = k := by omega
    exact h5 q e1 e2
end Go.Proofs.Ytoocafcagelbgaa
