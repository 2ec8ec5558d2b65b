/- Texts joined: AMath12, AMath13, AMath14. -/
import Derived.Test.YtoocafcagelbgaaJAMath10
/- The tree of a place. -/
namespace Go.Proofs.Ytoocafcagelbgaa
open Go.RowKit

/-- The tree of a place, by fuel. -/
def denF (sl : List SN) : Nat → Nat → Nd
  | 0, _ => .mk zeroH []
  | f + 1, p => match sl[p]? with
    | none => .mk zeroH []
    | some s => .mk s.h (s.ks.map (denF sl f))
theorem denF_succ {sl : List SN} {f p : Nat} {s : SN} (h : sl[p]? = some s) : denF sl (f + 1) p = .mk s.h (s.ks.map (denF sl f)) := by
  conv => lhs; unfold denF
  rw [h]
theorem denF_fuel {sl : List SN} {z : Nat → Nat} (hz : ∀ (p : Nat) (s : SN), sl[p]? = some s → z p = 1 + (s.ks.map z).sum) (hk : ∀ (p : Nat) (s : SN), sl[p]? = some s → ∀ k ∈ s.ks, k < sl.length) : ∀ (f g p : Nat), p < sl.length → z p ≤ f → z p ≤ g → denF sl f p = denF sl g p
  | 0, g, p, hp, h1, _ => by have := hz p _ (List.getElem?_eq_getElem hp); omega
  | f + 1, 0, p, hp, _, h2 => by have := hz p _ (List.getElem?_eq_getElem hp); omega
  | f + 1, g + 1, p, hp, h1, h2 => by
    have hs := List.getElem?_eq_getElem hp
    rw [denF_succ hs, denF_succ hs]
    congr 1
    refine List.map_congr_left fun k hk' => ?_
    have e := hz p _ hs
    have := le_sum (z := z) hk'
    exact denF_fuel hz hk f g k (hk p _ hs k hk') (by omega) (by omega)
theorem map_inj_on {α β : Type} {f g : α → β} : ∀ {a b : List α}, a.map f = b.map g → (∀ x ∈ a, ∀ y ∈ b, f x = g y → x = y) → a = b
  | [], [], _, _ => rfl
  | [], _ :: _, h, _ => by simp at h
  | _ :: _, [], h, _ => by simp at h
  | x :: a, y :: b, h, hi => by
    simp only [List.map_cons, List.cons.injEq] at h
    rw [hi x (by simp) y (by simp) h.1, map_inj_on h.2 (fun u hu v hv => hi u (by simp [hu]) v (by simp [hv]))]
/-- Trees tell places apart. -/
theorem denF_inj {S : St} {ow : List Nat} {z : Nat → Nat} {most : Nat} (h : Inv S ow z most) : ∀ (f g p q : Nat), p < S.sl.length → p ∉ S.fl → q < S.sl.length → q ∉ S.fl → z p ≤ f → z q ≤ g → denF S.sl f p = denF S.sl g q → p = q
  | 0, _, p, _, hp, _, _, _, h1, _, _ => by have := h.size p _ (List.getElem?_eq_getElem hp); omega
  | f + 1, 0, _, q, _, _, hq, _, _, h2, _ => by have := h.size q _ (List.getElem?_eq_getElem hq); omega
  | f + 1, g + 1, p, q, hp, hpf, hq, hqf, h1, h2, he => by
    have hs := List.getElem?_eq_getElem hp
    have ht := List.getElem?_eq_getElem hq
    rw [denF_succ hs, denF_succ ht] at he
    simp only [Nd.mk.injEq] at he
    have es := (h.size p _ hs).1
    have et := (h.size q _ ht).1
    have hks : S.sl[p].ks = S.sl[q].ks := map_inj_on he.2 (fun x hx y hy e => by
      obtain ⟨a1, a2⟩ := h.kids p _ hs x hx
      obtain ⟨b1, b2⟩ := h.kids q _ ht y hy
      have c1 := le_sum (z := z) hx
      have c2 := le_sum (z := z) hy
      exact denF_inj h f g x y a1 a2 b1 b2 (by omega) (by omega) e)
    have hkey : keyN S.sl[p] = keyN S.sl[q] := by unfold keyN; rw [he.1, hks]
    have f1 := (h.key (keyN S.sl[p]) p).2 ⟨hpf, _, hs, rfl⟩
    have f2 := (h.key (keyN S.sl[p]) q).2 ⟨hqf, _, ht, hkey.symm⟩
    rw [f1] at f2
    exact Option.some.inj f2
mutual
/-- A tree, its places counted from what it hangs on. -/
def relT : Nd → Int → Nd
  | .mk h l, b => .mk (relH h b) (relL l h.frm)
def relL : List Nd → Int → List Nd
  | [], _ => []
  | t :: l, b => relT t b :: relL l b
end
/-- What is laid stays as it is. -/
def Same (S S' : St) : Prop := ∀ (i : Nat) (s : SN), S.sl[i]? = some s → i ∉ S.fl → i ∉ S'.fl ∧ ∃ s', S'.sl[i]? = some s' ∧ s'.h = s.h ∧ s'.ks = s.ks
theorem Same.trans {S S1 S2 : St} (h : Same S S1) (k : Same S1 S2) : Same S S2 := fun i s hs hf => by
  obtain ⟨f1, s1, a1, a2, a3⟩ := h i s hs hf
  obtain ⟨f2, s2, b1, b2, b3⟩ := k i s1 a1 f1
  exact ⟨f2, s2, b1, b2.trans a2, b3.trans a3⟩
theorem put_same {S S' : St} {ow ks : List Nat} {z : Nat → Nat} {most p : Nat} {h : Hd} (hi : Inv S (ks ++ ow) z most) (hk : ∀ k ∈ ks, k < S.sl.length ∧ k ∉ S.fl) (hp : putS S h ks = (S', some p)) :
    Same S S' ∧ ∃ s', S'.sl[p]? = some s' ∧ s'.h = h ∧ s'.ks = ks := by
  have hl4 := hi.len
  have hkb : ∀ k ∈ ks, k < 65536 := fun k h => by have := (hk k h).1; omega
  unfold putS at hp
  cases hF : S.F (keyH h (intL ks)) with
  | some q =>
    rw [hF] at hp
    simp only [Prod.mk.injEq, Option.some.injEq] at hp
    obtain ⟨rfl, rfl⟩ := hp
    obtain ⟨hq, s, hs, hks⟩ := (hi.key _ _).1 hF
    have hsb : ∀ k ∈ s.ks, k < 65536 := fun k h => by have := (hi.kids q s hs k h).1; omega
    obtain ⟨e1, e2⟩ := keyH_inj hsb hkb hks
    exact ⟨fun i s hs hf => ⟨hf, s, hs, rfl, rfl⟩, s, hs, e1, e2⟩
  | none =>
    rw [hF] at hp
    simp only at hp
    cases ht : takeS S with
    | none => rw [ht] at hp; simp at hp
    | some x =>
      obtain ⟨S2, q⟩ := x
      rw [ht] at hp
      simp only [Prod.mk.injEq, Option.some.injEq] at hp
      obtain ⟨rfl, rfl⟩ := hp
      have T := hi.took ht
      obtain ⟨s0, h0, _, _⟩ := T.at0
      have hq2 := (List.getElem?_eq_some_iff.1 h0).1
      refine ⟨fun i s hs hf => ⟨fun hm => hf ((T.fl i).1 hm).1, { s with refs := s.refs + ks.count i }, ?_, rfl, rfl⟩, { (⟨h, ks, 0, -1⟩ : SN) with refs := 0 + ks.count q }, ?_, rfl, rfl⟩
      · have hne : i ≠ q := fun e => by
          subst e
          rcases T.new with h' | h'
          · exact hf h'
          · have := (List.getElem?_eq_some_iff.1 hs).1; omega
        show (bumps _ ks)[i]? = _
        rw [bumps_get, set_o hne, T.other i hne, hs]; rfl
      · show (bumps _ ks)[q]? = _
        rw [bumps_get, set_s h0]; rfl
/-- A tree that lies in two states alike. -/
theorem denF_same {S S' : St} {ow : List Nat} {z : Nat → Nat} {most : Nat} (h : Inv S ow z most) (hs : Same S S') : ∀ (f p : Nat), p < S.sl.length → p ∉ S.fl → denF S'.sl f p = denF S.sl f p
  | 0, _, _, _ => rfl
  | f + 1, p, hp, hf => by
    have e := List.getElem?_eq_getElem hp
    obtain ⟨_, s', e', a, b⟩ := hs p _ e hf
    rw [denF_succ e, denF_succ e', a, b]
    congr 1
    refine List.map_congr_left fun k hk => ?_
    obtain ⟨k1, k2⟩ := h.kids p _ e k hk
    exact denF_same h hs f k k1 k2
mutual
theorem layN_den : ∀ (t : Nd) (S : St) (ow : List Nat) (z : Nat → Nat) (most : Nat) (b : Int) (S' : St) (p : Nat), Inv S ow z most → cntN t ≤ most → layN t S b = (S', some p) → Same S S' ∧ ∀ f, cntN t ≤ f → denF S'.sl f p = relT t b
  | .mk h l, S, ow, z, most, b, S', p, hi, hc, he => by
    simp only [layN] at he
    have hct : cntN (.mk h l) = cntL l + 1 := cntN_mk _
    rcases hl : layL l S h.frm with ⟨S1, _ | ks⟩
    · rw [hl] at he; simp at he
    · rw [hl] at he
      simp only at he
      obtain ⟨z1, i1, s1, k1, a1⟩ := layL_inv l S ow z most h.frm S1 ks hi (by omega) hl
      obtain ⟨m1, d1⟩ := layL_den l S ow z most h.frm S1 ks hi (by omega) hl
      obtain ⟨m2, s', e', e1, e2⟩ := put_same i1 a1 he
      refine ⟨m1.trans m2, fun f hf => ?_⟩
      obtain ⟨g, rfl⟩ : ∃ g, f = g + 1 := ⟨f - 1, by omega⟩
      rw [denF_succ e', e1, e2]
      simp only [relT]
      congr 1
      rw [← d1 g (by omega)]
      exact List.map_congr_left fun k hk => denF_same i1 m2 g k (a1 k hk).1 (a1 k hk).2
theorem layL_den : ∀ (l : List Nd) (S : St) (ow : List Nat) (z : Nat → Nat) (most : Nat) (b : Int) (S' : St) (ks : List Nat), Inv S ow z most → cntL l ≤ most → layL l S b = (S', some ks) → Same S S' ∧ ∀ f, cntL l ≤ f → ks.map (denF S'.sl f) = relL l b
  | [], S, ow, z, most, b, S', ks, _, _, he => by
    simp only [layL, Prod.mk.injEq, Option.some.injEq] at he
    obtain ⟨rfl, rfl⟩ := he
    exact ⟨fun i s hs hf => ⟨hf, s, hs, rfl, rfl⟩, fun f _ => by simp only [relL, List.map_nil]⟩
  | t :: l, S, ow, z, most, b, S', ks, hi, hc, he => by
    simp only [layL] at he
    simp only [cntL] at hc
    rcases ht : layN t S b with ⟨S1, _ | p⟩
    · rw [ht] at he; simp at he
    · rw [ht] at he
      simp only at he
      obtain ⟨z1, i1, e1, k1, p1, p2⟩ := layN_inv t S ow z most b S1 p hi (by omega) ht
      obtain ⟨m1, d1⟩ := layN_den t S ow z most b S1 p hi (by omega) ht
      rcases hl : layL l S1 b with ⟨S2, _ | ks2⟩
      · rw [hl] at he; simp at he
      · rw [hl] at he
        simp only [Prod.mk.injEq, Option.some.injEq] at he
        obtain ⟨rfl, rfl⟩ := he
        obtain ⟨m2, d2⟩ := layL_den l S1 (p :: ow) z1 most b S2 ks2 i1 (by omega) hl
        refine ⟨m1.trans m2, fun f hf => ?_⟩
        simp only [cntL] at hf
        simp only [relL, List.map_cons]
        rw [denF_same i1 m2 f p p1 p2, d1 f (by omega), d2 f (by omega)]
end
end Go.Proofs.Ytoocafcagelbgaa
/- How many live: how many trees there are within the roots'. -/
namespace Go.Proofs.Ytoocafcagelbgaa
open Go.RowKit

mutual
/-- All trees within a tree. -/
def subsN : Nd → List Nd
  | .mk h l => .mk h l :: subsL l
def subsL : List Nd → List Nd
  | [] => []
  | t :: l => subsN t ++ subsL l
end
theorem subsL_mem : ∀ {l : List Nd} {T : Nd}, T ∈ subsL l ↔ ∃ t ∈ l, T ∈ subsN t
  | [], T => by simp [subsL]
  | t :: l, T => by
    simp only [subsL, List.mem_append, subsL_mem (l := l), List.mem_cons, exists_eq_or_imp]
/-- A tree that is laid. -/
def TreeIn (S : St) (most : Nat) (T : Nd) : Prop := ∃ p, p < S.sl.length ∧ p ∉ S.fl ∧ denF S.sl most p = T
theorem Inv.den {S : St} {ow : List Nat} {z : Nat → Nat} {most : Nat} (h : Inv S ow z most) {p : Nat} (hp : p < S.sl.length) : denF S.sl most p = .mk S.sl[p].h (S.sl[p].ks.map (denF S.sl most)) := by
  have hs := List.getElem?_eq_getElem hp
  have hz := h.size p _ hs
  have e := denF_fuel (fun q s hs => (h.size q s hs).1) (fun q s hs k hk => (h.kids q s hs k hk).1) most (most + 1) p hp hz.2 (by omega)
  rw [e, denF_succ hs]
theorem Inv.subs {S : St} {ow : List Nat} {z : Nat → Nat} {most : Nat} (h : Inv S ow z most) : ∀ (n p : Nat), z p ≤ n → p < S.sl.length → p ∉ S.fl → ∀ T ∈ subsN (denF S.sl most p), TreeIn S most T
  | 0, p, hn, hp, _, _, _ => by have := (h.size p _ (List.getElem?_eq_getElem hp)).1; omega
  | n + 1, p, hn, hp, hf, T, hT => by
    have hs := List.getElem?_eq_getElem hp
    have hd := h.den hp
    rw [hd] at hT
    simp only [subsN, List.mem_cons] at hT
    rcases hT with rfl | hT
    · exact ⟨p, hp, hf, hd⟩
    · obtain ⟨t, ht, hT⟩ := subsL_mem.1 hT
      obtain ⟨k, hk, rfl⟩ := List.mem_map.1 ht
      obtain ⟨k1, k2⟩ := h.kids p _ hs k hk
      have e1 := (h.size p _ hs).1
      have e2 := le_sum (z := z) hk
      exact h.subs n k (by omega) k1 k2 T hT
theorem subs_self (t : Nd) : t ∈ subsN t := by cases t; simp [subsN]
theorem subs_trans {a b c : Nd} : a ∈ subsN b → b ∈ subsN c → a ∈ subsN c := by
  suffices H : ∀ n (c : Nd), cntN c ≤ n → ∀ a b, a ∈ subsN b → b ∈ subsN c → a ∈ subsN c from fun h1 h2 => H _ c (Nat.le_refl _) a b h1 h2
  intro n
  induction n with
  | zero => intro c hc; have := cntN_pos c; omega
  | succ n ih =>
    intro c hc a b h1 h2
    obtain ⟨h, l⟩ := c
    simp only [subsN, List.mem_cons] at h2 ⊢
    rcases h2 with rfl | h2
    · simpa [subsN] using h1
    · right
      obtain ⟨t, ht, hb⟩ := subsL_mem.1 h2
      refine subsL_mem.2 ⟨t, ht, ih t ?_ a b h1 hb⟩
      have e : cntN (.mk h l) = cntL l + 1 := cntN_mk _
      obtain ⟨i, hi, rfl⟩ := List.getElem_of_mem ht
      have := cntL_at hi
      omega
/-- What is laid is just what is within the roots' trees. -/
theorem Inv.trees {S : St} {z : Nat → Nat} {most : Nat} (h : Inv S [] z most) (T : Nd) : TreeIn S most T ↔ ∃ j : Nat, (j : Int) ∈ S.roots ∧ T ∈ subsN (denF S.sl most j) := by
  constructor
  · rintro ⟨p, hp, hf, rfl⟩
    have key : ∀ n p, most - z p ≤ n → p < S.sl.length → p ∉ S.fl → ∃ j : Nat, (j : Int) ∈ S.roots ∧ denF S.sl most p ∈ subsN (denF S.sl most j) := by
      intro n
      induction n with
      | zero =>
        intro p hn hp hf
        have hs := List.getElem?_eq_getElem hp
        have hz := h.size p _ hs
        have hr := h.refs p _ hs
        have h0 : S.sl[p].refs ≠ 0 := fun e => by have := h.ow p _ hs hf e; cases this
        rcases Nat.eq_zero_or_pos (cntK S.sl p) with hc | hc
        · have : 0 < S.roots.count (p : Int) := by omega
          exact ⟨p, List.count_pos_iff.1 this, subs_self _⟩
        · exfalso
          have hc' : 1 ≤ cntS (S.sl.map SN.sl) p := by rw [cntS_sl]; exact hc
          obtain ⟨y, t, ht, hm⟩ := cntS_in hc'
          obtain ⟨s, hs', rfl⟩ := sl_at ht
          have hm' : (p : Int) ∈ intL s.ks := hm
          unfold intL at hm'
          obtain ⟨k, hk, e⟩ := List.mem_map.1 hm'
          have : k = p := by omega
          subst this
          have e1 := h.size y s hs'
          have e2 := le_sum (z := z) hk
          omega
      | succ n ih =>
        intro p hn hp hf
        have hs := List.getElem?_eq_getElem hp
        have hr := h.refs p _ hs
        have h0 : S.sl[p].refs ≠ 0 := fun e => by have := h.ow p _ hs hf e; cases this
        rcases Nat.eq_zero_or_pos (cntK S.sl p) with hc | hc
        · have : 0 < S.roots.count (p : Int) := by omega
          exact ⟨p, List.count_pos_iff.1 this, subs_self _⟩
        · have hc' : 1 ≤ cntS (S.sl.map SN.sl) p := by rw [cntS_sl]; exact hc
          obtain ⟨y, t, ht, hm⟩ := cntS_in hc'
          obtain ⟨s, hs', rfl⟩ := sl_at ht
          have hm' : (p : Int) ∈ intL s.ks := hm
          unfold intL at hm'
          obtain ⟨k, hk, e⟩ := List.mem_map.1 hm'
          have : k = p := by omega
          subst this
          have e1 := h.size y s hs'
          have e2 := le_sum (z := z) hk
          have hyl := (List.getElem?_eq_some_iff.1 hs').1
          have hyf : y ∉ S.fl := fun hm => by
            obtain ⟨s2, hs2, _, b, _⟩ := h.free y hm
            rw [hs'] at hs2; cases hs2
            rw [b] at hk; cases hk
          obtain ⟨j, hj, hT⟩ := ih y (by omega) hyl hyf
          refine ⟨j, hj, subs_trans ?_ hT⟩
          have hys : S.sl[y] = s := (List.getElem?_eq_some_iff.1 hs').2
          rw [h.den hyl, hys]
          simp only [subsN, List.mem_cons]
          exact .inr (subsL_mem.2 ⟨_, List.mem_map.2 ⟨k, hk, rfl⟩, subs_self _⟩)
    exact key _ p (Nat.le_refl _) hp hf
  · rintro ⟨j, hj, hT⟩
    rcases h.roots _ hj with e | ⟨i, e, h1, h2⟩
    · omega
    · have : j = i := by omega
      subst this
      exact h.subs _ j (Nat.le_refl _) h1 h2 T hT
open Classical in
theorem nodup_leC {α : Type} : ∀ {L c : List α}, L.Nodup → (∀ x ∈ L, x ∈ c) → L.length ≤ c.length
  | [], _, _, _ => Nat.zero_le _
  | x :: L, c, hn, h => by
    have hx := h x (by simp)
    have h2 := List.nodup_cons.1 hn
    have := nodup_leC (L := L) (c := c.erase x) h2.2 (fun y hy => (List.mem_erase_of_ne (fun e => h2.1 (by rw [← e]; exact hy))).2 (h y (by simp [hy])))
    rw [List.length_erase_of_mem hx] at this
    have := List.length_pos_of_mem hx
    simp only [List.length_cons]
    omega
theorem nodup_mapC {α β : Type} {f : α → β} : ∀ {L : List α}, L.Nodup → (∀ x ∈ L, ∀ y ∈ L, f x = f y → x = y) → (L.map f).Nodup
  | [], _, _ => by simp
  | x :: L, hn, h => by
    have h2 := List.nodup_cons.1 hn
    rw [List.map_cons]
    refine List.nodup_cons.2 ⟨fun hm => ?_, nodup_mapC h2.2 (fun a ha b hb => h a (by simp [ha]) b (by simp [hb]))⟩
    obtain ⟨y, hy, e⟩ := List.mem_map.1 hm
    have := h y (by simp [hy]) x (by simp) e
    subst this
    exact h2.1 hy
theorem Inv.live {S : St} {z : Nat → Nat} {most : Nat} (h : Inv S [] z most) (p : Nat) : p ∈ liveL (S.sl.map SN.sl) ↔ p < S.sl.length ∧ p ∉ S.fl := by
  rw [liveL_mem]
  constructor
  · rintro ⟨t, ht, hr⟩
    obtain ⟨s, hs, rfl⟩ := sl_at ht
    have hr' : (0 : Int) < (s.refs : Int) := hr
    refine ⟨(List.getElem?_eq_some_iff.1 hs).1, fun hm => ?_⟩
    obtain ⟨s', hs', h0⟩ := (h.zero p).1 hm
    rw [hs] at hs'; cases hs'; omega
  · rintro ⟨hp, hf⟩
    have hs := List.getElem?_eq_getElem hp
    refine ⟨_, by rw [List.getElem?_map, hs]; rfl, ?_⟩
    show (0 : Int) < ((S.sl[p].refs : Nat) : Int)
    have : S.sl[p].refs ≠ 0 := fun e => hf ((h.zero p).2 ⟨_, hs, e⟩)
    omega
/-- Arenas with the same trees have as many that live. -/
theorem live_le {S S' : St} {z z' : Nat → Nat} {most : Nat} (h : Inv S [] z most) (h' : Inv S' [] z' most) (hT : ∀ T, TreeIn S most T → TreeIn S' most T) : liveN (S.sl.map SN.sl) ≤ liveN (S'.sl.map SN.sl) := by
  have hnd : ((liveL (S.sl.map SN.sl)).map (denF S.sl most)).Nodup := nodup_mapC (List.Pairwise.filter _ List.nodup_range) (fun x hx y hy e => by
    obtain ⟨x1, x2⟩ := (h.live x).1 hx
    obtain ⟨y1, y2⟩ := (h.live y).1 hy
    exact denF_inj h most most x y x1 x2 y1 y2 (h.size x _ (List.getElem?_eq_getElem x1)).2 (h.size y _ (List.getElem?_eq_getElem y1)).2 e)
  have := nodup_leC (c := (liveL (S'.sl.map SN.sl)).map (denF S'.sl most)) hnd (fun T hm => by
    obtain ⟨p, hp, e⟩ := List.mem_map.1 hm
    obtain ⟨p1, p2⟩ := (h.live p).1 hp
    obtain ⟨q, q1, q2, e2⟩ := hT T ⟨p, p1, p2, e⟩
    exact List.mem_map.2 ⟨q, (h'.live q).2 ⟨q1, q2⟩, e2⟩)
  rw [List.length_map, List.length_map, liveL_len, liveL_len] at this
  exact this
end Go.Proofs.Ytoocafcagelbgaa
/- A release leaves the trees of what stays. -/
namespace Go.Proofs.Ytoocafcagelbgaa
open Go.RowKit

theorem Same.refl (S : St) : Same S S := fun _ s hs hf => ⟨hf, s, hs, rfl, rfl⟩
theorem relS_same : ∀ (f i : Nat) (S : St), Same (relS f S i) S
  | 0, i, S => by unfold relS; exact Same.refl S
  | f + 1, i, S => by
    cases hs : S.sl[i]? with
    | none => unfold relS; rw [hs]; exact Same.refl S
    | some s =>
      by_cases hm : 1 < s.refs
      · rw [relS_more hs hm]
        intro j t ht hj
        rcases set_in ht with ⟨rfl, rfl⟩ | ⟨_, h'⟩
        · exact ⟨hj, s, hs, rfl, rfl⟩
        · exact ⟨hj, t, h', rfl, rfl⟩
      · rw [relS_last hs hm]
        have key : ∀ (l : List Nat) (T : St), Same (l.foldl (relS f) T) T := by
          intro l
          induction l with
          | nil => intro T; exact Same.refl T
          | cons k l ih => intro T; rw [List.foldl_cons]; exact (ih _).trans (relS_same f k T)
        refine (key _ _).trans fun j t ht hj => ?_
        have hj' : j ∉ i :: S.fl := hj
        have hji : j ≠ i := fun e => hj' (by simp [e])
        rcases set_in ht with ⟨rfl, _⟩ | ⟨_, h'⟩
        · exact absurd rfl hji
        · exact ⟨fun hm => hj' (by simp [hm]), t, h', rfl, rfl⟩
/-- What a handle's tree is, in a fit arena. -/
noncomputable def treeA (a : Ar) (p : Nat) : Nd := denF (toSt a).sl 1048576 p
/-- What Drop leaves: its handles, and their trees as they were. -/
theorem drop_trees {a : Ar} (h : fitAB a 1048576 = true) : ∃ d : Nat → Nat, (∀ (i : Nat) (s : Sl), a.slots[i]? = some s → ∀ k ∈ s.kids.map Int.toNat, d k < d i) ∧ ∀ (j p : Nat), a.roots[j]? = some (p : Int) → fitAB (dropS a d j p).ar 1048576 = true ∧ (dropS a d j p).roots = a.roots.set j (-1) ∧ ∃ z', Inv (dropS a d j p) [] z' 1048576 ∧ ∀ q, q < (dropS a d j p).sl.length → q ∉ (dropS a d j p).fl → denF (dropS a d j p).sl 1048576 q = denF (toSt a).sl 1048576 q := by
  obtain ⟨d, h1, h2⟩ := drop_fit h
  refine ⟨d, h1, fun j p hjp => ?_⟩
  obtain ⟨h3, z', h4⟩ := h2 j p hjp
  refine ⟨h3, relS_roots _ _ _, z', h4, fun q q1 q2 => ?_⟩
  exact (denF_same h4 (relS_same (d p + 1) p { toSt a with roots := a.roots.set j (-1) }) 1048576 q q1 q2).symm
end Go.Proofs.Ytoocafcagelbgaa
