/- The other way round: a rank and sizes make trees fit. -/
import Derived.Test.YtoocafcagelbgaaAMath3
namespace Go.Proofs.Ytoocafcagelbgaa
open Go.RowKit

/-- Kids come ahead. -/
def PostL (K : Nat → List Nat) : (Nat → Prop) → List Nat → Prop
  | _, [] => True
  | D, x :: l => (∀ k ∈ K x, D k) ∧ PostL K (fun y => D y ∨ y = x) l
theorem PostL.mono {K : Nat → List Nat} : ∀ {l : List Nat} {D E : Nat → Prop}, PostL K D l → (∀ y, D y → E y) → PostL K E l
  | [], _, _, _, _ => trivial
  | _ :: _, _, _, ⟨h1, h2⟩, hd => ⟨fun k hk => hd k (h1 k hk), h2.mono (fun _ hy => hy.imp (hd _) id)⟩
theorem PostL.app {K : Nat → List Nat} : ∀ {a b : List Nat} {D : Nat → Prop}, PostL K D a → PostL K (fun y => D y ∨ y ∈ a) b → PostL K D (a ++ b)
  | [], b, D, _, h => h.mono (fun y hy => hy.elim id (fun h => by cases h))
  | x :: a, b, D, ⟨h1, h2⟩, h => ⟨h1, PostL.app h2 (h.mono (fun y hy => by
      rcases hy with hy | hy
      · exact .inl (.inl hy)
      · rcases List.mem_cons.1 hy with rfl | hy
        · exact .inl (.inr rfl)
        · exact .inr hy))⟩
theorem szK_congr {c z : Nat → Nat} {most : Nat} : ∀ {ks : List Nat} {s : Nat}, (∀ k ∈ ks, c k = z k) → szK c most s ks = szK z most s ks
  | [], s, _ => rfl
  | k :: ks, s, h => by
    simp only [szK]
    rw [h k (by simp), szK_congr (ks := ks) (fun x hx => h x (by simp [hx]))]
theorem szK_sum {c : Nat → Nat} {most : Nat} : ∀ {ks : List Nat} {s : Nat}, (∀ k ∈ ks, 1 ≤ c k) → s + (ks.map c).sum ≤ most → szK c most s ks = some (s + (ks.map c).sum)
  | [], s, _, _ => by simp [szK]
  | k :: ks, s, h, hs => by
    rw [List.map_cons, List.sum_cons] at hs ⊢
    simp only [szK]
    have := h k (by simp)
    rw [if_neg (by omega), if_neg (by omega), szK_sum (fun x hx => h x (by simp [hx])) (by omega)]
    congr 1
    omega
theorem szAll_some {K : Nat → List Nat} {most : Nat} {z : Nat → Nat} : ∀ {l : List Nat} {D : Nat → Prop} {c : Nat → Nat}, PostL K D l → (∀ y, D y → c y = z y) → (∀ x ∈ l, szK z most 1 (K x) = some (z x)) → (szAll K most c l).isSome = true
  | [], _, _, _, _, _ => rfl
  | x :: l, D, c, ⟨h1, h2⟩, hc, hz => by
    unfold szAll
    rw [szK_congr (z := z) (fun k hk => hc k (h1 k hk)), hz x (by simp)]
    refine szAll_some h2 (fun y hy => ?_) (fun y hy => hz y (by simp [hy]))
    show (if y = x then z x else c y) = z y
    split
    · rename_i e; rw [e]
    · rename_i e
      rcases hy with hy | hy
      · exact hc y hy
      · exact absurd hy e
/-- What a walk leaves, where a rank falls. -/
structure Walked (K : Nat → List Nat) (n : Nat) (D : Nat → Prop) (ps : List Nat) (m m' : List Bool) (out : List Nat) : Prop where
  met : ∀ x, x < n → m'.getD x true = true → m.getD x true = true ∨ x ∈ out
  all : ∀ p ∈ ps, D p ∨ p ∈ out
  post : PostL K D out
theorem walked_row {K : Nat → List Nat} {n : Nat} {d : Nat → Nat} {g : List Bool → Nat → List Bool × List Nat} {u : Nat} (hgr : ∀ m p, Grows m (g m p).1)
    (hg : ∀ (m : List Bool) (p : Nat) (D : Nat → Prop), m.length = n → p < n → unmet m < u → (∀ x, x < n → m.getD x true = true → D x ∨ d p < d x) → Walked K n D [p] m (g m p).1 (g m p).2) (B : Nat) :
    ∀ (l : List Nat) (m : List Bool) (D : Nat → Prop), m.length = n → (∀ k ∈ l, k < n ∧ d k < B) → unmet m < u → (∀ x, x < n → m.getD x true = true → D x ∨ B ≤ d x) → Walked K n D l m (wkRow g m l).1 (wkRow g m l).2
  | [], m, D, _, _, _, _ => ⟨fun x _ h => .inl h, fun p hp => (by cases hp), trivial⟩
  | k :: l, m, D, hm, hl, hu, hd => by
    have hk := hl k (by simp)
    have h1 := hg m k D hm hk.1 hu (fun x hx h => (hd x hx h).imp id (fun h => by omega))
    have h2 := walked_row hgr hg B l (g m k).1 (fun y => D y ∨ y ∈ (g m k).2) (by rw [(hgr m k).len]; exact hm) (fun x hx => hl x (by simp [hx])) (Nat.lt_of_le_of_lt (hgr m k).un hu) (fun x hx h => by
      rcases h1.met x hx h with h' | h'
      · rcases hd x hx h' with h3 | h3
        · exact .inl (.inl h3)
        · exact .inr h3
      · exact .inl (.inr h'))
    simp only [wkRow]
    refine ⟨fun x hx h => ?_, fun p hp => ?_, h1.post.app h2.post⟩
    · rcases h2.met x hx h with h' | h'
      · rcases h1.met x hx h' with h3 | h3
        · exact .inl h3
        · exact .inr (List.mem_append.2 (.inl h3))
      · exact .inr (List.mem_append.2 (.inr h'))
    · rcases List.mem_cons.1 hp with rfl | hp
      · rcases h1.all p (by simp) with h' | h'
        · exact .inl h'
        · exact .inr (List.mem_append.2 (.inl h'))
      · rcases h2.all p hp with (h' | h') | h'
        · exact .inl h'
        · exact .inr (List.mem_append.2 (.inl h'))
        · exact .inr (List.mem_append.2 (.inr h'))
theorem walked_wk {K : Nat → List Nat} {n : Nat} {d : Nat → Nat} (hK : ∀ p, ∀ k ∈ K p, k < n ∧ d k < d p) : ∀ (f : Nat) (m : List Bool) (p : Nat) (D : Nat → Prop), m.length = n → p < n → unmet m < f → (∀ x, x < n → m.getD x true = true → D x ∨ d p < d x) → Walked K n D [p] m (wk K f m p).1 (wk K f m p).2
  | 0, _, _, _, _, _, h, _ => absurd h (Nat.not_lt_zero _)
  | f + 1, m, p, D, hm, hp, hu, hd => by
    unfold wk
    by_cases h : m.getD p true = true
    · rw [if_pos h]
      refine ⟨fun x _ h => .inl h, fun q hq => ?_, trivial⟩
      simp only [List.mem_singleton] at hq
      subst hq
      rcases hd q hp h with h' | h'
      · exact .inl h'
      · omega
    · rw [if_neg h]
      have hf : m.getD p true = false := by simpa using h
      have hus := unmet_set hf
      have hset : ∀ x, (m.set p true).getD x true = true → m.getD x true = true ∨ x = p := fun x hx => by
        by_cases e : x = p
        · exact .inr e
        · left
          rw [List.getD_eq_getElem?_getD, List.getElem?_set, if_neg (fun h => e h.symm)] at hx
          rw [List.getD_eq_getElem?_getD]; exact hx
      have h2 := walked_row (u := f) (grows_wk K f) (fun m p D a b c e => walked_wk hK f m p D a b c e) (d p) (K p) (m.set p true) D (by simpa using hm) (hK p) (by omega) (fun x hx h => by
        rcases hset x h with h' | rfl
        · exact (hd x hx h').imp id (fun h => by omega)
        · exact .inr (Nat.le_refl _))
      refine ⟨fun x hx h => ?_, fun q hq => ?_, h2.post.app ⟨fun k hk => h2.all k hk, trivial⟩⟩
      · rcases h2.met x hx h with h' | h'
        · rcases hset x h' with h3 | rfl
          · exact .inl h3
          · exact .inr (by simp)
        · exact .inr (List.mem_append.2 (.inl h'))
      · simp only [List.mem_singleton] at hq
        subst hq
        exact .inr (by simp)
theorem PostL.closed {K : Nat → List Nat} : ∀ {l : List Nat} {D : Nat → Prop}, PostL K D l → ∀ y ∈ l, ∀ k ∈ K y, D k ∨ k ∈ l
  | x :: l, D, ⟨h1, h2⟩, y, hy, k, hk => by
    rcases List.mem_cons.1 hy with rfl | hy
    · exact .inl (h1 k hk)
    · rcases h2.closed y hy k hk with (h | h) | h
      · exact .inl h
      · exact .inr (by simp [h])
      · exact .inr (by simp [h])
theorem bound_of (d : Nat → Nat) : ∀ n, ∃ B, ∀ i, i < n → d i < B
  | 0 => ⟨0, fun i h => by omega⟩
  | n + 1 => by
    obtain ⟨B, hB⟩ := bound_of d n
    refine ⟨B + d n + 1, fun i hi => ?_⟩
    by_cases e : i = n
    · subst e; omega
    · have := hB i (by omega); omega
theorem cntS_in {l : List Sl} {x : Nat} (h : 1 ≤ cntS l x) : ∃ (y : Nat) (s : Sl), l[y]? = some s ∧ (x : Int) ∈ s.kids := by
  unfold cntS at h
  have key : ∀ (l : List Sl), 1 ≤ (l.map fun s => s.kids.count (x : Int)).sum → ∃ s ∈ l, (x : Int) ∈ s.kids := by
    intro l
    induction l with
    | nil => intro h; simp at h
    | cons s l ih =>
      intro h
      rw [List.map_cons, List.sum_cons] at h
      by_cases hs : (x : Int) ∈ s.kids
      · exact ⟨s, by simp, hs⟩
      · rw [List.count_eq_zero.2 hs, Nat.zero_add] at h
        obtain ⟨t, ht, h2⟩ := ih h
        exact ⟨t, by simp [ht], h2⟩
  obtain ⟨s, hs, hx⟩ := key l h
  obtain ⟨y, hy, rfl⟩ := List.getElem_of_mem hs
  exact ⟨y, _, List.getElem?_eq_getElem hy, hx⟩
theorem rN_in {xs : List Int} {x : Nat} (h : (x : Int) ∈ xs) : x ∈ rN xs := by
  unfold rN
  exact List.mem_map.2 ⟨(x : Int), List.mem_filter.2 ⟨h, by simp⟩, by simp⟩
/-- Trees fit where a rank falls, sizes are bounded, and refs are exact. -/
theorem treesB_of {l : List Sl} {roots : List Int} {most : Nat} {d z : Nat → Nat} (hk : ∀ (i : Nat) (s : Sl), l[i]? = some s → ∀ k ∈ s.kids, ∃ j : Nat, k = j ∧ j < l.length ∧ d j < d i)
    (hr : ∀ p ∈ roots, p = -1 ∨ ∃ j : Nat, p = j ∧ j < l.length) (hrefs : ∀ (i : Nat) (s : Sl), l[i]? = some s → s.refs = (cntR l roots i : Int)) (hzero : ∀ (i : Nat) (s : Sl), l[i]? = some s → s.refs = 0 → s.kids = [])
    (hz : ∀ (i : Nat) (s : Sl), l[i]? = some s → z i = 1 + ((s.kids.map Int.toNat).map z).sum ∧ z i ≤ most) : treesB l roots most = true := by
  obtain ⟨B, hB⟩ := bound_of d l.length
  have hK : ∀ p, ∀ k ∈ Kf l p, k < l.length ∧ d k < d p := fun p k hk' => by
    unfold Kf at hk'
    cases hs : l[p]? with
    | none => rw [hs] at hk'; cases hk'
    | some s =>
      rw [hs] at hk'
      obtain ⟨x, hx, rfl⟩ := List.mem_map.1 hk'
      obtain ⟨j, rfl, h1, h2⟩ := hk p s hs x hx
      simpa using ⟨h1, h2⟩
  have hrl : ∀ k ∈ rN roots, k < l.length ∧ d k < B := fun k hk' => by
    have := rN_mem hk' (fun p hp => (hr p hp).imp id (fun ⟨j, e, _⟩ => by omega))
    rcases hr _ this with e | ⟨j, e, hj⟩
    · omega
    · have : k = j := by omega
      subst this
      exact ⟨hj, hB k hj⟩
  have hw := walked_row (K := Kf l) (n := l.length) (d := d) (u := l.length + 1) (grows_wk (Kf l) (l.length + 1)) (fun m p D a b c e => walked_wk hK (l.length + 1) m p D a b c e) B (rN roots) (List.replicate l.length false) (fun _ => False) (by simp) hrl (by unfold unmet; simp) (fun x hx h => by
    rw [List.getD_eq_getElem?_getD, List.getElem?_replicate, if_pos hx] at h; cases h)
  have hpost : PostL (Kf l) (fun _ => False) (allP l roots) := hw.post
  have hclo := fun y hy k hk' => (hpost.closed y hy k hk').resolve_left (fun h => h)
  have hall : ∀ p ∈ rN roots, p ∈ allP l roots := fun p hp => (hw.all p hp).resolve_left (fun h => h)
  have ht := told_all l roots
  unfold treesB
  rw [Bool.and_eq_true]
  refine ⟨szAll_some (z := z) hpost (fun _ h => h.elim) (fun x hx => ?_), decide_eq_true ?_⟩
  · have hxl := allP_in l roots x hx
    have hs := List.getElem?_eq_getElem hxl
    rw [Kf_some hs]
    obtain ⟨h1, h2⟩ := hz x _ hs
    rw [szK_sum (fun k hk' => ?_) (by omega)]
    · rw [h1]
    · obtain ⟨y, hy, rfl⟩ := List.mem_map.1 hk'
      obtain ⟨j, rfl, hj, _⟩ := hk x _ hs y hy
      have := (hz j _ (List.getElem?_eq_getElem hj)).1
      simp only [Int.toNat_natCast]
      omega
  · have hin : ∀ n i, B - d i ≤ n → i ∈ liveL l → i ∈ allP l roots := by
      intro n
      induction n with
      | zero =>
        intro i hi hl
        obtain ⟨s, hs, _⟩ := liveL_mem.1 hl
        have := hB i (List.getElem?_eq_some_iff.1 hs).1
        omega
      | succ n ih =>
        intro i hi hl
        obtain ⟨s, hs, hpos⟩ := liveL_mem.1 hl
        have e := hrefs i s hs
        unfold cntR at e
        by_cases h0 : 1 ≤ cntS l i
        · obtain ⟨y, t, hy, hm⟩ := cntS_in h0
          have hty : t.refs ≠ 0 := fun h => by rw [hzero y t hy h] at hm; cases hm
          have hey := hrefs y t hy
          have hyl : y ∈ liveL l := liveL_mem.2 ⟨t, hy, by omega⟩
          obtain ⟨j, ej, hj, hd⟩ := hk y t hy _ hm
          have : i = j := by omega
          subst this
          have hyB := hB y (List.getElem?_eq_some_iff.1 hy).1
          have hya := ih y (by omega) hyl
          exact hclo y hya i (by rw [Kf_some hy]; exact List.mem_map.2 ⟨_, hm, by simp⟩)
        · have : 1 ≤ roots.count (i : Int) := by omega
          exact hall i (rN_in (List.count_pos_iff.1 this))
    have hsub : ∀ x ∈ allP l roots, x ∈ liveL l := fun x hx => by
      have hxl := allP_in l roots x hx
      have e := hrefs x _ (List.getElem?_eq_getElem hxl)
      refine liveL_mem.2 ⟨_, List.getElem?_eq_getElem hxl, ?_⟩
      rw [e]
      unfold cntR
      rcases ht.src x hx with h | ⟨y, hy, h⟩
      · have : 1 ≤ roots.count (x : Int) := List.count_pos_iff.2 (rN_mem h (fun p hp => (hr p hp).imp id (fun ⟨j, e, _⟩ => by omega)))
        omega
      · have hyl := allP_in l roots y hy
        rw [Kf_some (List.getElem?_eq_getElem hyl)] at h
        obtain ⟨k, hk', rfl⟩ := List.mem_map.1 h
        obtain ⟨j, rfl, _⟩ := hk y _ (List.getElem?_eq_getElem hyl) k hk'
        have : 1 ≤ cntS l j := cntS_pos (List.getElem?_eq_getElem hyl) hk'
        simp only [Int.toNat_natCast]
        omega
    have hlnd : (liveL l).Nodup := List.Pairwise.filter _ List.nodup_range
    have a1 := nodup_leN ht.nd hsub
    have a2 := nodup_leN hlnd (fun i hi => hin B i (by omega) hi)
    rw [← liveL_len]
    omega
end Go.Proofs.Ytoocafcagelbgaa
