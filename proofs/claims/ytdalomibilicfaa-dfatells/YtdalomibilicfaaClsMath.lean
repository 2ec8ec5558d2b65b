/- Classes of states: numbers as they are met; round by round; till nothing changes. -/
import Derived.Test.YtdalomibilicfaaOMap
namespace Go.Proofs.Ytdalomibilicfaa
open Go.RowKit

def addK {κ : Type} [DecidableEq κ] (L : List κ) (k : κ) : List κ := if k ∈ L then L else L ++ [k]
section
variable {κ : Type} [DecidableEq κ]
/-- Things met one after another: their numbers, and what is known behind. -/
def meetL : List κ → List κ → List Int
  | _, [] => []
  | L, k :: ks => (idxK (addK L k) k : Int) :: meetL (addK L k) ks
def knownL : List κ → List κ → List κ
  | L, [] => L
  | L, k :: ks => knownL (addK L k) ks
theorem addK_mem (L : List κ) (k : κ) : k ∈ addK L k := by
  unfold addK
  split
  · assumption
  · simp
theorem addK_nd {L : List κ} (h : L.Nodup) (k : κ) : (addK L k).Nodup := by
  unfold addK
  split
  · exact h
  · rename_i hm
    exact List.nodup_append.2 ⟨h, by simp, fun a ha c hc => by simp at hc; subst hc; exact fun e => hm (e ▸ ha)⟩
theorem addK_pre (L : List κ) (k : κ) : L <+: addK L k := by
  unfold addK
  split
  · exact List.prefix_refl _
  · exact ⟨[k], rfl⟩
theorem addK_sub {L : List κ} {k x : κ} : x ∈ addK L k ↔ x ∈ L ∨ x = k := by
  unfold addK
  split
  · constructor
    · exact .inl
    · rintro (h | rfl)
      · exact h
      · assumption
  · simp
theorem knownL_pre : ∀ (ks L : List κ), L <+: knownL L ks
  | [], _ => List.prefix_refl _
  | k :: ks, L => (addK_pre L k).trans (knownL_pre ks _)
theorem knownL_nd : ∀ (ks : List κ) {L : List κ}, L.Nodup → (knownL L ks).Nodup
  | [], _, h => h
  | k :: ks, _, h => knownL_nd ks (addK_nd h k)
theorem knownL_mem : ∀ (ks L : List κ) (x : κ), x ∈ knownL L ks ↔ x ∈ L ∨ x ∈ ks
  | [], L, x => by simp [knownL]
  | k :: ks, L, x => by
    unfold knownL
    rw [knownL_mem ks, addK_sub]
    simp only [List.mem_cons]
    exact or_assoc
theorem idxK_pre {L M : List κ} (h : L <+: M) {k : κ} (hk : k ∈ L) : idxK M k = idxK L k := by
  obtain ⟨t, rfl⟩ := h
  unfold idxK
  rw [List.idxOf_append, if_pos hk]
theorem idxK_inj {L : List κ} {a b : κ} (ha : a ∈ L) (hb : b ∈ L) (h : idxK L a = idxK L b) : a = b := by
  have h1 := idxK_get ha
  rw [h, idxK_get hb] at h1
  exact (Option.some.inj h1).symm
theorem idxK_at {L : List κ} (h : L.Nodup) {i : Nat} {x : κ} (hi : L[i]? = some x) : idxK L x = i := by
  have hm := List.mem_of_getElem? hi
  exact (List.getElem?_inj (idxK_lt hm) h).1 ((idxK_get hm).trans hi.symm)
/-- Each is met by its number in what is known at the end. -/
theorem meetL_eq : ∀ (ks L : List κ), meetL L ks = ks.map (fun k => (idxK (knownL L ks) k : Int))
  | [], L => rfl
  | k :: ks, L => by
    unfold meetL knownL
    rw [meetL_eq ks, List.map_cons, idxK_pre (knownL_pre ks _) (addK_mem L k)]
theorem meetL_len (ks L : List κ) : (meetL L ks).length = ks.length := by rw [meetL_eq]; simp
theorem meetL_grow : ∀ (ks L : List κ), growB L.length (meetL L ks) ∧ behB L.length (meetL L ks) = (knownL L ks).length
  | [], L => ⟨trivial, rfl⟩
  | k :: ks, L => by
    obtain ⟨h1, h2⟩ := meetL_grow ks (addK L k)
    unfold meetL knownL growB behB
    by_cases hm : k ∈ L
    · have e : addK L k = L := by unfold addK; rw [if_pos hm]
      rw [e] at h1 h2 ⊢
      have hl := idxK_lt hm
      rw [if_neg (by omega)]
      exact ⟨⟨by omega, h1⟩, h2⟩
    · have e : addK L k = L ++ [k] := by unfold addK; rw [if_neg hm]
      rw [e] at h1 h2 ⊢
      rw [idxK_snoc hm, if_pos rfl]
      simp only [List.length_append, List.length_cons, List.length_nil, Nat.zero_add, Int.natCast_add, Int.natCast_one] at h1 h2
      exact ⟨⟨Int.le_refl _, h1⟩, h2⟩
end
/-- The class of a state, or of none. -/
def clsOf (c : List Int) (a : Int) : Int := if a < 0 then 0 else (c[a.toNat]?).getD 0
def okS (N : Nat) (a : Int) : Prop := -1 ≤ a ∧ a < N
/-- Numbers of the states by what f says of each. -/
theorem numbered {κ : Type} [DecidableEq κ] (N : Nat) (f : Int → κ) {c : List Int} (hc : c = meetL [f (-1)] ((List.range N).map fun i => f (i : Nat))) :
    c.length = N ∧ growB 1 c ∧ (∀ x ∈ c, 0 ≤ x) ∧ ∀ a b, okS N a → okS N b → (clsOf c a = clsOf c b ↔ f a = f b) := by
  have hl : c.length = N := by rw [hc, meetL_len]; simp
  have hg := (meetL_grow ((List.range N).map fun i => f (i : Nat)) [f (-1)]).1
  have hmem : ∀ a, okS N a → f a ∈ knownL [f (-1)] ((List.range N).map fun i => f (i : Nat)) := by
    intro a ha
    rw [knownL_mem]
    unfold okS at ha
    by_cases h0 : a = -1
    · left; rw [h0]; simp
    · right
      refine List.mem_map.2 ⟨a.toNat, List.mem_range.2 (by omega), ?_⟩
      rw [Int.toNat_of_nonneg (by omega)]
  have h0 : idxK (knownL [f (-1)] ((List.range N).map fun i => f (i : Nat))) (f (-1)) = 0 := by
    rw [idxK_pre (knownL_pre _ _) (by simp)]
    simp [idxK]
  have hcl : ∀ a, okS N a → clsOf c a = idxK (knownL [f (-1)] ((List.range N).map fun i => f (i : Nat))) (f a) := by
    intro a ha
    unfold okS at ha
    unfold clsOf
    by_cases hn : a < 0
    · obtain rfl : a = -1 := by omega
      rw [if_pos hn, h0]; rfl
    · rw [if_neg hn, hc, meetL_eq]
      have : a.toNat < N := by omega
      simp only [List.getElem?_map, List.getElem?_range this, Option.map_some, Option.getD_some]
      rw [Int.toNat_of_nonneg (by omega)]
  refine ⟨hl, by rw [hc]; exact hg, fun x hx => ?_, fun a b ha hb => ?_⟩
  · rw [hc, meetL_eq] at hx
    obtain ⟨k, _, rfl⟩ := List.mem_map.1 hx
    omega
  · rw [hcl a ha, hcl b hb]
    constructor
    · intro h; exact idxK_inj (hmem a ha) (hmem b hb) (by omega)
    · intro h; rw [h]
theorem growB_all : ∀ (c : List Int) (b : Int), growB b c → (∀ x ∈ c, x < behB b c) ∧ ∀ i, b ≤ i → i < behB b c → i ∈ c
  | [], b, _ => ⟨fun x hx => (by simp at hx), fun i h1 h2 => by unfold behB at h2; omega⟩
  | x :: c, b, h => by
    unfold growB at h
    unfold behB
    have hb := behB_ge c (if x = b then b + 1 else b)
    obtain ⟨h1, h2⟩ := growB_all c _ h.2
    refine ⟨fun y hy => ?_, fun i hi hi2 => ?_⟩
    · rcases List.mem_cons.1 hy with rfl | hy
      · by_cases e : y = b
        · rw [if_pos e] at hb ⊢; omega
        · rw [if_neg e] at hb ⊢; omega
      · exact h1 y hy
    · by_cases e : i = x
      · rw [e]; simp
      · refine List.mem_cons.2 (.inr (h2 i ?_ hi2))
        split <;> omega
/-- Two rows of numbers that tell the same apart are the same. -/
theorem cls_one {c d : List Int} (hl : c.length = d.length) (gc : growB 1 c) (gd : growB 1 d) (pc : ∀ x ∈ c, 0 ≤ x) (pd : ∀ x ∈ d, 0 ≤ x)
    (h : ∀ a b, okS c.length a → okS c.length b → (clsOf c a = clsOf c b ↔ clsOf d a = clsOf d b)) : c = d := by
  have key : ∀ {c : List Int}, growB 1 c → (∀ x ∈ c, 0 ≤ x) → ∀ i, 0 ≤ i → i < behB 1 c → ∃ a, okS c.length a ∧ clsOf c a = i := by
    intro c gc pc i h0 h1
    by_cases e : i = 0
    · exact ⟨-1, ⟨Int.le_refl _, by omega⟩, by rw [e]; rfl⟩
    · have hm := (growB_all c 1 gc).2 i (by omega) h1
      obtain ⟨j, hj⟩ := List.getElem?_of_mem hm
      have hjl := (List.getElem?_eq_some_iff.1 hj).1
      refine ⟨j, ⟨by omega, by omega⟩, ?_⟩
      unfold clsOf
      rw [if_neg (by omega), Int.toNat_natCast, hj]; rfl
  have hcl : ∀ {c : List Int} (i : Nat), i < c.length → clsOf c i = c.getD i 0 := by
    intro c i hi
    unfold clsOf
    rw [if_neg (by omega), Int.toNat_natCast]; rfl
  refine (grow_one (fun i a => okS c.length a ∧ clsOf c a = i) (fun i a => okS c.length a ∧ clsOf d a = i) (behB 1 c) (behB 1 d) ?_ ?_ c d 1 gc gd (fun x hx => ⟨pc x hx, (growB_all c 1 gc).1 x hx⟩) (fun x hx => ⟨pd x hx, (growB_all d 1 gd).1 x hx⟩) ?_ (by omega) ?_ (behB_ge _ _) (behB_ge _ _)).1
  · intro i j hi hi2 hj hj2 he
    obtain ⟨a, ha, hai⟩ := key gc pc i hi hi2
    have := (congrFun he a).mp ⟨ha, hai⟩
    rw [← hai, this.2]
  · intro i j hi hi2 hj hj2 he
    obtain ⟨a, ha, hai⟩ := key gd pd i hi hi2
    rw [← hl] at ha
    have := (congrFun he a).mp ⟨ha, hai⟩
    rw [← hai, this.2]
  · apply List.ext_getElem
    · simp [hl]
    · intro i h1 h2
      simp only [List.length_map] at h1 h2
      simp only [List.getElem_map]
      funext a
      have e1 := hcl (c := c) i h1
      have e2 := hcl (c := d) i h2
      simp only [List.getD, List.getElem?_eq_getElem h1, List.getElem?_eq_getElem h2, Option.getD_some] at e1 e2
      have hi : okS c.length (i : Int) := ⟨by omega, by omega⟩
      apply propext
      constructor
      · rintro ⟨ha, hh⟩
        exact ⟨ha, by rw [← e2]; exact (h a i ha hi).1 (by rw [hh, e1])⟩
      · rintro ⟨ha, hh⟩
        exact ⟨ha, by rw [← e1]; exact (h a i ha hi).2 (by rw [hh, e2])⟩
  · intro i h0 h1
    obtain rfl : i = 0 := by omega
    funext a
    have hm : okS c.length (-1) := ⟨Int.le_refl _, by omega⟩
    apply propext
    constructor
    · rintro ⟨ha, hh⟩; exact ⟨ha, (h a (-1) ha hm).1 hh⟩
    · rintro ⟨ha, hh⟩; exact ⟨ha, (h a (-1) ha hm).2 hh⟩
/-- No text of so many bytes tells them apart. -/
def eqK (l : List Ds) (k : Nat) (a b : Int) : Prop := ∀ w : List Int, w.length ≤ k → resD l a w = resD l b w
theorem eqK_zero (l : List Ds) (a b : Int) : eqK l 0 a b ↔ accD l a = accD l b := by
  constructor
  · intro h; exact h [] (Nat.le_refl _)
  · intro h w hw
    obtain rfl : w = [] := List.eq_nil_of_length_eq_zero (by omega)
    exact h
theorem eqK_succ (l : List Ds) (k : Nat) (a b : Int) : eqK l (k + 1) a b ↔ eqK l k a b ∧ ∀ c, eqK l k (ledD l a c) (ledD l b c) := by
  constructor
  · intro h
    exact ⟨fun w hw => h w (by omega), fun c w hw => h (c :: w) (by simp; omega)⟩
  · rintro ⟨h1, h2⟩ w hw
    cases w with
    | nil => exact h1 [] (by simp)
    | cons c w => exact h2 c w (by simp at hw; omega)
/-- The classes of a round. -/
structure Cls (l : List Ds) (k : Nat) (c : List Int) : Prop where
  len : c.length = l.length
  grow : growB 1 c
  pos : ∀ x ∈ c, 0 ≤ x
  tell : ∀ a b, okS l.length a → okS l.length b → (clsOf c a = clsOf c b ↔ eqK l k a b)
theorem Cls.same {l : List Ds} {k m : Nat} {c d : List Int} (hc : Cls l k c) (hd : Cls l m d) (h : ∀ a b, okS l.length a → okS l.length b → (eqK l k a b ↔ eqK l m a b)) : c = d :=
  cls_one (by rw [hc.len, hd.len]) hc.grow hd.grow hc.pos hd.pos (fun a b ha hb => by
    rw [hc.len] at ha hb
    rw [hc.tell a b ha hb, hd.tell a b ha hb]; exact h a b ha hb)
theorem led_ok {l : List Ds} (hf : fitD l) {a : Int} (_h : okS l.length a) (c : Int) : okS l.length (ledD l a c) := by
  unfold ledD nextA
  cases hx : arcOf (arcsD l a) c with
  | none => exact ⟨Int.le_refl _, by simp only; omega⟩
  | some x =>
    have hm := (arcOf_mem hx).1
    simp only
    by_cases h0 : 0 ≤ a
    · have hl : a.toNat < l.length := by unfold okS at _h; omega
      have := (hf.at hl).2 x (by rw [Int.toNat_of_nonneg h0]; exact hm)
      exact ⟨by omega, this.2⟩
    · unfold arcsD at hm
      rw [if_neg h0] at hm
      cases hm
/-- Nothing changes: nothing ever tells them apart. -/
theorem cls_stay {l : List Ds} (hf : fitD l) {k : Nat} (h : ∀ a b, okS l.length a → okS l.length b → eqK l k a b → eqK l (k + 1) a b) : ∀ (m : Nat) a b, okS l.length a → okS l.length b → eqK l k a b → eqK l (k + m) a b
  | 0, a, b, _, _, he => he
  | m + 1, a, b, ha, hb, he => by
    have h1 := (eqK_succ l k a b).1 (h a b ha hb he)
    rw [show k + (m + 1) = (k + m) + 1 by omega, eqK_succ]
    exact ⟨cls_stay hf h m a b ha hb he, fun c => cls_stay hf h m _ _ (led_ok hf ha c) (led_ok hf hb c) (h1.2 c)⟩
theorem cls_all {l : List Ds} (hf : fitD l) {k : Nat} {c : List Int} (hc : Cls l k c) (hd : Cls l (k + 1) c) : ∀ a b, okS l.length a → okS l.length b → (clsOf c a = clsOf c b ↔ resD l a = resD l b) := by
  intro a b ha hb
  rw [hc.tell a b ha hb]
  constructor
  · intro h
    funext w
    exact cls_stay hf (fun a b ha hb he => (hd.tell a b ha hb).1 ((hc.tell a b ha hb).2 he)) w.length a b ha hb h w (by omega)
  · intro h w _; rw [h]
def prs (n : Nat) : List (Int × Int) := (List.range (n + 1)).flatMap fun i : Nat => (List.range (n + 1)).map fun j : Nat => ((i : Int) - 1, (j : Int) - 1)
/-- How many pairs are of one class. -/
def cntP (c : List Int) : Nat := ((prs c.length).filter fun p => clsOf c p.1 == clsOf c p.2).length
theorem filter_lt {α : Type} (p q : α → Bool) (h : ∀ x, q x = true → p x = true) : ∀ l : List α, (l.filter q).length ≤ (l.filter p).length ∧ ((∃ x ∈ l, p x = true ∧ q x = false) → (l.filter q).length < (l.filter p).length)
  | [] => ⟨Nat.le_refl _, fun ⟨x, hx, _⟩ => (by cases hx)⟩
  | y :: l => by
    obtain ⟨h1, h2⟩ := filter_lt p q h l
    by_cases hq : q y = true
    · have hp := h y hq
      rw [List.filter_cons_of_pos hq, List.filter_cons_of_pos hp]
      simp only [List.length_cons]
      refine ⟨by omega, fun ⟨x, hx, hx2⟩ => ?_⟩
      rcases List.mem_cons.1 hx with rfl | hx
      · rw [hq] at hx2; cases hx2.2
      · have := h2 ⟨x, hx, hx2⟩; omega
    · rw [List.filter_cons_of_neg hq]
      by_cases hp : p y = true
      · rw [List.filter_cons_of_pos hp]
        simp only [List.length_cons]
        exact ⟨by omega, fun _ => by omega⟩
      · rw [List.filter_cons_of_neg hp]
        refine ⟨h1, fun ⟨x, hx, hx2⟩ => ?_⟩
        rcases List.mem_cons.1 hx with rfl | hx
        · exact absurd hx2.1 hp
        · exact h2 ⟨x, hx, hx2⟩
theorem cls_less {l : List Ds} {k : Nat} {c d : List Int} (hc : Cls l k c) (hd : Cls l (k + 1) d) (hne : d ≠ c) : cntP d < cntP c := by
  have hlen : d.length = c.length := by rw [hc.len, hd.len]
  unfold cntP
  rw [hlen]
  have hex : ∃ a b, okS l.length a ∧ okS l.length b ∧ eqK l k a b ∧ ¬ eqK l (k + 1) a b := by
    apply Classical.byContradiction
    intro hno
    apply hne
    refine (hc.same hd (fun a b ha hb => ⟨fun h => ?_, fun h => ((eqK_succ l k a b).1 h).1⟩)).symm
    exact Classical.byContradiction fun h2 => hno ⟨a, b, ha, hb, h, h2⟩
  have hin : ∀ a b, okS l.length a → okS l.length b → (a, b) ∈ prs c.length := by
    intro a b ha hb
    unfold okS at ha hb
    have := hc.len
    unfold prs
    refine List.mem_flatMap.2 ⟨(a + 1).toNat, List.mem_range.2 (by omega), List.mem_map.2 ⟨(b + 1).toNat, List.mem_range.2 (by omega), ?_⟩⟩
    rw [Int.toNat_of_nonneg (by omega), Int.toNat_of_nonneg (by omega)]
    simp
  have hsub : ∀ p ∈ prs c.length, okS l.length p.1 ∧ okS l.length p.2 := by
    intro p hp
    unfold prs at hp
    obtain ⟨i, hi, hp⟩ := List.mem_flatMap.1 hp
    obtain ⟨j, hj, rfl⟩ := List.mem_map.1 hp
    have h1 := List.mem_range.1 hi
    have h2 := List.mem_range.1 hj
    have := hc.len
    exact ⟨⟨by simp only; omega, by simp only; omega⟩, ⟨by simp only; omega, by simp only; omega⟩⟩
  generalize prs c.length = ps at hin hsub ⊢
  have hfil : ps.filter (fun p => clsOf d p.1 == clsOf d p.2) = ps.filter (fun p => clsOf c p.1 == clsOf c p.2 && clsOf d p.1 == clsOf d p.2) := by
    apply List.filter_congr
    intro p hp
    obtain ⟨h1, h2⟩ := hsub p hp
    by_cases he : clsOf d p.1 = clsOf d p.2
    · have h3 := (eqK_succ l k _ _).1 ((hd.tell _ _ h1 h2).1 he)
      simp [he, (hc.tell _ _ h1 h2).2 h3.1]
    · simp [he]
  rw [hfil]
  refine (filter_lt _ _ (fun x hx => by simp at hx ⊢; exact hx.1) ps).2 ?_
  obtain ⟨a, b, ha, hb, h1, h2⟩ := hex
  refine ⟨(a, b), hin a b ha hb, ?_, ?_⟩
  · simpa using (hc.tell a b ha hb).2 h1
  · have : ¬ clsOf d a = clsOf d b := fun he => h2 ((hd.tell a b ha hb).1 he)
    simp [this]
end Go.Proofs.Ytdalomibilicfaa
