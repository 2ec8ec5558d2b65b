/- Stacks: what the document's with, Push and Merge make, as lists. -/
import Derived.Test.YtjpbfckdiojghaaMMath
namespace Go.Proofs.Ytjpbfckdiojghaa
open Go.RowKit

theorem base_map (l : List Gn) (f st pl : Int) : (pushL l f st pl).map spG = (base1 l st pl).map spG := by
  apply List.ext_getElem?
  intro i
  rw [List.getElem?_map, List.getElem?_map, push_at]
  cases (base1 l st pl)[i]? <;> rfl
theorem base_up {l : List Gn} (h : UpG l) (st pl : Int) : UpG (base1 l st pl) := by
  rw [spG_up, ← base_map l 0 st pl, ← spG_up]
  exact push_up h 0 st pl
theorem base_len (l : List Gn) (st pl : Int) : (base1 l st pl).length = if thereB l (pl, st) = true then l.length else l.length + 1 := by
  rw [← push_len l 0 st pl]
  have := congrArg List.length (base_map l 0 st pl)
  simpa using this.symm
theorem base_new {l : List Gn} {st pl : Int} (h : thereB l (pl, st) = false) : (base1 l st pl)[posG l (pl, st)]? = some ⟨st, pl, []⟩ := by
  unfold base1
  rw [h]
  simp only [Bool.false_eq_true, if_false]
  exact openG_at (posG_le _ _)
theorem base_fit {l : List Gn} (h : fitP l) {st pl : Int} (hs : numB st = true) (hp : numB pl = true) (hl : thereB l (pl, st) = false → l.length < 4096) : fitP (base1 l st pl) := by
  refine fit_of ?_ (base_up h.up st pl) (fun x hx => ?_)
  · rw [base_len]
    split
    · exact h.1
    · rename_i ht
      have := hl (by simpa using ht)
      omega
  · obtain ⟨k, hk⟩ := List.getElem?_of_mem hx
    rcases base_inv hk with ⟨t, ka, rfl⟩ | ⟨j, hj, ka, z, hz, rfl⟩
    · exact ⟨hs, hp, by unfold UpL; simp, fun j hj => by simp at hj⟩
    · have h0 := h.at_ hz
      refine ⟨h0.1, h0.2.1, ?_, fun i hi => ?_⟩
      · show UpL (z.links.map (sg l st pl))
        unfold UpL
        rw [List.pairwise_map]
        exact h0.2.2.1.imp (fun h => sg_lt h)
      · obtain ⟨j', hj', rfl⟩ := List.mem_map.1 (show i ∈ z.links.map (sg l st pl) from hi)
        obtain ⟨hj0, y, hy, hle⟩ := h0.2.2.2 j' hj'
        refine ⟨sg_ge hj0, sgG l st pl y, ?_, hle⟩
        rw [base_sg l st pl j' hj0, hy]; rfl
theorem there_spot {l : List Gn} (h : UpG l) {s : Sp} : thereB l s = true ↔ VG l s := by
  constructor
  · intro ht
    obtain ⟨hl, e⟩ := there_lt ht
    exact ⟨_, List.getElem_mem hl, e⟩
  · rintro ⟨x, hx, rfl⟩
    obtain ⟨i, hi⟩ := List.getElem?_of_mem hx
    obtain ⟨hl, rfl⟩ := List.getElem?_eq_some_iff.1 hi
    have hp : posG l (spG l[i]) = i := posG_eq (by omega) (fun t ht hti => h.at ht hl hti) (fun _ => ltS_irrefl _)
    unfold thereB
    rw [hp, hi]
    simp
theorem base_spots {l : List Gn} {st pl : Int} (t : Sp) : VG (base1 l st pl) t ↔ VG l t ∨ (thereB l (pl, st) = false ∧ t = (pl, st)) := by
  constructor
  · rintro ⟨x, hx, rfl⟩
    obtain ⟨k, hk⟩ := List.getElem?_of_mem hx
    rcases base_inv hk with ⟨t, ka, rfl⟩ | ⟨j, hj, ka, z, hz, rfl⟩
    · exact .inr ⟨t, rfl⟩
    · exact .inl ⟨z, List.mem_of_getElem? hz, rfl⟩
  · rintro (⟨x, hx, rfl⟩ | ⟨ht, rfl⟩)
    · obtain ⟨i, hi⟩ := List.getElem?_of_mem hx
      have := base_sg l st pl i (by omega)
      simp only [Int.toNat_natCast] at this
      rw [hi] at this
      exact ⟨_, List.mem_of_getElem? this, rfl⟩
    · exact ⟨_, List.mem_of_getElem? (base_new ht), rfl⟩
theorem base_edges {l : List Gn} (hf : fitP l) {st pl : Int} (s t : Sp) : EG (base1 l st pl) s t ↔ EG l s t := by
  constructor
  · rintro ⟨x, hx, rfl, j, hj, hj0, y, hy, rfl⟩
    obtain ⟨k, hk⟩ := List.getElem?_of_mem hx
    rcases base_inv hk with ⟨t, ka, rfl⟩ | ⟨i, hi, ka, z, hz, rfl⟩
    · simp at hj
    · obtain ⟨j', hj', rfl⟩ := List.mem_map.1 (show j ∈ z.links.map (sg l st pl) from hj)
      have hzm := List.mem_of_getElem? hz
      have hj'0 := (hf.links z hzm j' hj').1
      rw [base_sg l st pl j' hj'0] at hy
      obtain ⟨y', hy', rfl⟩ := Option.map_eq_some_iff.1 hy
      exact ⟨z, hzm, rfl, j', hj', hj'0, y', hy', rfl⟩
  · rintro ⟨x, hx, rfl, j, hj, hj0, y, hy, rfl⟩
    obtain ⟨i, hi⟩ := List.getElem?_of_mem hx
    have h1 := base_sg l st pl i (by omega)
    simp only [Int.toNat_natCast] at h1
    rw [hi] at h1
    refine ⟨_, List.mem_of_getElem? h1, rfl, sg l st pl j, List.mem_map_of_mem hj, sg_ge hj0, sgG l st pl y, ?_, rfl⟩
    rw [base_sg l st pl j hj0, hy]; rfl
theorem set_getG {l : List Gn} {p : Nat} {x : Gn} (hx : l[p]? = some x) (y : Gn) (he : spG y = spG x) (k : Nat) : ((l.set p y)[k]?).map spG = (l[k]?).map spG := by
  by_cases e : p = k
  · subst e
    rw [List.getElem?_set_self (List.getElem?_eq_some_iff.1 hx).1, hx]
    simp [he]
  · rw [List.getElem?_set_ne e]
theorem set_map {l : List Gn} {p : Nat} {x : Gn} (hx : l[p]? = some x) (y : Gn) (he : spG y = spG x) : (l.set p y).map spG = l.map spG := by
  apply List.ext_getElem?
  intro k
  rw [List.getElem?_map, List.getElem?_map, set_getG hx y he]
/-- One link more. -/
theorem add_link {l : List Gn} (hf : fitP l) {p q : Nat} {x z : Gn} (hx : l[p]? = some x) (hz : l[q]? = some z) (hle : z.pl ≤ x.pl) :
    fitP (l.set p ⟨x.st, x.pl, putL q x.links⟩) ∧ (∀ s, VG (l.set p ⟨x.st, x.pl, putL q x.links⟩) s ↔ VG l s) ∧ ∀ s t, EG (l.set p ⟨x.st, x.pl, putL q x.links⟩) s t ↔ EG l s t ∨ (s = spG x ∧ t = spG z) := by
  have hpl := (List.getElem?_eq_some_iff.1 hx).1
  have hm := set_map hx ⟨x.st, x.pl, putL q x.links⟩ rfl
  have hv : ∀ s, VG (l.set p ⟨x.st, x.pl, putL q x.links⟩) s ↔ VG l s := fun s => by
    have h1 : ∀ m : List Gn, VG m s ↔ s ∈ m.map spG := fun m => by unfold VG; rw [List.mem_map]
    rw [h1, h1, hm]
  have up : ∀ (j : Nat) (y : Gn), l[j]? = some y → ∃ y', (l.set p ⟨x.st, x.pl, putL q x.links⟩)[j]? = some y' ∧ spG y' = spG y := fun j y hy => by
    have h1 := set_getG hx ⟨x.st, x.pl, putL q x.links⟩ rfl j
    rw [hy] at h1
    obtain ⟨y', h2, h3⟩ := Option.map_eq_some_iff.1 h1
    exact ⟨y', h2, h3⟩
  have down : ∀ (j : Nat) (y' : Gn), (l.set p ⟨x.st, x.pl, putL q x.links⟩)[j]? = some y' → ∃ y, l[j]? = some y ∧ spG y' = spG y := fun j y' hy => by
    have h1 := set_getG hx ⟨x.st, x.pl, putL q x.links⟩ rfl j
    rw [hy] at h1
    obtain ⟨y, h2, h3⟩ := Option.map_eq_some_iff.1 h1.symm
    exact ⟨y, h2, h3.symm⟩
  refine ⟨fit_of (by simpa using hf.1) (by rw [spG_up, hm, ← spG_up]; exact hf.up) (fun y hy => ?_), hv, fun s t => ⟨?_, ?_⟩⟩
  · obtain ⟨k, hk⟩ := List.getElem?_of_mem hy
    by_cases e : p = k
    · subst e
      rw [List.getElem?_set_self hpl] at hk
      cases hk
      have h0 := hf.at_ hx
      refine ⟨h0.1, h0.2.1, up_putL h0.2.2.1, fun j hj => ?_⟩
      rcases mem_putL.1 hj with rfl | hj
      · obtain ⟨z', h1, h2⟩ := up q z hz
        exact ⟨by omega, z', by simpa using h1, by have := congrArg Prod.fst h2; simp only [spG] at this; show z'.pl ≤ x.pl; omega⟩
      · obtain ⟨hj0, y, hy, hl⟩ := h0.2.2.2 j hj
        obtain ⟨y', h1, h2⟩ := up _ y hy
        exact ⟨hj0, y', h1, by have := congrArg Prod.fst h2; simp only [spG] at this; show y'.pl ≤ x.pl; omega⟩
    · rw [List.getElem?_set_ne e] at hk
      have h0 := hf.at_ hk
      refine ⟨h0.1, h0.2.1, h0.2.2.1, fun j hj => ?_⟩
      obtain ⟨hj0, y, hy, hl⟩ := h0.2.2.2 j hj
      obtain ⟨y', h1, h2⟩ := up _ y hy
      exact ⟨hj0, y', h1, by have := congrArg Prod.fst h2; simp only [spG] at this; omega⟩
  · rintro ⟨y, hy, rfl, j, hj, hj0, y', hy', rfl⟩
    obtain ⟨k, hk⟩ := List.getElem?_of_mem hy
    obtain ⟨u, hu, eu⟩ := down _ _ hy'
    rw [eu]
    by_cases e : p = k
    · subst e
      rw [List.getElem?_set_self hpl] at hk
      cases hk
      rcases mem_putL.1 hj with rfl | hj
      · right
        simp only [Int.toNat_natCast] at hu
        rw [hz] at hu; cases hu
        exact ⟨rfl, rfl⟩
      · exact .inl ⟨x, List.mem_of_getElem? hx, rfl, j, hj, hj0, u, hu, rfl⟩
    · rw [List.getElem?_set_ne e] at hk
      exact .inl ⟨y, List.mem_of_getElem? hk, rfl, j, hj, hj0, u, hu, rfl⟩
  · rintro (⟨y, hy, rfl, j, hj, hj0, u, hu, rfl⟩ | ⟨rfl, rfl⟩)
    · obtain ⟨k, hk⟩ := List.getElem?_of_mem hy
      obtain ⟨u', h1, h2⟩ := up _ u hu
      rw [← h2]
      by_cases e : p = k
      · subst e
        rw [hx] at hk; cases hk
        exact ⟨_, List.mem_of_getElem? (List.getElem?_set_self hpl), rfl, j, mem_putL.2 (.inr hj), hj0, u', h1, rfl⟩
      · exact ⟨y, List.mem_of_getElem? (by rw [List.getElem?_set_ne e]; exact hk), rfl, j, hj, hj0, u', h1, rfl⟩
    · obtain ⟨z', h1, h2⟩ := up q z hz
      exact ⟨_, List.mem_of_getElem? (List.getElem?_set_self hpl), rfl, q, mem_putL.2 (.inl rfl), by omega, z', by simpa using h1, h2⟩
theorem find_none {l : List Gn} {s t : Int} : ∀ (k : Nat), (∀ x ∈ l, ¬ (x.st = s ∧ x.pl = t)) → findN s t l k = -1 := by
  induction l with
  | nil => intro k _; rfl
  | cons x l ih =>
    intro k h
    unfold findN
    rw [if_neg (h x (by simp))]
    exact ih (k + 1) (fun y hy => h y (by simp [hy]))
theorem find_spot {l : List Gn} (h : UpG l) {k : Nat} {y : Gn} (hy : l[k]? = some y) {s t : Int} (e : spG y = (t, s)) : findN s t l 0 = k := by
  have h1 := find_up h hy
  have e1 : y.pl = t := congrArg Prod.fst e
  have e2 : y.st = s := congrArg Prod.snd e
  rw [← e1, ← e2]; exact h1
theorem find_not {l : List Gn} {s t : Int} (h : ¬ VG l (t, s)) : findN s t l 0 = -1 := find_none 0 (fun x hx e => h ⟨x, hx, by unfold spG; rw [e.1, e.2]⟩)
theorem there_at {l : List Gn} {s : Sp} (h : thereB l s = true) : ∃ y, l[posG l s]? = some y ∧ spG y = s := by
  obtain ⟨hl, e⟩ := there_lt h
  exact ⟨_, List.getElem?_eq_getElem hl, e⟩
end Go.Proofs.Ytjpbfckdiojghaa
