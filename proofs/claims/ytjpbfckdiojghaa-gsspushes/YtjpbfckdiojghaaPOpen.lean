/- Stacks: the program's opened: a stack of one's own with one node more, links told anew. -/
import Derived.Test.YtjpbfckdiojghaaPIns
namespace Go.Proofs.Ytjpbfckdiojghaa
open Go.RowKit

def inc1 (i0 : Nat) (j : Int) : Int := if (i0 : Int) ≤ j then j + 1 else j
def incG (i0 : Nat) (x : Gn) : Gn := ⟨x.st, x.pl, x.links.map (inc1 i0)⟩
def openG (i0 : Nat) (x : Gn) (l : List Gn) : List Gn := (l.map (incG i0)).take i0 ++ [x] ++ (l.map (incG i0)).drop i0
theorem flatG_take : ∀ (L : List GnV) (i : Nat), (L.flatMap encG).take (i * 3) = (L.take i).flatMap encG
  | [], i => by simp
  | p :: L, 0 => by simp
  | p :: L, i + 1 => by
    rw [List.flatMap_cons, List.take_succ_cons, List.flatMap_cons, ← flatG_take L i, List.take_append, encG_len, List.take_of_length_le (by rw [encG_len]; omega)]
    congr 2; omega
theorem flatG_drop : ∀ (L : List GnV) (i : Nat), (L.flatMap encG).drop (i * 3) = (L.drop i).flatMap encG
  | [], i => by simp
  | p :: L, 0 => by simp
  | p :: L, i + 1 => by
    rw [List.flatMap_cons, List.drop_succ_cons, ← flatG_drop L i, List.drop_append, encG_len, List.drop_of_length_le (by rw [encG_len]; omega), List.nil_append]
    congr 1; omega
theorem flatG_set (L : List GnV) (i : Nat) (x y : Gn) (u : Value) (h : L[i]? = some (x, u)) (h1 : y.st = x.st) (h2 : y.pl = x.pl) : (L.set i (y, u)).flatMap encG = L.flatMap encG := by
  have e : (L.set i (y, u)).map encG = L.map encG := by
    rw [List.map_set]
    apply List.ext_getElem?
    intro j
    rw [List.getElem?_set]
    split
    · rename_i hj
      subst hj
      rw [List.getElem?_map, h]
      have := (List.getElem?_eq_some_iff.1 h).1
      simp [encG, h1, h2, this]
    · rfl
  rw [List.flatMap_def, List.flatMap_def, e]
theorem OwnS.partAt {B : Nat} {L : List GnV} {v : Value} {W : World} (h : OwnS B L v W) {i j : Nat} {p q : GnV} (hi : L[i]? = some p) (hj : L[j]? = some q) (hij : i ≠ j) : ∀ k, p.2.ownBlock = some k → q.2.ownBlock ≠ some k := by
  obtain ⟨hi1, rfl⟩ := List.getElem?_eq_some_iff.1 hi
  obtain ⟨hj1, rfl⟩ := List.getElem?_eq_some_iff.1 hj
  intro k hk hk'
  rcases Nat.lt_or_ge i j with h1 | h1
  · exact List.pairwise_iff_getElem.1 h.part i j hi1 hj1 h1 k hk hk'
  · exact List.pairwise_iff_getElem.1 h.part j i hj1 hi1 (by omega) k hk' hk
/-- One link is told anew. -/
theorem OwnS.setLink {B : Nat} {L : List GnV} {v : Value} {W : World} (h : OwnS B L v W) {i k g n c : Nat} {x : Gn} {y : Int} (hi : L[i]? = some (x, .slice (some ⟨g, 0, none⟩) n c)) (hy : i64B y) :
    OwnS B (L.set i (⟨x.st, x.pl, x.links.set k y⟩, .slice (some ⟨g, 0, none⟩) n c)) v (W.setCell ⟨g, k, none⟩ (.int .i64 y)) := by
  have hm := List.mem_of_getElem? hi
  have hil := (List.getElem?_eq_some_iff.1 hi).1
  have hown := (h.links _ hm).own
  have hn : n = x.links.length := by
    rcases hown.2 with ⟨e, _⟩ | ⟨_, _, _, e, _⟩
    · simp at e
    · simp at e; exact e.2.1
  subst hn
  have hb : But (fun j => j = g) W (W.setCell ⟨g, k, none⟩ (.int .i64 y)) := (But.refl _ _).setCell _ _ (.inr rfl)
  have hok := h.ok _ hm
  refine ⟨?_, fun p hp => ?_, ?_, fun p hp => ?_⟩
  · rw [flatG_set L i x ⟨x.st, x.pl, x.links.set k y⟩ _ hi rfl rfl, List.length_set]
    exact ownsRow_keep h.nodes hb (fun j hj e => own_types h.nodes hown (by decide) j hj (by rw [e]; rfl))
  · obtain ⟨j, hj⟩ := List.getElem?_of_mem hp
    by_cases hij : i = j
    · subst hij
      rw [List.getElem?_set_self hil] at hj
      cases hj
      have := World.ownsRow.stored hown k (.int .i64 y)
      unfold OwnI
      simp only [List.length_set, List.map_set]
      exact this.1
    · rw [List.getElem?_set_ne hij] at hj
      exact ownsRow_keep (h.links p (List.mem_of_getElem? hj)) hb (fun b hb e => h.partAt hi hj hij g rfl (by rw [← e]; exact hb))
  · rw [List.pairwise_iff_getElem]
    intro a b ha hb hab q hq hq'
    simp only [List.length_set] at ha hb
    have ea : ((L.set i (⟨x.st, x.pl, x.links.set k y⟩, .slice (some ⟨g, 0, none⟩) x.links.length c))[a]'(by simpa using ha)).2 = L[a].2 := by
      rw [List.getElem_set]
      split
      · rename_i e; subst e
        have := (List.getElem?_eq_some_iff.1 hi).2
        rw [this]
      · rfl
    have eb : ((L.set i (⟨x.st, x.pl, x.links.set k y⟩, .slice (some ⟨g, 0, none⟩) x.links.length c))[b]'(by simpa using hb)).2 = L[b].2 := by
      rw [List.getElem_set]
      split
      · rename_i e; subst e
        have := (List.getElem?_eq_some_iff.1 hi).2
        rw [this]
      · rfl
    rw [ea] at hq
    rw [eb] at hq'
    exact List.pairwise_iff_getElem.1 h.part a b ha hb hab q hq hq'
  · rcases List.mem_or_eq_of_mem_set hp with hp | rfl
    · exact h.ok p hp
    · refine ⟨hok.1, hok.2.1, fun z hz => ?_, by simpa using hok.2.2.2⟩
      rcases List.mem_or_eq_of_mem_set hz with hz | rfl
      · exact hok.2.2.1 z hz
      · exact hy
/-- A node more, with no links, among the others. -/
theorem OwnS.ins {B : Nat} {L : List GnV} {v v' : Value} {W W' : World} (h : OwnS B L v W) (i : Nat) (x : Gn) (hx : x.links = []) (h1 : i64B x.st) (h2 : i64B x.pl) (hi : i ≤ L.length) (hb : But (fun j => v.ownBlock = some j) W W') (hn : W'.ownsRow B 35 3 v' (L.length + 1) ((L.flatMap encG).take (i * 3) ++ encG (x, .slice none 0 0) ++ (L.flatMap encG).drop (i * 3))) : OwnS B (L.take i ++ [(x, .slice none 0 0)] ++ L.drop i) v' W' := by
  have hmem : ∀ p, p ∈ L.take i ++ [(x, Value.slice none 0 0)] ++ L.drop i → p ∈ L ∨ p = (x, .slice none 0 0) := fun p hp => by
    rcases List.mem_append.1 hp with hp | hp
    · rcases List.mem_append.1 hp with hp | hp
      · exact .inl (List.mem_of_mem_take hp)
      · simp at hp; exact .inr hp
    · exact .inl (List.mem_of_mem_drop hp)
  refine ⟨?_, fun p hp => ?_, ?_, fun p hp => ?_⟩
  · rw [flatG_take, flatG_drop] at hn
    have e : (L.take i ++ [(x, Value.slice none 0 0)] ++ L.drop i).length = L.length + 1 := by simp; omega
    rw [e]
    simpa [List.flatMap_append] using hn
  · rcases hmem p hp with hp | rfl
    · exact ownsRow_keep (h.links p hp) hb (fun j hj e => own_types h.nodes (h.links p hp).own (by decide) j e hj)
    · rw [hx]; exact World.ownsRow_nil _ _ _ _
  · have hp := h.part
    rw [← List.take_append_drop i L, List.pairwise_append] at hp
    rw [List.append_assoc, List.pairwise_append, List.singleton_append, List.pairwise_cons]
    refine ⟨hp.1, ⟨fun q _ k hk => (by cases hk), hp.2.1⟩, fun a ha b hb => ?_⟩
    rcases List.mem_cons.1 hb with rfl | hb
    · intro k hk hk'; cases hk'
    · exact hp.2.2 a ha b hb
  · rcases hmem p hp with hp | rfl
    · exact h.ok p hp
    · exact ⟨h1, h2, by rw [hx]; simp, by rw [hx]; simp⟩

set_option maxRecDepth 100000 in
set_option maxHeartbeats 3200000 in
theorem opened_any (B : Nat) (L : List GnV) (v : Value) (i0 : Nat) (x : Gn) (w : World) (hO : OwnS B L v w) (hB : B ≤ w.heap.size) (hi0 : i0 ≤ L.length) (hlen : L.length ≤ 1000000) (hx : x.links = []) (hx1 : i64B x.st) (hx2 : i64B x.pl) (hin : ∀ p ∈ L, ∀ y ∈ p.1.links, 0 ≤ y ∧ y < 1000000) :
    Calls Try.prog 24 #[.agg #[v], .int .i64 i0, .agg #[.int .i64 x.st, .int .i64 x.pl, .slice none 0 0]] w fun e w' => ∃ v' L', e = .returned (.agg #[v']) ∧ L'.map Prod.fst = openG i0 x (L.map Prod.fst) ∧ OwnS B L' v' w' ∧ But (fun k => (∃ p ∈ L, p.2.ownBlock = some k) ∨ v.ownBlock = some k) w w' := by
  have HIN : Hid (∀ p ∈ L, ∀ y ∈ p.1.links, 0 ≤ y ∧ y < 1000000) := hin
  have HO : Hid (OwnS B L v w) := hO
  clear hin hO
  obtain ⟨D0, HD0⟩ : ∃ D0 : Nat → Prop, Hid (D0 = fun k => ∃ p ∈ L, p.2.ownBlock = some k) := ⟨_, rfl⟩
  have HDB : Hid (∀ k, D0 k → B ≤ k ∧ k < w.heap.size) := fun k hk => by
    rw [HD0.out] at hk
    obtain ⟨p, hp, hk⟩ := hk
    exact World.ownsRow.lt (HO.out.links p hp).own k hk
  obtain ⟨va, vc, rfl⟩ := slice_of_ownK HO.out.nodes
  have B0 : Below w.heap.size w (((w.alloc (Obj.cells #[.slice va L.length vc] 24)).alloc (Obj.cells #[.int .i64 x.st, .int .i64 x.pl, .slice none 0 0] 35)).alloc (Obj.cells #[.slice none 0 0] 24)) := (((Below.refl _ _).alloc (Nat.le_refl _) _).alloc (by simp) _).alloc (by simp; omega) _
  have k0 : (((w.alloc (Obj.cells #[.slice va L.length vc] 24)).alloc (Obj.cells #[.int .i64 x.st, .int .i64 x.pl, .slice none 0 0] 35)).alloc (Obj.cells #[.slice none 0 0] 24)).heap[w.heap.size]? = some (Obj.cells #[.slice va L.length vc] 24) := blk_new (blk_new (heap_alloc_new _ _))
  have k1 : (((w.alloc (Obj.cells #[.slice va L.length vc] 24)).alloc (Obj.cells #[.int .i64 x.st, .int .i64 x.pl, .slice none 0 0] 35)).alloc (Obj.cells #[.slice none 0 0] 24)).heap[w.heap.size + 1]? = some (Obj.cells #[.int .i64 x.st, .int .i64 x.pl, .slice none 0 0] 35) := blk_new (by simpa using heap_alloc_new (w.alloc (Obj.cells #[.slice va L.length vc] 24)) (Obj.cells #[.int .i64 x.st, .int .i64 x.pl, .slice none 0 0] 35))
  have k2 : (((w.alloc (Obj.cells #[.slice va L.length vc] 24)).alloc (Obj.cells #[.int .i64 x.st, .int .i64 x.pl, .slice none 0 0] 35)).alloc (Obj.cells #[.slice none 0 0] 24)).heap[w.heap.size + 1 + 1]? = some (Obj.cells #[.slice none 0 0] 24) := by simpa using heap_alloc_new ((w.alloc (Obj.cells #[.slice va L.length vc] 24)).alloc (Obj.cells #[.int .i64 x.st, .int .i64 x.pl, .slice none 0 0] 35)) (Obj.cells #[.slice none 0 0] 24)
  have HSZ : Hid ((((w.alloc (Obj.cells #[.slice va L.length vc] 24)).alloc (Obj.cells #[.int .i64 x.st, .int .i64 x.pl, .slice none 0 0] 35)).alloc (Obj.cells #[.slice none 0 0] 24)).heap.size = w.heap.size + 3) := by show _ = _; simp
  have HO0 : Hid (OwnS B L (.slice va L.length vc) (((w.alloc (Obj.cells #[.slice va L.length vc] 24)).alloc (Obj.cells #[.int .i64 x.st, .int .i64 x.pl, .slice none 0 0] 35)).alloc (Obj.cells #[.slice none 0 0] 24))) := HO.out.next B0
  go_enter Try.func24, Try.ntmps24
  go_wp2_with fail
  generalize (((w.alloc (Obj.cells #[.slice va L.length vc] 24)).alloc (Obj.cells #[.int .i64 x.st, .int .i64 x.pl, .slice none 0 0] 35)).alloc (Obj.cells #[.slice none 0 0] 24)) = w0 at *
  go_loopw [14] (fun iv wr => ∃ (i : Nat), iv = .int .i64 i ∧ i ≤ L.length ∧ Hid (OwnS B ((L.take i).map (fun p => (incG i0 p.1, p.2)) ++ L.drop i) (.slice va L.length vc) wr) ∧ But D0 w0 wr) (fun i _ => L.length - (intOf i).toNat)
  case atStart => exact ⟨0, rfl, Nat.zero_le _, (by have := HO0.out; show OwnS _ _ _ _; simpa using this), But.refl _ _⟩
  case round =>
  obtain ⟨i, rfl, hi, HOI, BR⟩ := hrel
  have HLI : Hid ((((L.take i).map (fun p => ((incG i0 p.1, p.2) : GnV))) ++ L.drop i).length = L.length) := by show _ = _; simp; omega
  have z0 := but_blk BR k0 (fun h => by have := HDB.out _ h; omega)
  have z1 := but_blk BR k1 (fun h => by have := HDB.out _ h; omega)
  have z2 := but_blk BR k2 (fun h => by have := HDB.out _ h; omega)
  have c0 : wr.cell? ⟨w.heap.size, 0, none⟩ = some (.slice va L.length vc) := by rw [Lib.cell_of_heap z0]; rfl
  have c10 : wr.cell? ⟨w.heap.size + 1, 0, none⟩ = some (.int .i64 x.st) := by rw [Lib.cell_of_heap z1]; rfl
  have c11 : wr.cell? ⟨w.heap.size + 1, 1, none⟩ = some (.int .i64 x.pl) := by rw [Lib.cell_of_heap z1]; rfl
  have c12 : wr.cell? ⟨w.heap.size + 1, 2, none⟩ = some (.slice none 0 0) := by rw [Lib.cell_of_heap z1]; rfl
  by_cases hlt : i < L.length
  case neg =>
    obtain rfl : i = L.length := by omega
    have HOM : Hid (OwnS B (L.map fun p => ((incG i0 p.1, p.2) : GnV)) (.slice va L.length vc) wr) := by
      have := HOI.out
      rw [List.take_length, List.drop_length, List.append_nil] at this
      exact this
    have HE : Hid ((L.map fun p => ((incG i0 p.1, p.2) : GnV)).length = L.length ∧ (L.map fun p => ((incG i0 p.1, p.2) : GnV)).map Prod.fst = (L.map Prod.fst).map (incG i0)) := ⟨by simp, by simp [Function.comp_def]⟩
    generalize (L.map fun p => ((incG i0 p.1, p.2) : GnV)) = LM at *
    have HNA : Hid (OwnS B LM (.slice va L.length vc) (wr.alloc (Obj.cells #[.int .i64 x.st, .int .i64 x.pl, .slice none 0 0] 35))) := HOM.out.next ((Below.refl _ _).alloc (Nat.le_refl _) _)
    have hvb : (wr.alloc (Obj.cells #[.int .i64 x.st, .int .i64 x.pl, .slice none 0 0] 35)).heap[wr.heap.size]? = some (.cells (encG (x, .slice none 0 0)).toArray 35 (0, 0)) := heap_alloc_new _ _
    have y2 : (wr.alloc (Obj.cells #[.int .i64 x.st, .int .i64 x.pl, .slice none 0 0] 35)).heap[w.heap.size + 1 + 1]? = some (Obj.cells #[.slice none 0 0] 24) := blk_new z2
    have hwz := BR.size
    have hsz := HSZ.out
    have HBW : Hid (But D0 w (wr.alloc (Obj.cells #[.int .i64 x.st, .int .i64 x.pl, .slice none 0 0] 35))) := ((But.of_next B0).trans BR).trans (But.of_next ((Below.refl _ _).alloc (Nat.le_refl _) _))
    have HN1 : Hid (∀ u ∈ LM.flatMap encG, u.oneCell' = true) := fun u hu => by
      obtain ⟨p, hp, hu⟩ := List.mem_flatMap.1 hu
      obtain ⟨a1, c1, e1⟩ := slice_of_own (HOM.out.links p hp).own
      simp [encG, e1] at hu
      rcases hu with rfl | rfl | rfl <;> rfl
    have HNB : Hid ((Value.slice va L.length vc).ownBlock ≠ some wr.heap.size) := fun e => by
      have := (World.ownsRow.lt HOM.out.nodes _ e).2
      omega
    have HC := insG_any B L.length i0 wr.heap.size (.slice va L.length vc) (LM.flatMap encG) (encG (x, .slice none 0 0)) (wr.alloc (Obj.cells #[.int .i64 x.st, .int .i64 x.pl, .slice none 0 0] 35)) (by have := HNA.out.nodes; rwa [HE.out.1] at this) hi0 rfl hvb HNB.out hlen HN1.out (fun u hu => by simp [encG] at hu; rcases hu with rfl | rfl | rfl <;> rfl) (by simp; omega)
    clear HOI HLI HO HO0 HIN z0 z2 BR B0 k0 k1 k2
    go_wp2_with fail
    refine HC.mono ?_
    rintro e w1 ⟨v', rfl, ho1, hb1, _⟩
    have HR : Hid (OwnS B (LM.take i0 ++ [(x, Value.slice none 0 0)] ++ LM.drop i0) v' w1 ∧ But (fun k => D0 k ∨ (Value.slice va L.length vc).ownBlock = some k) w w1) := by
      refine ⟨HNA.out.ins i0 x hx hx1 hx2 (by rw [HE.out.1]; exact hi0) hb1 (by rw [HE.out.1]; exact ho1), (HBW.out.mono (fun _ _ h => .inl h)).trans (hb1.mono (fun _ _ h => .inr h))⟩
    have x2 : w1.heap[w.heap.size + 1 + 1]? = some (Obj.cells #[.slice none 0 0] 24) := but_blk hb1 y2 (fun e => own_types HNA.out.nodes (show World.ownsRow (wr.alloc (Obj.cells #[.int .i64 x.st, .int .i64 x.pl, .slice none 0 0] 35)) 0 24 1 (.slice (some ⟨w.heap.size + 1 + 1, 0, none⟩) 1 1) 1 [.slice none 0 0] from ⟨rfl, .inr ⟨_, 1, _, rfl, Nat.zero_le _, y2, Nat.le_refl _, by unfold maxLen; omega, rfl, rfl⟩⟩) (by decide) _ e rfl)
    have xf : w1.frozen? ⟨w.heap.size + 1 + 1, 0, none⟩ = false := Lib.frozen_of_heap x2 _
    have xc : w1.cell? ⟨w.heap.size + 1 + 1, 0, none⟩ = some (.slice none 0 0) := by rw [Lib.cell_of_heap x2]; rfl
    obtain ⟨va', vc', rfl⟩ := slice_of_ownK ho1
    have z : (w1.setCell ⟨w.heap.size + 1 + 1, 0, none⟩ (.slice va' (L.length + 1) vc')).heap[w.heap.size + 1 + 1]? = some (Obj.cells #[.slice va' (L.length + 1) vc'] 24) := by
      have := blk_set (o := 0) x2 (.slice va' (L.length + 1) vc')
      simpa using this
    have HF : Hid ((LM.take i0 ++ [(x, Value.slice none 0 0)] ++ LM.drop i0).map Prod.fst = openG i0 x (L.map Prod.fst) ∧ OwnS B (LM.take i0 ++ [(x, Value.slice none 0 0)] ++ LM.drop i0) (.slice va' (L.length + 1) vc') (w1.setCell ⟨w.heap.size + 1 + 1, 0, none⟩ (.slice va' (L.length + 1) vc')) ∧ But (fun k => (∃ p ∈ L, p.2.ownBlock = some k) ∨ (Value.slice va L.length vc).ownBlock = some k) w (w1.setCell ⟨w.heap.size + 1 + 1, 0, none⟩ (.slice va' (L.length + 1) vc'))) := by
      refine ⟨?_, ?_, (HR.out.2.mono (fun k _ h => h.imp (fun h => by rw [HD0.out] at h; exact h) id)).setCell _ _ (.inl (by simp only; omega))⟩
      · unfold openG
        rw [← HE.out.2]
        simp [List.map_append, List.map_take, List.map_drop]
      · have hbb : But (fun k => k = w.heap.size + 1 + 1) w1 (w1.setCell ⟨w.heap.size + 1 + 1, 0, none⟩ (.slice va' (L.length + 1) vc')) := (But.refl _ _).setCell _ _ (.inr rfl)
        have hother : ∀ (n k : Nat) (e : TypeId) (u : Value) (us : List Value), w1.ownsRow B e k u n us → e ≠ 24 → ∀ j, u.ownBlock = some j → ¬ j = w.heap.size + 1 + 1 := fun n k e u us h he j hj ej => own_types h (show World.ownsRow w1 0 24 1 (.slice (some ⟨w.heap.size + 1 + 1, 0, none⟩) 1 1) 1 [.slice none 0 0] from ⟨rfl, .inr ⟨_, 1, _, rfl, Nat.zero_le _, x2, Nat.le_refl _, by unfold maxLen; omega, rfl, rfl⟩⟩) he j hj (by rw [ej]; rfl)
        have h1 := HR.out.1
        exact ⟨ownsRow_keep h1.nodes hbb (hother _ _ _ _ _ h1.nodes (by decide)), fun p hp => ownsRow_keep (h1.links p hp) hbb (hother _ _ _ _ _ (h1.links p hp).own (by decide)), h1.part, h1.ok⟩
    clear HC ho1 hb1 HR HNA HOM HE HBW HN1 HNB hvb y2 x2
    go_wp2_with fail
    refine bodyPost_ret (results_cell1 rfl _ _ _ rfl (run_loadVar_row _ _ _ _ _ _ _ z Try.underlying24 rfl (by kernel_rfl))) rfl ?_
    exact ⟨_, _, rfl, HF.out⟩
  obtain ⟨A, HA⟩ : ∃ A, Hid (A = (L.take i).map (fun p => ((incG i0 p.1, p.2) : GnV))) := ⟨_, rfl⟩
  have HAL : Hid (A.length = i) := by show _ = _; rw [HA.out]; simp; omega
  have HDD : Hid (L.drop i = L[i] :: L.drop (i + 1) ∧ (L.take (i + 1)).map (fun p => ((incG i0 p.1, p.2) : GnV)) = A ++ [((incG i0 L[i].1, L[i].2) : GnV)] ∧ (∀ y ∈ L[i].1.links, 0 ≤ y ∧ y < 1000000)) := ⟨List.drop_eq_getElem_cons hlt, by rw [HA.out, List.take_succ_eq_append_getElem hlt, List.map_append]; rfl, HIN.out _ (List.getElem_mem hlt)⟩
  have HLW0 : Hid (∀ k, L[i].2.ownBlock = some k → D0 k) := fun k hk => by rw [HD0.out]; exact ⟨_, List.getElem_mem hlt, hk⟩
  generalize L[i] = p at *
  obtain ⟨⟨ps, pp, pk⟩, pu⟩ := p
  have HO1 : Hid (OwnS B (A ++ ((⟨ps, pp, pk⟩ : Gn), pu) :: L.drop (i + 1)) (.slice va L.length vc) wr) := by
    have := HOI.out
    rw [← HA.out, HDD.out.1] at this
    exact this
  obtain ⟨D, HD⟩ : ∃ D, Hid (L.drop (i + 1) = D) := ⟨_, rfl⟩
  rw [HD.out] at HO1 HDD
  have HGI : Hid ((A ++ ((⟨ps, pp, pk⟩ : Gn), pu) :: D)[i]? = some ((⟨ps, pp, pk⟩ : Gn), pu) ∧ (A ++ ((⟨ps, pp, pk⟩ : Gn), pu) :: D).length = L.length) := by
    refine ⟨?_, ?_⟩
    · rw [List.getElem?_append_right (by have := HAL.out; omega), HAL.out]; simp
    · have := HLI.out
      rw [← HA.out, HDD.out.1] at this
      exact this
  obtain ⟨g, cap, e0, hg, _, hcell⟩ := own_cells encG_len HO1.out.nodes (by rw [HGI.out.2]; omega)
  rw [HGI.out.2] at e0
  cases e0
  have q0 := hcell i 0 _ _ HGI.out.1 (by omega) rfl
  have q1 := hcell i 1 _ _ HGI.out.1 (by omega) rfl
  have q2 := hcell i 2 _ _ HGI.out.1 (by omega) rfl
  simp only [Nat.add_zero] at q0
  obtain ⟨ua, uc, rfl⟩ := slice_of_own (show wr.ownsRow B 3 1 pu pk.length (pk.map encI) from (HO1.out.links _ (List.mem_of_getElem? HGI.out.1)).own)
  have hkl : pk.length ≤ 1000000 := (HO1.out.ok _ (List.mem_of_getElem? HGI.out.1)).2.2.2
  have hbx : (wr.alloc (Obj.cells #[.int .i64 ps, .int .i64 pp, .slice ua pk.length uc] 35)).heap[wr.heap.size]? = some (Obj.cells #[.int .i64 ps, .int .i64 pp, .slice ua pk.length uc] 35) := heap_alloc_new _ _
  have HOA : Hid (OwnS B (A ++ ((⟨ps, pp, pk⟩ : Gn), .slice ua pk.length uc) :: D) (.slice (some ⟨g, 0, none⟩) L.length vc) (wr.alloc (Obj.cells #[.int .i64 ps, .int .i64 pp, .slice ua pk.length uc] 35))) := HO1.out.next ((Below.refl _ _).alloc (Nat.le_refl _) _)
  have BRA : But D0 w0 (wr.alloc (Obj.cells #[.int .i64 ps, .int .i64 pp, .slice ua pk.length uc] 35)) := BR.trans (But.of_next ((Below.refl _ _).alloc (Nat.le_refl _) _))
  have hrw := BR.size
  have hsz := HSZ.out
  have HLW : Hid (∀ k, (Value.slice ua pk.length uc).ownBlock = some k → D0 k) := HLW0.out
  clear hcell HOI HLI HO HO0 HIN BR
  go_wp2_with fail
  obtain ⟨rb, hrb⟩ : ∃ rb, rb = wr.heap.size := ⟨_, rfl⟩
  have HRB : Hid (w.heap.size ≤ rb) := by show _ ≤ _; omega
  rw [← hrb] at hbx ⊢
  generalize wr.alloc (Obj.cells #[.int .i64 ps, .int .i64 pp, .slice ua pk.length uc] 35) = wa at *
  clear hrb hrw q0 q1 q2 c0 c10 c11 c12 z0 z1 z2 HO1 hg
  go_loopw [21] (fun kv w2 => ∃ (k : Nat), kv = .int .i64 k ∧ k ≤ pk.length ∧ Hid (OwnS B (A ++ ((⟨ps, pp, (pk.take k).map (inc1 i0) ++ pk.drop k⟩ : Gn), .slice ua pk.length uc) :: D) (.slice (some ⟨g, 0, none⟩) L.length vc) w2) ∧ But D0 wa w2) (fun k _ => pk.length - (intOf k).toNat)
  case atStart => exact ⟨0, rfl, Nat.zero_le _, (by have := HOA.out; show OwnS _ _ _ _; simpa using this), But.refl _ _⟩
  case round =>
  obtain ⟨k, rfl, hk, HOK, BK⟩ := hrel
  by_cases hkt : k < pk.length
  case neg =>
    obtain rfl : k = pk.length := by omega
    have HF : Hid (OwnS B ((L.take (i + 1)).map (fun p => ((incG i0 p.1, p.2) : GnV)) ++ D) (.slice (some ⟨g, 0, none⟩) L.length vc) wr ∧ But D0 w0 wr) := by
      refine ⟨?_, BRA.trans BK⟩
      have := HOK.out
      rw [List.take_length, List.drop_length, List.append_nil] at this
      rw [HDD.out.2.1, List.append_assoc]
      exact this
    clear HOK HOA HDD HGI HA HAL BK BRA
    go_wp2_with fail
    exact ⟨⟨i + 1, by go_num, by omega, (by rw [HD.out]; exact HF.out.1), HF.out.2⟩, by simp [intOf]; omega⟩
  have HP : Hid (pk = pk.take k ++ pk[k] :: pk.drop (k + 1) ∧ pk.take (k + 1) = pk.take k ++ [pk[k]] ∧ 0 ≤ pk[k] ∧ pk[k] < 1000000) := by
    have h3 := HDD.out.2.2 pk[k] (List.getElem_mem hkt)
    refine ⟨?_, List.take_succ_eq_append_getElem hkt, h3.1, h3.2⟩
    rw [← List.drop_eq_getElem_cons hkt, List.take_append_drop]
  have HDR : Hid (pk.drop k = pk[k] :: pk.drop (k + 1)) := List.drop_eq_getElem_cons hkt
  have hy := HP.out.2.2
  generalize pk[k] = y at *
  have HTL : Hid ((pk.take k).length = k) := by show _ = _; simp; omega
  have HLS : Hid (((pk.take k).map (inc1 i0) ++ pk.drop k).length = pk.length ∧ (((pk.take k).map (inc1 i0) ++ pk.drop k).map encI)[k]? = some (.int .i64 y)) := by
    refine ⟨by simp; omega, ?_⟩
    rw [HDR.out, List.map_append, List.getElem?_append_right (by simp; omega)]
    simp [encI]
    rw [show k - min k pk.length = 0 by omega]
    rfl
  have HIX : Hid ((A ++ ((⟨ps, pp, (pk.take k).map (inc1 i0) ++ pk.drop k⟩ : Gn), .slice ua pk.length uc) :: D)[i]? = some ((⟨ps, pp, (pk.take k).map (inc1 i0) ++ pk.drop k⟩ : Gn), .slice ua pk.length uc)) := by
    show _ = _
    rw [List.getElem?_append_right (by have := HAL.out; omega), HAL.out]; simp
  have hown : wr.ownsRow B 3 1 (.slice ua pk.length uc) pk.length (((pk.take k).map (inc1 i0) ++ pk.drop k).map encI) := by
    have := (HOK.out.links _ (List.mem_of_getElem? HIX.out)).own
    simp only at this
    rwa [HLS.out.1] at this
  obtain ⟨lg, rfl⟩ : ∃ lg, ua = some ⟨lg, 0, none⟩ := by
    rcases hown.2 with ⟨e, h⟩ | ⟨g', _, _, e, _⟩
    · omega
    · cases e; exact ⟨_, rfl⟩
  have c3 : wr.cell? ⟨lg, k, none⟩ = some (.int .i64 y) := (World.ownsRow.cellAt hown k (by omega)).trans HLS.out.2
  have f3 : wr.frozen? ⟨lg, k, none⟩ = false := World.ownsRow.frozenAt hown k
  have hlg : D0 lg := HLW.out lg rfl
  have zb := but_blk BK hbx (fun h => by have := HRB.out; have := HDB.out _ h; omega)
  have c4 : wr.cell? ⟨rb, 2, none⟩ = some (.slice (some ⟨lg, 0, none⟩) pk.length uc) := by rw [Lib.cell_of_heap zb]; rfl
  clear hown
  by_cases hge : y ≥ (i0 : Int)
  · have dge : decide (y ≥ (i0 : Int)) = true := decide_eq_true hge
    have HS := HOK.out.setLink (k := k) (y := y + 1) HIX.out (by unfold i64B; omega)
    have HF : Hid (OwnS B (A ++ ((⟨ps, pp, (pk.take (k + 1)).map (inc1 i0) ++ pk.drop (k + 1)⟩ : Gn), .slice (some ⟨lg, 0, none⟩) pk.length uc) :: D) (.slice (some ⟨g, 0, none⟩) L.length vc) (wr.setCell ⟨lg, k, none⟩ (.int .i64 (y + 1))) ∧ But D0 wa (wr.setCell ⟨lg, k, none⟩ (.int .i64 (y + 1)))) := by
      refine ⟨?_, BK.setCell _ _ (.inr hlg)⟩
      have e1 : ((pk.take k).map (inc1 i0) ++ pk.drop k).set k (y + 1) = (pk.take (k + 1)).map (inc1 i0) ++ pk.drop (k + 1) := by
        rw [HDR.out, HP.out.2.1, List.set_append_right _ _ (by simp; omega)]
        simp [show k - min k pk.length = 0 by omega, inc1, hge]
      have e2 : ∀ z : GnV, (A ++ ((⟨ps, pp, (pk.take k).map (inc1 i0) ++ pk.drop k⟩ : Gn), Value.slice (some ⟨lg, 0, none⟩) pk.length uc) :: D).set i z = A ++ z :: D := fun z => by
        rw [List.set_append_right _ _ (by have := HAL.out; omega), HAL.out]; simp
      rw [e2, e1] at HS
      exact HS
    clear HS HOK HOA HDD HGI HA HAL BK BRA HIX HLS HTL HP HDR HLW
    go_wp2_with fail
    exact ⟨⟨k + 1, by go_num, by omega, HF.out.1, HF.out.2⟩, by simp [intOf]; omega⟩
  · have dge : decide (y ≥ (i0 : Int)) = false := decide_eq_false hge
    have HF : Hid (OwnS B (A ++ ((⟨ps, pp, (pk.take (k + 1)).map (inc1 i0) ++ pk.drop (k + 1)⟩ : Gn), .slice (some ⟨lg, 0, none⟩) pk.length uc) :: D) (.slice (some ⟨g, 0, none⟩) L.length vc) wr ∧ But D0 wa wr) := by
      refine ⟨?_, BK⟩
      have e1 : (pk.take k).map (inc1 i0) ++ pk.drop k = (pk.take (k + 1)).map (inc1 i0) ++ pk.drop (k + 1) := by
        rw [HDR.out, HP.out.2.1]
        have : inc1 i0 y = y := by unfold inc1; rw [if_neg (by omega)]
        simp [this]
      have := HOK.out
      rw [e1] at this
      exact this
    clear HOK HOA HDD HGI HA HAL BK BRA HIX HLS HTL HP HDR HLW
    go_wp2_with fail
    exact ⟨⟨k + 1, by go_num, by omega, HF.out.1, HF.out.2⟩, by simp [intOf]; omega⟩
end Go.Proofs.Ytjpbfckdiojghaa
