/- A builder: a slot stored, a count turned. -/
import Derived.Test.YtoocafcagelbgaaPTake
namespace Go.Proofs.Ytoocafcagelbgaa
open Go.RowKit

def St.setSl (S : St) (i : Nat) (s : SN) : St := { S with sl := S.sl.set i s }
/-- The ten cells of a slot that is stored. -/
def set10 (W : World) (g o : Nat) (s : Sl) (u : Value) : World :=
  (((((((((W.setCell ⟨g, o, none⟩ (.string s.nd.h.kind)).setCell ⟨g, o + 1, none⟩ (.bool s.nd.h.named)).setCell ⟨g, o + 2, none⟩ (.string s.nd.h.field)).setCell ⟨g, o + 3, none⟩ (.int .i64 s.nd.h.frm)).setCell ⟨g, o + 4, none⟩ (.int .i64 s.nd.h.til)).setCell ⟨g, o + 5, none⟩ (.int .i64 s.nd.h.bad)).setCell ⟨g, o + 6, none⟩ (.slice none 0 0)).setCell ⟨g, o + 7, none⟩ u).setCell ⟨g, o + 8, none⟩ (.int .i64 s.refs)).setCell ⟨g, o + 9, none⟩ (.int .i64 s.next)
theorem but_set10 (W : World) (g o : Nat) (s : Sl) (u : Value) : But (fun k => k = g) W (set10 W g o s u) := by
  unfold set10
  exact ((((((((((But.refl (fun k => k = g) W).setCell ⟨g, o, none⟩ _ (.inr rfl)).setCell ⟨g, o + 1, none⟩ _ (.inr rfl)).setCell ⟨g, o + 2, none⟩ _ (.inr rfl)).setCell ⟨g, o + 3, none⟩ _ (.inr rfl)).setCell ⟨g, o + 4, none⟩ _ (.inr rfl)).setCell ⟨g, o + 5, none⟩ _ (.inr rfl)).setCell ⟨g, o + 6, none⟩ _ (.inr rfl)).setCell ⟨g, o + 7, none⟩ _ (.inr rfl)).setCell ⟨g, o + 8, none⟩ _ (.inr rfl)).setCell ⟨g, o + 9, none⟩ _ (.inr rfl)
/-- Ten cells side by side put into a flat row. -/
theorem flat_set10 {L : List Sv} {i : Nat} {p q : Sv} (h : L[i]? = some p) :
    ((((((((((L.flatMap encS).set (i * 10) (.string q.1.nd.h.kind)).set (i * 10 + 1) (.bool q.1.nd.h.named)).set (i * 10 + 2) (.string q.1.nd.h.field)).set (i * 10 + 3) (.int .i64 q.1.nd.h.frm)).set (i * 10 + 4) (.int .i64 q.1.nd.h.til)).set (i * 10 + 5) (.int .i64 q.1.nd.h.bad)).set (i * 10 + 6) (.slice none 0 0)).set (i * 10 + 7) q.2).set (i * 10 + 8) (.int .i64 q.1.refs)).set (i * 10 + 9) (.int .i64 q.1.next) = (L.set i q).flatMap encS := by
  have hi := (List.getElem?_eq_some_iff.1 h).1
  have e1 : L = L.take i ++ p :: L.drop (i + 1) := by
    have hp : L[i] = p := by rw [List.getElem?_eq_getElem hi] at h; exact Option.some.inj h
    rw [← hp]; simp
  have hl : ((L.take i).flatMap encS).length = i * 10 := by
    have hk : ∀ M : List Sv, (M.flatMap encS).length = M.length * 10 := by
      intro M
      induction M with
      | nil => rfl
      | cons m M ih => rw [List.flatMap_cons, List.length_append, ih, encS_len, List.length_cons]; omega
    rw [hk, List.length_take]; congr 1; omega
  have e2 : L.flatMap encS = (L.take i).flatMap encS ++ (encS p ++ (L.drop (i + 1)).flatMap encS) := by
    conv => lhs; rw [e1]
    rw [List.flatMap_append, List.flatMap_cons]
  have e3 : (L.set i q).flatMap encS = (L.take i).flatMap encS ++ (encS q ++ (L.drop (i + 1)).flatMap encS) := by
    rw [List.set_eq_take_append_cons_drop, if_pos hi, List.flatMap_append, List.flatMap_cons]
  rw [e2, e3]
  have hs : ∀ (k : Nat) (x : Value) (a b : List Value), k < a.length → ((L.take i).flatMap encS ++ (a ++ b)).set (i * 10 + k) x = (L.take i).flatMap encS ++ ((a.set k x) ++ b) := by
    intro k x a b hk
    rw [List.set_append_right _ _ (by rw [hl]; omega), hl, Nat.add_sub_cancel_left, List.set_append_left _ _ hk]
  have h0 := fun x a b (hk : 0 < a.length) => hs 0 x a b hk
  simp only [Nat.add_zero] at h0
  rw [h0 _ _ _ (by simp [encS]), hs 1 _ _ _ (by simp [encS]), hs 2 _ _ _ (by simp [encS]), hs 3 _ _ _ (by simp [encS]), hs 4 _ _ _ (by simp [encS]), hs 5 _ _ _ (by simp [encS]), hs 6 _ _ _ (by simp [encS]), hs 7 _ _ _ (by simp [encS]), hs 8 _ _ _ (by simp [encS]), hs 9 _ _ _ (by simp [encS])]
  rfl
theorem lst_setS {S : St} {L : List Sv} {i : Nat} {s : SN} {u : Value} (h : L.map Prod.fst = S.sl.map SN.sl) : (L.set i (s.sl, u)).map Prod.fst = (S.setSl i s).sl.map SN.sl := by
  unfold St.setSl
  rw [List.map_set, List.map_set, h]
/-- What stays of a builder where its slots' block alone turns. -/
theorem Bld.turn {B bb mb : Nat} {S : St} {rv : Value} {L : List Sv} {W W' : World} {g n c i : Nat} {s : SN} {u : Value} (h : Bld B bb mb S (.slice (some ⟨g, 0, none⟩) n c) rv L W) (hb : But (fun k => k = g) W W') (_hi : i < S.sl.length)
    (hrow : W'.ownsRow B 60 10 (.slice (some ⟨g, 0, none⟩) n c) L.length ((L.set i (s.sl, u)).flatMap encS)) (hu : OwnI B (intL s.ks) u W) (hp : ∀ k, rv.ownBlock = some k → u.ownBlock ≠ some k) (hok : okS s.sl) :
    Bld B bb mb (S.setSl i s) (.slice (some ⟨g, 0, none⟩) n c) rv (L.set i (s.sl, u)) W' := by
  obtain ⟨cs, hcs⟩ := own_is_cells h.own.row (j := g) rfl
  have hints : ∀ {l : List Int} {v : Value}, OwnI B l v W → OwnI B l v W' := fun {l v} hv => ownsRow_keep hv hb (fun j hj e => own_nb hv hcs (by decide) (by rw [← e]; exact hj))
  obtain ⟨m, hm, hM⟩ := h.map
  refine ⟨but_blk hb h.box (fun e => ?_), ⟨m, hm, hM.but hb (fun e => ?_)⟩, lst_setS h.lst, ⟨by rw [List.length_set]; exact hrow, fun q hq => ?_, fun q hq => ?_⟩, hints h.rt, fun q hq k hk => ?_, h.lo⟩
  · exact own_nb h.own.row h.box (by decide) (by rw [e]; rfl)
  · rw [e] at hM; exact hM.notCells _ _ _ hcs
  · rcases List.mem_or_eq_of_mem_set hq with hq | rfl
    · exact hints (h.own.kids q hq)
    · exact hints hu
  · rcases List.mem_or_eq_of_mem_set hq with hq | rfl
    · exact h.own.ok q hq
    · exact hok
  · rcases List.mem_or_eq_of_mem_set hq with hq | rfl
    · exact h.part q hq k hk
    · exact hp k hk
theorem Bld.put10 {B bb mb : Nat} {S : St} {rv : Value} {L : List Sv} {W : World} {g n c i : Nat} {s : SN} {u : Value} (h : Bld B bb mb S (.slice (some ⟨g, 0, none⟩) n c) rv L W) (hi : i < S.sl.length) (hu : OwnI B (intL s.ks) u W) (hp : ∀ k, rv.ownBlock = some k → u.ownBlock ≠ some k) (hok : okS s.sl) :
    Bld B bb mb (S.setSl i s) (.slice (some ⟨g, 0, none⟩) n c) rv (L.set i (s.sl, u)) (set10 W g (i * 10) s.sl u) := by
  have hiL : i < L.length := by rw [h.len]; exact hi
  refine h.turn (but_set10 W g (i * 10) s.sl u) hi ?_ hu hp hok
  obtain ⟨n', e⟩ : ∃ n', n' = L.length := ⟨_, rfl⟩
  have hn : n = L.length := by
    obtain ⟨a, c', e⟩ := slice_of_ownK h.own.row
    simp only [Value.slice.injEq] at e
    exact e.2.1
  have r0 := h.own.row
  rw [hn] at r0 ⊢
  rw [← flat_set10 (List.getElem?_eq_getElem hiL)]
  unfold set10
  have r1 := (World.ownsRow.stored r0 (i * 10) (.string s.sl.nd.h.kind)).1
  have r2 := (World.ownsRow.stored r1 (i * 10 + 1) (.bool s.sl.nd.h.named)).1
  have r3 := (World.ownsRow.stored r2 (i * 10 + 2) (.string s.sl.nd.h.field)).1
  have r4 := (World.ownsRow.stored r3 (i * 10 + 3) (.int .i64 s.sl.nd.h.frm)).1
  have r5 := (World.ownsRow.stored r4 (i * 10 + 4) (.int .i64 s.sl.nd.h.til)).1
  have r6 := (World.ownsRow.stored r5 (i * 10 + 5) (.int .i64 s.sl.nd.h.bad)).1
  have r7 := (World.ownsRow.stored r6 (i * 10 + 6) (.slice none 0 0)).1
  have r8 := (World.ownsRow.stored r7 (i * 10 + 7) u).1
  have r9 := (World.ownsRow.stored r8 (i * 10 + 8) (.int .i64 s.sl.refs)).1
  exact (World.ownsRow.stored r9 (i * 10 + 9) (.int .i64 s.sl.next)).1
/-- A count turned. -/
theorem Bld.refs {B bb mb : Nat} {S : St} {rv : Value} {L : List Sv} {W : World} {g n c i : Nat} {s : SN} (h : Bld B bb mb S (.slice (some ⟨g, 0, none⟩) n c) rv L W) (hs : S.sl[i]? = some s) (x : Nat) (hx : x ≤ 9223372036854775807) :
    ∃ L', Bld B bb mb (S.setSl i { s with refs := x }) (.slice (some ⟨g, 0, none⟩) n c) rv L' (W.setCell ⟨g, i * 10 + 8, none⟩ (.int .i64 (x : Int))) ∧ ∀ k, KB L' k → KB L k := by
  have hi := (List.getElem?_eq_some_iff.1 hs).1
  obtain ⟨g', cap, u, e, hu, hg1, hg2, hku, hcell, hfz, _⟩ := h.at hs
  simp only [Value.slice.injEq, Option.some.injEq, Addr.mk.injEq, and_true] at e
  have hiL : i < L.length := by rw [h.len]; exact hi
  have hn : n = L.length := by
    obtain ⟨a, c', e⟩ := slice_of_ownK h.own.row
    simp only [Value.slice.injEq] at e
    exact e.2.1
  have hmem := List.mem_of_getElem? hu
  have hok := h.own.ok _ hmem
  refine ⟨L.set i ((SN.sl { s with refs := x }), u), h.turn ((But.refl _ _).setCell _ _ (.inr rfl)) hi ?_ hku (fun k hk => h.part _ hmem k hk) ⟨hok.leaf, ⟨hok.ok.hd, ⟨by show (-9223372036854775808 : Int) ≤ (x : Int); omega, by show (x : Int) ≤ 9223372036854775807; omega⟩, hok.ok.next, hok.ok.kids⟩, hok.kl, hok.ki⟩, fun k ⟨q, hq, e⟩ => by
    rcases List.mem_or_eq_of_mem_set hq with hq | rfl
    · exact ⟨q, hq, e⟩
    · exact ⟨_, hmem, e⟩⟩
  have r0 := h.own.row
  rw [hn] at r0 ⊢
  have r1 := (World.ownsRow.stored r0 (i * 10 + 8) (.int .i64 (x : Int))).1
  rw [flat_set encS_len (by omega) hu (y := ((SN.sl { s with refs := x }), u)) rfl] at r1
  exact r1
end Go.Proofs.Ytoocafcagelbgaa
