/- Things in the order in which they are met: from, meet. -/
import Derived.Test.YtdalomibilicfaaClsMath
namespace Go.Proofs.Ytdalomibilicfaa
open Go.RowKit Go.Maps

/-- An order at block o: its map, its row of things. -/
structure OrdAt {κ : Type} (ot et kt : TypeId) (ke : κ → Value) (lit : κ → Lit) (ok : κ → Prop) (B o mb : Nat) (sv : Value) (L : List κ) (W : World) : Prop where
  box : W.heap[o]? = some (Obj.cells #[.map (some mb), sv] ot)
  map : MapK kt lit ok mb L W
  row : W.ownsRow B et 1 sv L.length (L.map ke)
  lo : B ≤ o
  lm : B ≤ mb
def FtO (o mb : Nat) (sv : Value) (k : Nat) : Prop := k = o ∨ k = mb ∨ sv.ownBlock = some k
section
variable {κ : Type} {ot et kt : TypeId} {ke : κ → Value} {lit : κ → Lit} {ok : κ → Prop} {B o mb : Nat} {sv : Value} {L : List κ} {W W' : World}
theorem OrdAt.but {D : Nat → Prop} (h : OrdAt ot et kt ke lit ok B o mb sv L W) (hb : But D W W') (hd : ∀ k, FtO o mb sv k → ¬ D k) : OrdAt ot et kt ke lit ok B o mb sv L W' :=
  ⟨but_blk hb h.box (hd _ (.inl rfl)), h.map.but hb (hd _ (.inr (.inl rfl))), ownsRow_keep h.row hb (fun _ hj => hd _ (.inr (.inr hj))), h.lo, h.lm⟩
theorem OrdAt.next (h : OrdAt ot et kt ke lit ok B o mb sv L W) (hb : Below W.heap.size W W') : OrdAt ot et kt ke lit ok B o mb sv L W' := h.but (D := fun _ => False) (But.of_next hb) (fun _ _ h => h)
theorem OrdAt.low (h : OrdAt ot et kt ke lit ok B o mb sv L W) {k : Nat} (hk : FtO o mb sv k) : B ≤ k ∧ k < W.heap.size := by
  rcases hk with rfl | rfl | hk
  · exact ⟨h.lo, blk_lt h.box⟩
  · exact ⟨h.lm, h.map.lt⟩
  · exact World.ownsRow.lt h.row k hk
end
theorem own_is_cells {W : World} {B n k j : Nat} {e : TypeId} {v : Value} {xs : List Value} (h : W.ownsRow B e k v n xs) (hj : v.ownBlock = some j) : ∃ cs, W.heap[j]? = some (Obj.cells cs e) := by
  rcases h.2 with ⟨rfl, _⟩ | ⟨g, cap, cur, rfl, _, hg, _⟩
  · cases hj
  · simp [Value.ownBlock] at hj
    subst hj
    exact ⟨_, hg⟩
theorem but_grown {W W' : World} {row : Option Nat} {A : Nat → Prop} (hg : W.grownBy W' row) (hr : ∀ r, row = some r → A r) : But A W W' := ⟨hg.os, hg.tape, hg.output, hg.size, fun k hk hd => hg.block k hk (fun e => hd (hr k e.symm))⟩
theorem addK_idx {κ : Type} [DecidableEq κ] {L : List κ} {k : κ} (h : k ∉ L) : addK L k = L ++ [k] ∧ idxK (L ++ [k]) k = L.length := by
  exact ⟨by unfold addK; rw [if_neg h], idxK_snoc h⟩
/-- What meet tells. -/
def MeetP {κ : Type} [DecidableEq κ] (ot et kt : TypeId) (ke : κ → Value) (lit : κ → Lit) (ok : κ → Prop) (B o mb : Nat) (sv : Value) (L : List κ) (k : κ) (w : World) (e : Ending) (w' : World) : Prop :=
  e = .returned (.int .i64 (idxK (addK L k) k)) ∧ ∃ sv', OrdAt ot et kt ke lit ok B o mb sv' (addK L k) w' ∧ But (FtO o mb sv) w w' ∧ (sv'.ownBlock = sv.ownBlock ∨ ∃ j, sv'.ownBlock = some j ∧ w.heap.size ≤ j)

theorem infoS : (Try.prog.info? 9).map (fun i => (i.zero, i.size, i.bytes)) = some (some (.string ⟨#[]⟩), 1, 16) := by kernel_rfl
set_option maxRecDepth 100000 in
set_option maxHeartbeats 1600000 in
theorem meetI_any (B o mb : Nat) (sv : Value) (L : List Int) (k : Int) (w : World) (hO : OrdAt 112 3 3 (fun x : Int => Value.int .i64 x) (fun x => Lit.int .i64 x) i64B B o mb sv L w) (hk : i64B k) (hl : L.length ≤ 1000000) :
    Calls Try.prog 62 #[.pointer (some ⟨o, 0, none⟩), .int .i64 k] w fun e w' => MeetP 112 3 3 (fun x : Int => Value.int .i64 x) (fun x => Lit.int .i64 x) i64B B o mb sv L k w e w' := by
  obtain ⟨sa, sc, rfl⟩ := slice_of_ownK hO.row
  have c0 : w.cell? ⟨o, 0, none⟩ = some (.map (some mb)) := by rw [Lib.cell_of_heap hO.box]; rfl
  have c1 : w.cell? ⟨o, 1, none⟩ = some (.slice sa L.length sc) := by rw [Lib.cell_of_heap hO.box]; rfl
  by_cases hm : k ∈ L
  · have hlk := hO.map.look_yes kindI Try.underlying110 hk hm
    have HE : Hid (MeetP 112 3 3 (fun x : Int => Value.int .i64 x) (fun x => Lit.int .i64 x) i64B B o mb (.slice sa L.length sc) L k w (.returned (.int .i64 (idxK L k))) w) := by
      refine ⟨by unfold addK; rw [if_pos hm], _, ?_, But.refl _ _, .inl rfl⟩
      unfold addK; rw [if_pos hm]; exact hO
    clear hO hm hl
    go_enter Try.func62, Try.ntmps62
    go_wp2_with fail
    all_goals (go_ret; exact HE.out)
  have hlk := hO.map.look_no kindI Try.underlying110 hk hm
  obtain ⟨W1, hst, hM1, hB1, hz1⟩ := hO.map.store kindI Try.underlying110 (by omega) hk hm
  have nmo : ¬ o = mb := fun e => hO.map.notCells _ _ _ (by rw [← e]; exact hO.box)
  have e1 : W1.heap[o]? = some (Obj.cells #[.map (some mb), .slice sa L.length sc] 112) := but_blk hB1 hO.box nmo
  have r1 : W1.ownsRow B 3 1 (.slice sa L.length sc) L.length (L.map fun x : Int => Value.int .i64 x) := ownsRow_keep hO.row hB1 (fun j hj e => by
    obtain ⟨cs, hc⟩ := own_is_cells hO.row hj
    exact hO.map.notCells _ _ _ (by rw [← e]; exact hc))
  have noo : ∀ j, (Value.slice sa L.length sc).ownBlock = some j → j ≠ o := fun j hj e => by
    obtain ⟨cs, hc⟩ := own_is_cells hO.row hj
    rw [e, hO.box] at hc
    simp at hc
  have d0 : W1.cell? ⟨o, 0, none⟩ = some (.map (some mb)) := by rw [Lib.cell_of_heap e1]; rfl
  have d1 : W1.cell? ⟨o, 1, none⟩ = some (.slice sa L.length sc) := by rw [Lib.cell_of_heap e1]; rfl
  have HX : Hid ((addK L k) = L ++ [k] ∧ idxK (L ++ [k]) k = L.length) := addK_idx hm
  have HO : Hid (B ≤ o ∧ B ≤ mb ∧ But (fun k => k = mb) w W1 ∧ W1.heap.size = w.heap.size ∧ MapK 3 (fun x : Int => Lit.int .i64 x) i64B mb (L ++ [k]) W1 ∧ ¬ o = mb ∧ ∀ j, (Value.slice sa L.length sc).ownBlock = some j → j ≠ o) := ⟨hO.lo, hO.lm, hB1, hz1, hM1, nmo, noo⟩
  obtain ⟨ii, hii, hz0, hz1', hz2⟩ := info_parts info3
  have ba : Below W1.heap.size W1 (W1.alloc (Obj.cells #[.int .i64 k] 3)) := (Below.refl _ _).alloc (Nat.le_refl _) _
  have r2 := ownsRow_below4 r1 ba
  have hBs : B ≤ (W1.alloc (Obj.cells #[.int .i64 k] 3)).heap.size := by have := blk_lt hO.box; have := hO.lo; have := hB1.size; have := ba.size; omega
  have HB2 : Hid (Below W1.heap.size W1 (W1.alloc (Obj.cells #[.int .i64 k] 3)) ∧ (W1.alloc (Obj.cells #[.int .i64 k] 3)).heap[o]? = some (Obj.cells #[.map (some mb), .slice sa L.length sc] 112)) := ⟨ba, blk_new e1⟩
  have HNW := new_cell W1 (.int .i64 k) 3
  clear hO hm e1 r1 hB1 hM1 hz1 nmo noo ba
  go_enter Try.func62, Try.ntmps62
  go_wp2_with (at_builtin; refine wpList_append_own_at _ rfl _ _ 57 rfl B 3 ii _ 1 8 Try.underlying57 hii hz0 hz1' hz2 rfl (by omega) _ _ _ rfl r2 _ 1 1 [.int .i64 k] rfl rfl HNW (by simp [Value.oneCell']) (by unfold maxLen; omega) (by omega) hBs ?_)
  all_goals (
    intro v' w8 hown' hgrow _ hat
    have B8 : But (fun j => (Value.slice sa L.length sc).ownBlock = some j) (W1.alloc (Obj.cells #[.int .i64 k] 3)) w8 := but_grown hgrow (fun r hr => hr)
    have e8 : w8.heap[o]? = some (Obj.cells #[.map (some mb), .slice sa L.length sc] 112) := but_blk B8 HB2.out.2 (fun h => HO.out.2.2.2.2.2.2 _ h rfl)
    have f8 : w8.frozen? ⟨o, 1, none⟩ = false := Lib.frozen_of_heap e8 _
    have g8 : w8.cell? ⟨o, 1, none⟩ = some (.slice sa L.length sc) := by rw [Lib.cell_of_heap e8]; rfl
    have HE : Hid (MeetP 112 3 3 (fun x : Int => Value.int .i64 x) (fun x => Lit.int .i64 x) i64B B o mb (.slice sa L.length sc) L k w (.returned (.int .i64 L.length)) (w8.setCell ⟨o, 1, none⟩ v')) := by
      obtain ⟨x1, x2⟩ := HX.out
      obtain ⟨q1, q2, q3, q4, q5, q6, q7⟩ := HO.out
      have B9 : But (fun j => j = o) w8 (w8.setCell ⟨o, 1, none⟩ v') := (But.refl _ _).setCell _ _ (.inr rfl)
      have hnj : ∀ j, v'.ownBlock = some j → j ≠ o := fun j hj e => by
        obtain ⟨cs, hc⟩ := own_is_cells hown' hj
        rw [e, e8] at hc
        simp at hc
      have hM : ∀ j, (Value.slice sa L.length sc).ownBlock = some j → j ≠ mb := fun j hj e => by
        obtain ⟨cs, hc⟩ := own_is_cells r2 hj
        exact (q5.next HB2.out.1).notCells _ _ _ (by rw [← e]; exact hc)
      refine ⟨by rw [x1, x2], v', ?_, ?_, ?_⟩
      · rw [x1]
        refine ⟨by simpa using blk_set (o := 1) e8 v', ((q5.next HB2.out.1).but B8 (fun h => hM _ h rfl)).but B9 (fun h => q6 h.symm), ?_, q1, q2⟩
        have := ownsRow_keep hown' B9 (fun j hj => hnj j hj)
        simpa using this
      · refine (q3.mono (fun j _ h => .inr (.inl h))).trans (But.trans (But.of_next HB2.out.1) ((B8.mono (fun j _ h => .inr (.inr h))).trans (B9.mono (fun j _ h => .inl h))))
      · rcases hat with h | h
        · exact .inl h
        · refine .inr ⟨_, h, ?_⟩
          have := q3.size
          have := HB2.out.1.size
          omega
    obtain ⟨va', vc', rfl⟩ := slice_of_ownK hown'
    clear hown' hgrow hat B8 e8 HO HX HB2 HNW r2 hst hlk c0 c1 d0 d1
    go_wp2_with fail
    all_goals (go_ret; exact HE.out))
set_option maxRecDepth 100000 in
set_option maxHeartbeats 1600000 in
theorem meetS_any (B o mb : Nat) (sv : Value) (L : List ByteArray) (k : ByteArray) (w : World) (hO : OrdAt 118 9 9 (fun s : ByteArray => Value.string s) (fun s => Lit.string s.data.toList) (fun s => s.size ≤ 100000000) B o mb sv L w) (hk : k.size ≤ 100000000) (hl : L.length ≤ 1000000) :
    Calls Try.prog 65 #[.pointer (some ⟨o, 0, none⟩), .string k] w fun e w' => MeetP 118 9 9 (fun s : ByteArray => Value.string s) (fun s => Lit.string s.data.toList) (fun s => s.size ≤ 100000000) B o mb sv L k w e w' := by
  obtain ⟨sa, sc, rfl⟩ := slice_of_ownK hO.row
  have c0 : w.cell? ⟨o, 0, none⟩ = some (.map (some mb)) := by rw [Lib.cell_of_heap hO.box]; rfl
  have c1 : w.cell? ⟨o, 1, none⟩ = some (.slice sa L.length sc) := by rw [Lib.cell_of_heap hO.box]; rfl
  by_cases hm : k ∈ L
  · have hlk := hO.map.look_yes kindS Try.underlying115 hk hm
    have HE : Hid (MeetP 118 9 9 (fun s : ByteArray => Value.string s) (fun s => Lit.string s.data.toList) (fun s => s.size ≤ 100000000) B o mb (.slice sa L.length sc) L k w (.returned (.int .i64 (idxK L k))) w) := by
      refine ⟨by unfold addK; rw [if_pos hm], _, ?_, But.refl _ _, .inl rfl⟩
      unfold addK; rw [if_pos hm]; exact hO
    clear hO hm hl
    go_enter Try.func65, Try.ntmps65
    go_wp2_with fail
    all_goals (go_ret; exact HE.out)
  have hlk := hO.map.look_no kindS Try.underlying115 hk hm
  obtain ⟨W1, hst, hM1, hB1, hz1⟩ := hO.map.store kindS Try.underlying115 (by omega) hk hm
  have nmo : ¬ o = mb := fun e => hO.map.notCells _ _ _ (by rw [← e]; exact hO.box)
  have e1 : W1.heap[o]? = some (Obj.cells #[.map (some mb), .slice sa L.length sc] 118) := but_blk hB1 hO.box nmo
  have r1 : W1.ownsRow B 9 1 (.slice sa L.length sc) L.length (L.map fun s : ByteArray => Value.string s) := ownsRow_keep hO.row hB1 (fun j hj e => by
    obtain ⟨cs, hc⟩ := own_is_cells hO.row hj
    exact hO.map.notCells _ _ _ (by rw [← e]; exact hc))
  have noo : ∀ j, (Value.slice sa L.length sc).ownBlock = some j → j ≠ o := fun j hj e => by
    obtain ⟨cs, hc⟩ := own_is_cells hO.row hj
    rw [e, hO.box] at hc
    simp at hc
  have d0 : W1.cell? ⟨o, 0, none⟩ = some (.map (some mb)) := by rw [Lib.cell_of_heap e1]; rfl
  have d1 : W1.cell? ⟨o, 1, none⟩ = some (.slice sa L.length sc) := by rw [Lib.cell_of_heap e1]; rfl
  have HX : Hid ((addK L k) = L ++ [k] ∧ idxK (L ++ [k]) k = L.length) := addK_idx hm
  have HO : Hid (B ≤ o ∧ B ≤ mb ∧ But (fun k => k = mb) w W1 ∧ W1.heap.size = w.heap.size ∧ MapK 9 (fun s : ByteArray => Lit.string s.data.toList) (fun s => s.size ≤ 100000000) mb (L ++ [k]) W1 ∧ ¬ o = mb ∧ ∀ j, (Value.slice sa L.length sc).ownBlock = some j → j ≠ o) := ⟨hO.lo, hO.lm, hB1, hz1, hM1, nmo, noo⟩
  obtain ⟨ii, hii, hz0, hz1', hz2⟩ := info_parts infoS
  have ba : Below W1.heap.size W1 (W1.alloc (Obj.cells #[.string k] 9)) := (Below.refl _ _).alloc (Nat.le_refl _) _
  have r2 := ownsRow_below4 r1 ba
  have hBs : B ≤ (W1.alloc (Obj.cells #[.string k] 9)).heap.size := by have := blk_lt hO.box; have := hO.lo; have := hB1.size; have := ba.size; omega
  have HB2 : Hid (Below W1.heap.size W1 (W1.alloc (Obj.cells #[.string k] 9)) ∧ (W1.alloc (Obj.cells #[.string k] 9)).heap[o]? = some (Obj.cells #[.map (some mb), .slice sa L.length sc] 118)) := ⟨ba, blk_new e1⟩
  have HNW := new_cell W1 (.string k) 9
  clear hO hm e1 r1 hB1 hM1 hz1 nmo noo ba
  go_enter Try.func65, Try.ntmps65
  go_wp2_with (at_builtin; refine wpList_append_own_at _ rfl _ _ 116 rfl B 9 ii _ 1 16 Try.underlying116 hii hz0 hz1' hz2 rfl (by omega) _ _ _ rfl r2 _ 1 1 [.string k] rfl rfl HNW (by simp [Value.oneCell']) (by unfold maxLen; omega) (by omega) hBs ?_)
  all_goals (
    intro v' w8 hown' hgrow _ hat
    have B8 : But (fun j => (Value.slice sa L.length sc).ownBlock = some j) (W1.alloc (Obj.cells #[.string k] 9)) w8 := but_grown hgrow (fun r hr => hr)
    have e8 : w8.heap[o]? = some (Obj.cells #[.map (some mb), .slice sa L.length sc] 118) := but_blk B8 HB2.out.2 (fun h => HO.out.2.2.2.2.2.2 _ h rfl)
    have f8 : w8.frozen? ⟨o, 1, none⟩ = false := Lib.frozen_of_heap e8 _
    have g8 : w8.cell? ⟨o, 1, none⟩ = some (.slice sa L.length sc) := by rw [Lib.cell_of_heap e8]; rfl
    have HE : Hid (MeetP 118 9 9 (fun s : ByteArray => Value.string s) (fun s => Lit.string s.data.toList) (fun s => s.size ≤ 100000000) B o mb (.slice sa L.length sc) L k w (.returned (.int .i64 L.length)) (w8.setCell ⟨o, 1, none⟩ v')) := by
      obtain ⟨x1, x2⟩ := HX.out
      obtain ⟨q1, q2, q3, q4, q5, q6, q7⟩ := HO.out
      have B9 : But (fun j => j = o) w8 (w8.setCell ⟨o, 1, none⟩ v') := (But.refl _ _).setCell _ _ (.inr rfl)
      have hnj : ∀ j, v'.ownBlock = some j → j ≠ o := fun j hj e => by
        obtain ⟨cs, hc⟩ := own_is_cells hown' hj
        rw [e, e8] at hc
        simp at hc
      have hM : ∀ j, (Value.slice sa L.length sc).ownBlock = some j → j ≠ mb := fun j hj e => by
        obtain ⟨cs, hc⟩ := own_is_cells r2 hj
        exact (q5.next HB2.out.1).notCells _ _ _ (by rw [← e]; exact hc)
      refine ⟨by rw [x1, x2], v', ?_, ?_, ?_⟩
      · rw [x1]
        refine ⟨by simpa using blk_set (o := 1) e8 v', ((q5.next HB2.out.1).but B8 (fun h => hM _ h rfl)).but B9 (fun h => q6 h.symm), ?_, q1, q2⟩
        have := ownsRow_keep hown' B9 (fun j hj => hnj j hj)
        simpa using this
      · refine (q3.mono (fun j _ h => .inr (.inl h))).trans (But.trans (But.of_next HB2.out.1) ((B8.mono (fun j _ h => .inr (.inr h))).trans (B9.mono (fun j _ h => .inl h))))
      · rcases hat with h | h
        · exact .inl h
        · refine .inr ⟨_, h, ?_⟩
          have := q3.size
          have := HB2.out.1.size
          omega
    obtain ⟨va', vc', rfl⟩ := slice_of_ownK hown'
    clear hown' hgrow hat B8 e8 HO HX HB2 HNW r2 hst hlk c0 c1 d0 d1
    go_wp2_with fail
    all_goals (go_ret; exact HE.out))

abbrev OrdI (B o mb : Nat) (sv : Value) (L : List Int) (W : World) : Prop := OrdAt 112 3 3 (fun x : Int => Value.int .i64 x) (fun x => Lit.int .i64 x) i64B B o mb sv L W
abbrev OrdS (B o mb : Nat) (sv : Value) (L : List ByteArray) (W : World) : Prop := OrdAt 118 9 9 (fun s : ByteArray => Value.string s) (fun s => Lit.string s.data.toList) (fun s => s.size ≤ 100000000) B o mb sv L W

set_option maxRecDepth 100000 in
set_option maxHeartbeats 1600000 in
theorem fromI_any (k : Int) (w : World) (hk : i64B k) :
    Calls Try.prog 61 #[.int .i64 k] w fun e w' => ∃ o mb sv, e = .returned (.pointer (some ⟨o, 0, none⟩)) ∧ OrdI w.heap.size o mb sv [k] w' ∧ Below w.heap.size w w' := by
  have b0 : Below w.heap.size w (w.alloc (.map #[] 0)) := (Below.refl _ _).alloc (Nat.le_refl _) _
  obtain ⟨W1, hst, hM1, hB1, hz1⟩ := (MapK.made (kt := 3) (lit := fun x : Int => Lit.int .i64 x) (ok := i64B) w).store kindI Try.underlying110 (by simp) hk (by simp)
  have B1 : Below w.heap.size w W1 := b0.trans (hB1.below (by simp) (fun k hk => by omega))
  have hz : W1.heap.size = w.heap.size + 1 := by rw [hz1]; simp
  have HE : Hid (∃ o mb sv, Ending.returned (Value.pointer (some ⟨W1.heap.size + 1, 0, none⟩)) = .returned (.pointer (some ⟨o, 0, none⟩)) ∧ OrdI w.heap.size o mb sv [k] ((W1.alloc (Obj.cells #[.int .i64 k] 3)).alloc (Obj.cells #[.map (some w.heap.size), .slice (some ⟨W1.heap.size, 0, none⟩) 1 1] 112)) ∧ Below w.heap.size w ((W1.alloc (Obj.cells #[.int .i64 k] 3)).alloc (Obj.cells #[.map (some w.heap.size), .slice (some ⟨W1.heap.size, 0, none⟩) 1 1] 112))) := by
    have c1 : Below W1.heap.size W1 (W1.alloc (Obj.cells #[.int .i64 k] 3)) := (Below.refl _ _).alloc (Nat.le_refl _) _
    have c2 : Below (W1.alloc (Obj.cells #[.int .i64 k] 3)).heap.size (W1.alloc (Obj.cells #[.int .i64 k] 3)) ((W1.alloc (Obj.cells #[.int .i64 k] 3)).alloc (Obj.cells #[.map (some w.heap.size), .slice (some ⟨W1.heap.size, 0, none⟩) 1 1] 112)) := (Below.refl _ _).alloc (Nat.le_refl _) _
    have c3 := c1.trans (c2.mono c1.size)
    refine ⟨_, w.heap.size, .slice (some ⟨W1.heap.size, 0, none⟩) 1 1, rfl, ⟨?_, hM1.next c3, ?_, by omega, by omega⟩, B1.trans (c3.mono B1.size)⟩
    · have := heap_alloc_new (W1.alloc (Obj.cells #[.int .i64 k] 3)) (Obj.cells #[.map (some w.heap.size), .slice (some ⟨W1.heap.size, 0, none⟩) 1 1] 112)
      simpa using this
    · have g := blk_new (o := Obj.cells #[.map (some w.heap.size), .slice (some ⟨W1.heap.size, 0, none⟩) 1 1] 112) (heap_alloc_new W1 (Obj.cells #[.int .i64 k] 3))
      exact ⟨by simp, .inr ⟨W1.heap.size, 1, #[.int .i64 k], rfl, by omega, g, by simp, by unfold maxLen; omega, by simp, by simp⟩⟩
  have hmk : (Instr.makeMap 110 none).run Try.prog w = .ok (.map (some w.heap.size)) (w.alloc (.map #[] 0)) := rfl
  have hst2 : (Instr.mapUpdate 110 (.map (some w.heap.size)) (.int .i64 k) (.int .i64 0)).run Try.prog (w.alloc (.map #[] 0)) = .ok () W1 := hst
  clear hM1 hB1 hz1 B1 b0 hst hz
  go_enter Try.func61, Try.ntmps61
  go_wp2_with fail
  go_ret
  exact HE.out

set_option maxRecDepth 100000 in
set_option maxHeartbeats 1600000 in
theorem fromS_any (k : ByteArray) (w : World) (hk : k.size ≤ 100000000) :
    Calls Try.prog 63 #[.string k] w fun e w' => ∃ o mb sv, e = .returned (.pointer (some ⟨o, 0, none⟩)) ∧ OrdS w.heap.size o mb sv [k] w' ∧ Below w.heap.size w w' := by
  have b0 : Below w.heap.size w (w.alloc (.map #[] 0)) := (Below.refl _ _).alloc (Nat.le_refl _) _
  obtain ⟨W1, hst, hM1, hB1, hz1⟩ := (MapK.made (kt := 9) (lit := fun s : ByteArray => Lit.string s.data.toList) (ok := fun s => s.size ≤ 100000000) w).store kindS Try.underlying115 (by simp) hk (by simp)
  have B1 : Below w.heap.size w W1 := b0.trans (hB1.below (by simp) (fun k hk => by omega))
  have hz : W1.heap.size = w.heap.size + 1 := by rw [hz1]; simp
  have HE : Hid (∃ o mb sv, Ending.returned (Value.pointer (some ⟨W1.heap.size + 1, 0, none⟩)) = .returned (.pointer (some ⟨o, 0, none⟩)) ∧ OrdS w.heap.size o mb sv [k] ((W1.alloc (Obj.cells #[.string k] 9)).alloc (Obj.cells #[.map (some w.heap.size), .slice (some ⟨W1.heap.size, 0, none⟩) 1 1] 118)) ∧ Below w.heap.size w ((W1.alloc (Obj.cells #[.string k] 9)).alloc (Obj.cells #[.map (some w.heap.size), .slice (some ⟨W1.heap.size, 0, none⟩) 1 1] 118))) := by
    have c1 : Below W1.heap.size W1 (W1.alloc (Obj.cells #[.string k] 9)) := (Below.refl _ _).alloc (Nat.le_refl _) _
    have c2 : Below (W1.alloc (Obj.cells #[.string k] 9)).heap.size (W1.alloc (Obj.cells #[.string k] 9)) ((W1.alloc (Obj.cells #[.string k] 9)).alloc (Obj.cells #[.map (some w.heap.size), .slice (some ⟨W1.heap.size, 0, none⟩) 1 1] 118)) := (Below.refl _ _).alloc (Nat.le_refl _) _
    have c3 := c1.trans (c2.mono c1.size)
    refine ⟨_, w.heap.size, .slice (some ⟨W1.heap.size, 0, none⟩) 1 1, rfl, ⟨?_, hM1.next c3, ?_, by omega, by omega⟩, B1.trans (c3.mono B1.size)⟩
    · have := heap_alloc_new (W1.alloc (Obj.cells #[.string k] 9)) (Obj.cells #[.map (some w.heap.size), .slice (some ⟨W1.heap.size, 0, none⟩) 1 1] 118)
      simpa using this
    · have g := blk_new (o := Obj.cells #[.map (some w.heap.size), .slice (some ⟨W1.heap.size, 0, none⟩) 1 1] 118) (heap_alloc_new W1 (Obj.cells #[.string k] 9))
      exact ⟨by simp, .inr ⟨W1.heap.size, 1, #[.string k], rfl, by omega, g, by simp, by unfold maxLen; omega, by simp, by simp⟩⟩
  have hmk : (Instr.makeMap 115 none).run Try.prog w = .ok (.map (some w.heap.size)) (w.alloc (.map #[] 0)) := rfl
  have hst2 : (Instr.mapUpdate 115 (.map (some w.heap.size)) (.string k) (.int .i64 0)).run Try.prog (w.alloc (.map #[] 0)) = .ok () W1 := hst
  clear hM1 hB1 hz1 B1 b0 hst hz
  go_enter Try.func63, Try.ntmps63
  go_wp2_with fail
  go_ret
  exact HE.out
end Go.Proofs.Ytdalomibilicfaa
