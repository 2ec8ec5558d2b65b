/- Stacks: slices.AppendSeq, slices.Collect of a map's spots. -/
import Derived.Test.YtjpbfckdiojghaaMKeys
import Derived.Test.YtjpbfckdiojghaaRangeU
import Derived.Test.YtjpbfckdiojghaaPPaths
import Derived.Maps.OwnIn
namespace Go.Proofs.Ytjpbfckdiojghaa
open Go.RowKit Go.Maps Go.Shelf
attribute [local go_sem] Oper.semAt_some

def encP2 (s : Sp) : List Value := [.int .i64 s.1, .int .i64 s.2]
def OwnSp (B : Nat) (l : List Sp) (v : Value) (W : World) : Prop := W.ownsRow B 48 2 v l.length (l.flatMap encP2)
theorem infoSp : (Try.prog.info? 48).map (fun i => (i.zero, i.size, i.bytes)) = some (some (.agg #[.int .i64 0, .int .i64 0]), 2, 16) := by kernel_rfl
theorem new_cell2 (W : World) (x y : Value) (t : TypeId) : ∀ (k : Nat) (u : Value), [x, y][k]? = some u → (W.alloc (Obj.cells #[x, y] t)).cell? ((⟨W.heap.size, 0, none⟩ : Addr).add k) = some u := by
  intro k u hk
  match k with
  | 0 => simp at hk; subst hk; rw [add_plain]; simp
  | 1 => simp at hk; subst hk; rw [add_plain]; simp
  | k + 2 => simp at hk

/-- What is kept between two rounds. -/
structure AInv (w : World) (sb : Nat) (A : Nat → Prop) (pre : List Sp) (V : World) : Prop where
  bel : Below w.heap.size w V
  box : ∃ v, V.heap[sb]? = some (Obj.cells #[v] 80) ∧ OwnSp w.heap.size pre v V ∧ ∀ k, v.ownBlock = some k → ¬ A k
  nb : ¬ A sb
  low : ∀ k, A k → w.heap.size ≤ k ∧ k < V.heap.size
theorem AInv.keep (w : World) (sb b Bm : Nat) (hb : b < w.heap.size) (hB : Bm < w.heap.size) : KeepJ (FxM w b Bm) (AInv w sb) (fun _ _ => False) := by
  refine ⟨?_, ?_, ?_, ?_, ?_, ?_⟩
  · intro A pre V V' h hb
    have hnew : ∀ q, q < V.heap.size → ¬ A q → ¬ (A q ∨ (V.heap.size ≤ q ∧ q < V'.heap.size)) := fun q hq hn h => h.elim hn (fun h => by omega)
    obtain ⟨v, h1, h2, h3⟩ := h.box
    refine ⟨h.bel.trans (hb.below h.bel.size (fun k hk => (h.low k hk).1)), ⟨v, but_blk hb h1 h.nb, ownsRow_keep h2 hb h3, fun k hk => hnew k (World.ownsRow.lt h2 k hk).2 (h3 k hk)⟩, hnew _ (blk_lt h1) h.nb, fun k hk => ?_⟩
    have := h.bel.size
    have := hb.size
    rcases hk with hk | hk
    · have := h.low k hk; omega
    · omega
  · intro A pre V k h hk
    exact (h.low k hk).2
  · intro A B pre V h hB
    obtain ⟨v, h1, h2, h3⟩ := h.box
    exact ⟨h.bel, ⟨v, h1, h2, fun k hk e => h3 k hk (hB _ e)⟩, fun e => h.nb (hB _ e), fun k hk => h.low k (hB _ hk)⟩
  · intro A pre V h
    exact ⟨h.bel.block _ hb, h.bel.block _ hB⟩
  · intro A B V h
    exact h.elim
  · intro A V V' h
    exact h.elim

set_option maxRecDepth 100000 in
set_option maxHeartbeats 3200000 in
theorem appendSeq_any (Bm b : Nat) (L : List Sp) (g : Sp → Int) (w : World) (hm : w.heap[Bm]? = some (Obj.cells #[.map (some b)] 58)) (hM : MapN b L g w) (hl : L.length ≤ 1000000) :
    Calls Try.prog 71 #[.slice none 0 0, .func (.func 65) #[] #[.pointer (some ⟨Bm, 0, none⟩)]] w fun e w' => ∃ v xs, e = .returned v ∧ xs.Perm L ∧ OwnSp w.heap.size xs v w' ∧ Below w.heap.size w w' := by
  have hb := hM.lt
  have hB := blk_lt hm
  have HGV : Hid (∀ V, GivesT 4 Try.prog 65 #[.pointer (some ⟨Bm, 0, none⟩)] encSp (fun xs _ => xs.Perm L) (fun _ x _ => okSp x) (fun xs => xs.length ≤ L.length) (fun _ => False) (FxM w b Bm) V) := fun V => keys_gives 4 Bm b L g w V hm hM
  clear hm hM
  have BA : Below w.heap.size w (w.alloc (Obj.cells #[.slice none 0 0] 80)) := below_box _ _ _
  have ka : (w.alloc (Obj.cells #[.slice none 0 0] 80)).heap[w.heap.size]? = some (Obj.cells #[.slice none 0 0] 80) := heap_alloc_new _ _
  have hza : (w.alloc (Obj.cells #[.slice none 0 0] 80)).heap.size = w.heap.size + 1 := by simp
  have HZA : Hid ((w.alloc (Obj.cells #[.slice none 0 0] 80)).heap.size = w.heap.size + 1) := hza
  have HKA : Hid ((w.alloc (Obj.cells #[.slice none 0 0] 80)).heap[w.heap.size]? = some (Obj.cells #[.slice none 0 0] 80)) := ka
  have HBA : Hid (Below w.heap.size w (w.alloc (Obj.cells #[.slice none 0 0] 80))) := BA
  clear hza ka BA
  refine (callsIn_wide (n := 5)).1 ?_
  refine callsIn_of_wp_marks Try.func71 rfl trivial ?_ rfl
  simp only [Try.ntmps71, List.size_toArray, List.length_cons, List.length_nil, Nat.reduceAdd, Nat.reduceSub, Array.replicate_succ, Array.replicate_zero, List.push_toArray, List.append_toArray, List.nil_append, List.cons_append]
  gi_wp2_with fail
  generalize w.alloc (Obj.cells #[.slice none 0 0] 80) = wa at *
  refine wpIn_range_U (α := Sp) (by omega) (gf := 65) (lb := #[.pointer (some ⟨Bm, 0, none⟩)]) rfl (enters_of Try.func65 (by kernel_rfl) rfl) (encs := encSp) (S := fun xs _ => xs.Perm L) (Ok := okSp) (Pf := fun xs => xs.length ≤ L.length) (A0 := fun _ => False) (Fx := FxM w b Bm) (fun _ => rfl) (fun q hq => hq.elim) (fun V _ => HGV.out V) (fun ys V V' h1 _ => h1)
    (AInv w w.heap.size) (fun _ _ => False) (AInv.keep w w.heap.size b Bm hb hB) (fun V h1 h2 => ?init)
    (fun x a' W => ∃ nb, W.heap[nb]? = some (Obj.cells #[.int .i64 x.1, .int .i64 x.2] 48) ∧ a' = { tmps := #[.slice none 0 0, .func (.func 65) #[] #[.pointer (some ⟨Bm, 0, none⟩)], .pointer (some ⟨w.heap.size, 0, none⟩), undef, .slice none 0 0, .pointer (some ⟨nb, 0, none⟩), .func (.func 65) #[] #[.pointer (some ⟨Bm, 0, none⟩)], spV x, undef, undef, undef, undef, undef], defers := [] })
    ?assign ?body ?done
  case init =>
    have hz := HZA.out
    refine ⟨below_then HBA.out h1 HBA.out.size, ⟨.slice none 0 0, (h1.block _ (blk_lt HKA.out)).trans HKA.out, World.ownsRow_nil _ _ _ _, fun k hk => by simp [Value.ownBlock] at hk⟩, fun h => ?_, fun k hk => ?_⟩
    · rcases h with h | h | h
      · exact h
      · omega
      · omega
    · rcases hk with h | h | h
      · exact h.elim
      · omega
      · omega
  case assign =>
    intro l' x V K hV hK
    simp only [encSp]
    unfold spV
    gi_wp2_with fail
    exact hK _ _ ((Below.refl _ _).alloc (Nat.le_refl _) _) (fun W2 h2 => ⟨V.heap.size, but_blk h2 (heap_alloc_new _ _) (fun e => by omega), rfl⟩)
  case body =>
    rintro l' A' pre ⟨x1, x2⟩ a' V hI ⟨nb, hnb, rfl⟩ hOk hPf
    have HIN : Hid (AInv w w.heap.size (fun q => A' q ∨ q = wa.heap.size ∨ q = wa.heap.size + 1) pre V) := hI
    obtain ⟨v, hbx, hown, hnA⟩ := hI.box
    obtain ⟨va, vc, rfl⟩ := slice_of_ownK hown
    have c0 : V.cell? ⟨w.heap.size, 0, none⟩ = some (.slice va pre.length vc) := by rw [Lib.cell_of_heap hbx]; rfl
    have n0 : V.cell? ⟨nb, 0, none⟩ = some (.int .i64 x1) := by rw [Lib.cell_of_heap hnb]; rfl
    have n1 : V.cell? ⟨nb, 1, none⟩ = some (.int .i64 x2) := by rw [Lib.cell_of_heap hnb]; rfl
    have hvb : ¬ (Value.slice va pre.length vc).ownBlock = some w.heap.size := fun h => by obtain ⟨cs, e⟩ := own_blk hown h hbx; simp at e
    have hwV := hI.bel.size
    have hpl : pre.length + 1 ≤ 1000000 := by simp at hPf; omega
    have hON : (V.alloc (Obj.cells #[.int .i64 x1, .int .i64 x2] 48)).ownsRow w.heap.size 48 2 (.slice va pre.length vc) pre.length (pre.flatMap encP2) := World.ownsRow.alloc hown _
    have hszn : w.heap.size ≤ (V.alloc (Obj.cells #[.int .i64 x1, .int .i64 x2] 48)).heap.size := by simp; omega
    have hnw := new_cell2 V (.int .i64 x1) (.int .i64 x2) 48
    have b3 : Below V.heap.size V (V.alloc (Obj.cells #[.int .i64 x1, .int .i64 x2] 48)) := (Below.refl _ _).alloc (Nat.le_refl _) _
    have c3 : (V.alloc (Obj.cells #[.int .i64 x1, .int .i64 x2] 48)).heap[w.heap.size]? = some (Obj.cells #[.slice va pre.length vc] 80) := (b3.block _ (blk_lt hbx)).trans hbx
    have hz3 : (V.alloc (Obj.cells #[.int .i64 x1, .int .i64 x2] 48)).heap.size = V.heap.size + 1 := by simp
    have HZ3 : Hid ((V.alloc (Obj.cells #[.int .i64 x1, .int .i64 x2] 48)).heap.size = V.heap.size + 1) := hz3
    obtain ⟨ii, hii, hz0, hz1, hz2⟩ := info_parts infoSp
    have HOWN : Hid (OwnSp w.heap.size pre (.slice va pre.length vc) V) := hown
    clear hI hown hPf hz3
    gi_wp2_with (first
      | (gi_at_builtin; refine wpListIn_append_own_at _ rfl _ _ 80 rfl w.heap.size 48 ii _ 2 16 Try.underlying80 hii hz0 hz1 hz2 rfl (by omega) _ _ _ rfl hON ⟨V.heap.size, 0, none⟩ 1 1 [.int .i64 x1, .int .i64 x2] rfl rfl hnw (by simp [Value.oneCell']) (by unfold maxLen; omega) (by omega) hszn ?_)
      | gi_in)
    intro v' V4 ho4 hg4 _ hat4
    generalize V.alloc (Obj.cells #[.int .i64 x1, .int .i64 x2] 48) = V3 at *
    obtain ⟨na, nc, rfl⟩ := slice_of_ownK ho4
    have B34 : But (fun k => (Value.slice va pre.length vc).ownBlock = some k) V3 V4 := ⟨hg4.os, hg4.tape, hg4.output, hg4.size, fun k hk hd => hg4.block k hk (fun e => hd e.symm)⟩
    have c4 : V4.heap[w.heap.size]? = some (Obj.cells #[.slice va pre.length vc] 80) := but_blk B34 c3 hvb
    have t4 : V4.cell? ⟨w.heap.size, 0, none⟩ = some (.slice va pre.length vc) := by rw [Lib.cell_of_heap c4]; rfl
    have tf4 : V4.frozen? ⟨w.heap.size, 0, none⟩ = false := Lib.frozen_of_heap c4 _
    have HE : Hid (AInv w w.heap.size (fun q => A' q ∨ q = wa.heap.size ∨ q = wa.heap.size + 1) (pre ++ [(x1, x2)]) (V4.setCell ⟨w.heap.size, 0, none⟩ (.slice na (pre.length + 1) nc)) ∧ But (fun q => ¬ (A' q ∨ q = wa.heap.size ∨ q = wa.heap.size + 1)) V (V4.setCell ⟨w.heap.size, 0, none⟩ (.slice na (pre.length + 1) nc))) := by
      have hI := HIN.out
      have hown := HOWN.out
      have B45 : But (fun k => k = w.heap.size) V4 (V4.setCell ⟨w.heap.size, 0, none⟩ (.slice na (pre.length + 1) nc)) := (But.refl _ _).setCell _ _ (.inr rfl)
      have BD : But (fun k => (Value.slice va pre.length vc).ownBlock = some k ∨ k = w.heap.size) V (V4.setCell ⟨w.heap.size, 0, none⟩ (.slice na (pre.length + 1) nc)) := (But.of_next b3).trans ((B34.mono (fun k _ h => .inl h)).trans (B45.mono (fun k _ h => .inr h)))
      have htvl : ∀ k, (Value.slice va pre.length vc).ownBlock = some k → w.heap.size ≤ k ∧ k < V.heap.size := fun k hk => World.ownsRow.lt hown k hk
      refine ⟨⟨hI.bel.trans (BD.below hwV (fun k hk => hk.elim (fun h => (htvl k h).1) (fun h => by omega))), ⟨.slice na (pre.length + 1) nc, ?_, ?_, ?_⟩, hI.nb, fun k hk => ⟨(hI.low k hk).1, Nat.lt_of_lt_of_le (hI.low k hk).2 BD.size⟩⟩, BD.mono (fun k _ h h2 => h.elim (fun h => hnA k h h2) (fun h => hI.nb (by rw [← h]; exact h2)))⟩
      · simpa using blk_set (o := 0) c4 (.slice na (pre.length + 1) nc)
      · have h5 := ownsRow_keep ho4 B45 (fun k hk e => by obtain ⟨cs, e'⟩ := own_blk ho4 hk (by rw [e]; exact c4); simp at e')
        unfold OwnSp
        rw [List.flatMap_append, List.length_append]
        exact h5
      · intro k hk
        rcases hat4 with h | h
        · rw [h] at hk; exact hnA k hk
        · rw [h] at hk
          have hk2 : V.heap.size + 1 = k := by simpa using hk
          exact fun hA => by have := (hI.low k hA).2; omega
    clear ho4 hg4 hat4 B34 c3 c4 b3 hnw hON HIN HOWN hnb
    gi_wp2
    have HE' := HE.out
    simp only [not_or] at HE'
    exact HE'
  case done =>
    intro xs V hS hI hd
    obtain ⟨v, hbx, hown, hnA⟩ := hI.box
    obtain ⟨va, vc, rfl⟩ := slice_of_ownK hown
    have c0 : V.cell? ⟨w.heap.size, 0, none⟩ = some (.slice va xs.length vc) := by rw [Lib.cell_of_heap hbx]; rfl
    have HI : Hid (OwnSp w.heap.size xs (.slice va xs.length vc) V ∧ Below w.heap.size w V ∧ xs.Perm L) := ⟨hown, hI.bel, hS⟩
    clear hI hown hnA hS
    gi_wp2
    refine leaves_marksC (Rw := fun W => OwnSp w.heap.size xs (.slice va xs.length vc) W ∧ Below w.heap.size w W) (v := .slice va xs.length vc) (fun W _ => (results_tmp (t := 4) rfl _ _ _).trans (by rfl)) (fun d => w.heap.size ≤ d) (fun W d h1 h2 h3 => ?_) (fun W h => ⟨_, xs, rfl, HI.out.2.2, h⟩) [wa.heap.size] V ⟨by simp, fun d hd' => by simp at hd'; subst hd'; exact hd⟩ (fun d hd' => by simp at hd'; subst hd'; have := HZA.out; omega) ⟨HI.out.1, HI.out.2.1⟩
    have q := But.putObj W d (.deferred none)
    refine ⟨ownsRow_keep h3.1 q (fun k hk e => ?_), h3.2.trans (q.below h3.2.size (fun k hk => by omega))⟩
    subst e
    obtain ⟨cs, e'⟩ := own_blk h3.1 hk h2
    cases e'

set_option maxRecDepth 100000 in
set_option maxHeartbeats 1600000 in
theorem collect_any (Bm b : Nat) (L : List Sp) (g : Sp → Int) (w : World) (hm : w.heap[Bm]? = some (Obj.cells #[.map (some b)] 58)) (hM : MapN b L g w) (hl : L.length ≤ 1000000) :
    Calls Try.prog 63 #[.func (.func 65) #[] #[.pointer (some ⟨Bm, 0, none⟩)]] w fun e w' => ∃ v xs, e = .returned v ∧ xs.Perm L ∧ OwnSp w.heap.size xs v w' ∧ Below w.heap.size w w' := by
  have HC := appendSeq_any Bm b L g w hm hM hl
  clear hm hM
  go_enter Try.func63, Try.ntmps63
  go_wp2_with fail
  refine HC.mono ?_
  rintro e w1 ⟨v, xs, rfl, h1, h2, h3⟩
  clear HC
  obtain ⟨va, vc, rfl⟩ := slice_of_ownK h2
  go_wp2_with fail
  go_ret
  exact ⟨_, xs, rfl, h1, h2, h3⟩
end Go.Proofs.Ytjpbfckdiojghaa
