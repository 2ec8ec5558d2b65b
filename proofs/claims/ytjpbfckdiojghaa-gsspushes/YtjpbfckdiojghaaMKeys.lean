/- Stacks: maps.Keys of a map of spots: each key once, in some order. -/
import Derived.Test.YtjpbfckdiojghaaMMap
import Derived.Test.YtjpbfckdiojghaaPRows0
import Derived.Sort.MapsRangeIn
namespace Go.Proofs.Ytjpbfckdiojghaa
open Go.RowKit Go.Maps Go.Shelf
attribute [local go_sem] Oper.semAt_some

/-- What has come so far: no key twice; those that the map has and that are no longer to come. -/
def ColS (D0 : DataW Value) (left : Lit → Bool) (ss : List Sp) : Prop := ss.Nodup ∧ (∀ x ∈ ss, okSp x) ∧ ∀ x, okSp x → (x ∈ ss ↔ (Maps.has D0 (litS x) = true ∧ left (litS x) = false))
theorem ColS.start (D0 : DataW Value) : ColS D0 (Maps.has D0) [] := ⟨List.nodup_nil, fun _ h => (by cases h), fun x _ => by cases Maps.has D0 (litS x) <;> simp⟩
theorem ColS.step {D0 : DataW Value} {left : Lit → Bool} {ss : List Sp} (h : ColS D0 left ss) {x : Sp} (hx : okSp x) (hlk : left (litS x) = true) (hhas : Maps.has D0 (litS x) = true) : ColS D0 (fun z => left z && !z.sameKey (litS x)) (ss ++ [x]) := by
  have hnew : x ∉ ss := fun hm => by have := ((h.2.2 x hx).1 hm).2; rw [hlk] at this; cases this
  refine ⟨List.nodup_append.2 ⟨h.1, by simp, fun a ha b hb => by simp at hb; subst hb; exact fun e => hnew (e ▸ ha)⟩, fun y hy => ?_, fun y hy => ?_⟩
  · rcases List.mem_append.1 hy with hy | hy
    · exact h.2.1 y hy
    · simp at hy; subst hy; exact hx
  · by_cases e : y = x
    · subst e; simp [hhas, WideAt.sameKey_self (litS_lit hx)]
    · have hn : (litS y).sameKey (litS x) = false := sameKey_ne (fun e' => e (litS_inj hy hx e'))
      simp [h.2.2 y hy, e, hn]
theorem ColS.perm {D0 : DataW Value} {left : Lit → Bool} {ss L : List Sp} (h : ColS D0 left ss) (hl : ∀ kl, left kl = false) (hnd : L.Nodup) (hok : ∀ s ∈ L, okSp s) (hh : ∀ kl, Maps.has D0 kl = true ↔ ∃ s ∈ L, litS s = kl) : ss.Perm L := by
  refine (List.perm_ext_iff_of_nodup h.1 hnd).2 fun x => ?_
  constructor
  · intro hx
    obtain ⟨t, ht, e⟩ := (hh _).1 ((h.2.2 x (h.2.1 x hx)).1 hx).1
    rw [← litS_inj (hok t ht) (h.2.1 x hx) e]; exact ht
  · intro hx
    exact (h.2.2 x (hok x hx)).2 ⟨(hh _).2 ⟨x, hx, rfl⟩, hl _⟩
def encSp (x : Sp) : Array Value := #[spV x]
theorem ranges_kept {w w' : World} {P : Program} {k : TypeId} {R : Value → Option (DataW Value × List MemPlace)} {b r n : Nat} {D : DataW Value} {left : Lit → Bool} {cnt : Nat} (h : w.ranges P k R b r n D left cnt) (h1 : w'.heap[b]? = w.heap[b]?) (h2 : w'.heap[r]? = w.heap[r]?) : w'.ranges P k R b r n D left cnt := by
  obtain ⟨es, clock, since, seen, c0, k1, k2, k3, k4, k5, k6⟩ := h
  exact ⟨es, clock, since, seen, c0, h1.trans k1, k2, k3, k4, h2.trans k5, k6⟩
theorem ranges_lt {w : World} {P : Program} {k : TypeId} {R : Value → Option (DataW Value × List MemPlace)} {b r n : Nat} {D : DataW Value} {left : Lit → Bool} {cnt : Nat} (h : w.ranges P k R b r n D left cnt) : b < w.heap.size ∧ r < w.heap.size := by
  obtain ⟨es, clock, since, seen, c0, k1, k2, k3, k4, k5, k6⟩ := h
  exact ⟨blk_lt k1, blk_lt k5⟩
theorem but_grown {W W' : World} {row : Option Nat} {A : Nat → Prop} (hg : W.grownBy W' row) (hr : ∀ r, row = some r → A r) : But A W W' := ⟨hg.os, hg.tape, hg.output, hg.size, fun k hk hd => hg.block k hk (fun e => hd (hr k e.symm))⟩

/-- What is read only. -/
def FxM (wm : World) (b Bm : Nat) (V : World) : Prop := V.heap[b]? = wm.heap[b]? ∧ V.heap[Bm]? = wm.heap[Bm]?

set_option maxRecDepth 100000 in
set_option maxHeartbeats 1600000 in
theorem keysF_any (mb : Nat) (w : World) : Calls Try.prog 49 #[.map (some mb)] w fun e w' => e = .returned (.func (.func 65) #[] #[.pointer (some ⟨w.heap.size, 0, none⟩)]) ∧ w' = w.alloc (Obj.cells #[.map (some mb)] 58) := by
  go_enter Try.func49, Try.ntmps49
  go_wp2_with fail
  go_ret
  exact ⟨rfl, rfl⟩

set_option maxRecDepth 100000 in
set_option maxHeartbeats 1600000 in
theorem keys_gives (n : Nat) (Bm b : Nat) (L : List Sp) (g : Sp → Int) (wm W : World) (hm0 : wm.heap[Bm]? = some (Obj.cells #[.map (some b)] 58)) (hM0 : MapN b L g wm) :
    GivesT n Try.prog 65 #[.pointer (some ⟨Bm, 0, none⟩)] encSp (fun xs _ => xs.Perm L) (fun _ x _ => okSp x) (fun xs => xs.length ≤ L.length) (fun _ => False) (FxM wm b Bm) W := by
  intro yl J St hF hJ
  show CallsIn Fence.wide n Try.prog 65 #[.func (.yield yl) #[] #[], .pointer (some ⟨Bm, 0, none⟩)] W _
  have HF : Hid (FeedsT (n - 1) Try.prog yl encSp (fun _ x _ => okSp x) (fun xs => xs.length ≤ L.length) (FxM wm b Bm) J St) := hF
  have hm := (hF.fx _ _ _ hJ).2.trans hm0
  have hM := hM0.kept (hF.fx _ _ _ hJ).1
  clear hm0 hM0
  have HJ : Hid (J (fun _ => False) [] W) := hJ
  clear hF hJ
  obtain ⟨D, hown, hsz, hhas, _⟩ := hM.own
  have HH : Hid (L.Nodup ∧ (∀ s ∈ L, okSp s) ∧ ∀ kl, Maps.has D kl = true ↔ ∃ s ∈ L, litS s = kl) := ⟨hM.nd, hM.ok, hhas⟩
  have HZ : Hid (Maps.size D = L.length) := hsz
  have c0 : W.cell? ⟨Bm, 0, none⟩ = some (.map (some b)) := by rw [Lib.cell_of_heap hm]; rfl
  have hBl : Bm < W.heap.size := blk_lt hm
  have hbl : b < W.heap.size := hM.lt
  clear hM hhas hsz hm
  refine callsIn_of_wp Try.func65 rfl trivial ?_ rfl
  simp only [Try.ntmps65, List.size_toArray, List.length_cons, List.length_nil, Nat.reduceAdd, Nat.reduceSub, Array.replicate_succ, Array.replicate_zero, List.push_toArray, List.append_toArray, List.nil_append, List.cons_append]
  gi_wp2_with (first
    | (gi_at_range; refine wpListIn_range_own _ rfl _ 58 rfl 48 3 lawSp Try.underlying58 heldR b L.length D rfl hown ?_; intro w0 hrg0 hg0 hs0)
    | gi_in)
  go_frame
  gi_loopw [3] (fun _ wr => ∃ (left : Lit → Bool) (cnt : Nat) (ss : List Sp) (A : Nat → Prop), wr.ranges Try.prog 48 heldR b W.heap.size L.length D left cnt ∧ ss.length + cnt ≤ L.length ∧ Hid (ColS D left ss) ∧ Hid (J A ss wr) ∧ Hid (A W.heap.size))
    (fun _ wr => wr.rangeLeft b W.heap.size)
  case atStart =>
    refine ⟨_, _, [], _, hrg0, by rw [HZ.out]; simp, ColS.start D, HF.out.step _ _ _ _ HJ.out (but_grown hg0 (fun r e => by cases e)), ?_⟩
    exact .inr ⟨Nat.le_refl _, by rw [hs0]; omega⟩
  case round =>
    obtain ⟨left, cnt, ss, A, hrg, hcs, HC, HJs, HA⟩ := hrel
    clear hrg0 hg0 hs0 HJ c0 hown
    gi_wp2_with (first
      | (gi_at_next; refine wpListIn_next_ranges _ rfl _ rfl 48 lawSp heldR spV id (fun key kl hk => by obtain ⟨x, hx, _⟩ := keySp_inv hk; exact ⟨x, hx⟩) (fun v _ _ => ⟨v, rfl⟩) b W.heap.size L.length _ _ _ rfl hrg ?_ ?_)
      | gi_in)
    · -- nothing is left
      intro hc0 hl0
      have HE : Hid (ss.Perm L ∧ J (fun _ => False) ss wr) := ⟨HC.out.perm hl0 HH.out.1 HH.out.2.1 HH.out.2.2, HF.out.less _ _ _ _ HJs.out (fun k hk => hk.elim)⟩
      clear HC HJs HA HF HH
      gi_wp2
      go_end0
      exact ⟨⟨_, rfl⟩, .inl ⟨ss, HE.out⟩⟩
    · intro xp xs c kl yd yp w2 cnt2 hkey hlk hv hat hrg2 hlt hg2 hs2 hen
      obtain ⟨x', ex, hx⟩ := keySp_inv hkey
      obtain rfl := spV_inj ex
      clear ex
      have hkl : kl = litS (xp, xs) := by have := litS_key hx; rw [hkey] at this; exact Option.some.inj this
      subst hkl
      have hhas : Maps.has D (litS (xp, xs)) = true := has_true_of_atKey hat
      have hl2 := ranges_lt hrg2
      have bA : But A wr w2 := but_grown hg2 (fun r e => by cases e; exact HA.out)
      have HJ2 : Hid (J A ss w2) := HF.out.turn _ _ _ _ HJs.out bA
      have HC2 : Hid (ColS D (fun z => left z && !z.sameKey (litS (xp, xs))) (ss ++ [(xp, xs)])) := HC.out.step hx hlk hhas
      clear HJs HC bA hat hv hkey hg2 hlk hhas
      unfold spV at hen ⊢
      simp only at hen ⊢
      have BB : Below w2.heap.size w2 (w2.alloc (Obj.cells #[.int .i64 xp, .int .i64 xs] 48)) := (Below.refl _ _).alloc (Nat.le_refl _) _
      obtain ⟨A2, hA2⟩ : ∃ A2 : Nat → Prop, A2 = fun k => A k ∨ (w2.heap.size ≤ k ∧ k < (w2.alloc (Obj.cells #[.int .i64 xp, .int .i64 xs] 48)).heap.size) := ⟨_, rfl⟩
      have hJ3 : J A2 ss (w2.alloc (Obj.cells #[.int .i64 xp, .int .i64 xs] 48)) := by rw [hA2]; exact HF.out.new _ _ _ _ HJ2.out BB
      have HA2 : Hid (A2 W.heap.size) := by rw [hA2]; exact .inl HA.out
      have fx3 := (HF.out.fx _ _ _ hJ3).1
      have rgA := ranges_kept hrg2 (BB.block b hl2.1) (BB.block _ hl2.2)
      have hlA := ranges_lt rgA
      obtain ⟨fn, tmps, assign, body, hyl, hR⟩ := yield_any (m' := n - 1) (HF.out.yield A2 ss (xp, xs) _ hJ3 hx (by simp; omega))
      unfold encSp spV at hyl
      simp only at hyl
      have HG : Hid (∀ W', J A2 (ss ++ [(xp, xs)]) W' → But (fun k => ¬ A2 k) (w2.alloc (Obj.cells #[.int .i64 xp, .int .i64 xs] 48)) W' → W'.ranges Try.prog 48 heldR b W.heap.size L.length D (fun z => left z && !z.sameKey (litS (xp, xs))) cnt2) := fun W' hJ' hB => ranges_kept rgA ((HF.out.fx _ _ _ hJ').1.trans fx3.symm) (hB.block _ hlA.2 (fun h => h HA2.out))
      have HS : Hid (∀ W', St A2 W' → St (fun _ => False) W') := fun W' h => HF.out.sless _ _ _ h (fun k hk => hk.elim)
      clear HA hA2 hrg2 rgA hJ3 fx3 HJ2 HH hx BB hl2 hlA HF
      gi_wp2_with fail
      refine ⟨fun h => (by cases h), hR.mono ?_⟩
      rintro e W3 (⟨rfl, hJ3, hB3⟩ | ⟨rfl, hSt, _⟩)
      · have hrg3 := HG.out W3 hJ3 hB3
        have HJ3 : Hid (J A2 (ss ++ [(xp, xs)]) W3) := hJ3
        clear hR hyl hB3 hJ3 HG hen
        gi_wp2
        go_roundw
        case rel => exact ⟨_, cnt2, ss ++ [(xp, xs)], A2, hrg3, by simp; omega, HC2, HJ3, HA2⟩
        case measure => rw [hrg3.left_eq, hrg.left_eq]; exact hlt
      · have HE := HS.out W3 hSt
        clear hR hyl hSt hen
        gi_wp2
        refine bodyPost_ret (results_none rfl _ _ _) rfl ?_
        exact ⟨⟨_, rfl⟩, .inr HE⟩
end Go.Proofs.Ytjpbfckdiojghaa
