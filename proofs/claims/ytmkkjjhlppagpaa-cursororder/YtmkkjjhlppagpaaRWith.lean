/- The document's with, Down, Up. -/
import Derived.Test.YtmkkjjhlppagpaaCMath
import Derived.Test.YtmkkjjhlppagpaaRFind
namespace Go.Proofs.Ytmkkjjhlppagpaa
open Go.RowKit

theorem news_of {x : List Int} {xa : Option Addr} {W : World} (hr : RowI x xa W) : ∀ ad, xa = some ad → ∀ (k : Nat) u, (x.map encI)[k]? = some u → W.cell? (ad.add k) = some u := fun ad ha k u hu => by
  rw [List.getElem?_map] at hu
  cases hq2 : x[k]? with
  | none => rw [hq2] at hu; cases hu
  | some y2 =>
    rw [hq2] at hu
    obtain ⟨b9, o9, e9, _, c9⟩ := hr k y2 hq2
    rw [ha] at e9
    cases e9
    rw [add_plain, c9]
    exact hu

set_option maxRecDepth 100000 in
set_option maxHeartbeats 2000000 in
theorem with_any (l : List Int) (lv : Value) (k : Int) (w : World) (hl : SlP l lv w) (hll : l.length ≤ 10000) :
    Calls Try.prog 32 #[lv, .int .i64 k] w fun e w' => (∃ v, e = .returned v ∧ OwnI w.heap.size (l ++ [k]) v w') ∧ Below w.heap.size w w' := by
  obtain ⟨la, lc, rfl, hlr, hln, hlc⟩ := hl
  obtain ⟨i0, hi, hz0, hz1', hz2⟩ := info_parts infoI
  go_enter Try.func32, Try.ntmps32
  go_wp2_with (at_builtin; refine wpList_append_any rfl _ _ 25 rfl w.heap.size 3 i0 _ 1 8 Try.underlying25 hi hz0 hz1' hz2 rfl (by decide) (.slice none 0 0) 0 [] rfl (World.ownsRow_nil _ _ _ _) la l.length lc (l.map encI) rfl (fun e => ⟨by have := hln e; omega, hln e⟩) (by simp) (news_of hlr) (fun u hu => ?_) (by unfold maxLen; omega) (by omega) (Nat.le_refl _) ?_)
  · obtain ⟨y2, _, rfl⟩ := List.mem_map.1 hu; rfl
  · intro v' w4 ho hg4
    have HB : Hid (Below w.heap.size w w4) := (Below.refl _ _).grown hg4 (Nat.le_refl _) (fun k e => by cases e)
    have hown : OwnI w.heap.size l v' w4 := by simpa [OwnI] using ho
    have hB5 : Below w4.heap.size w4 (w4.alloc (Obj.cells #[.int .i64 k] 3)) := (Below.refl _ _).alloc (Nat.le_refl _) _
    have hown5 : OwnI w.heap.size l v' (w4.alloc (Obj.cells #[.int .i64 k] 3)) := ownsRow_next hown hB5
    have hone := SlP.one (W := w4) k
    obtain ⟨qa, qc, qe, q1, q2, q3, q4⟩ := hone
    injection qe with e1 e2 e3
    subst e1 e3
    have HB5 : Hid (Below w.heap.size w (w4.alloc (Obj.cells #[.int .i64 k] 3))) := below_next HB.out hB5
    have hbs := HB5.out.size
    clear e2 ho hg4 hown hB5 HB q2 q3 q4 hlr
    go_wp2_with (at_builtin; refine wpList_append_any rfl _ _ 25 rfl w.heap.size 3 i0 _ 1 8 Try.underlying25 hi hz0 hz1' hz2 rfl (by decide) v' l.length _ rfl hown5 (some ⟨w4.heap.size, 0, none⟩) 1 1 ([k].map encI) rfl (fun e => by cases e) (by simp) (news_of q1) (fun u hu => ?_) (by unfold maxLen; omega) (by omega) hbs ?_)
    · obtain ⟨y2, _, rfl⟩ := List.mem_map.1 hu; rfl
    · intro v5 w6 ho hg6
      have HE : Hid (Below w.heap.size w w6 ∧ OwnI w.heap.size (l ++ [k]) v5 w6) := ⟨HB5.out.grown hg6 hbs (fun k e => (World.ownsRow.lt hown5 k e).1), by simpa [OwnI] using ho⟩
      clear ho hg6 hown5 HB5 q1
      go_wp2_with fail
      go_ret
      exact ⟨⟨_, rfl, HE.out.2⟩, HE.out.1⟩

/-- The document's Find, as its callers take it. -/
theorem rfind_call {A : Nat → Prop} (n : Nat) (t : Nd) (v : Value) (p : List Int) (pv : Value) (w : World) (h : TAt A n t v w) (hc : cntN t ≤ 5000) (hp : SlP p pv w) (hpl : p.length ≤ 140737488351232) :
    Calls Try.prog 28 #[v, pv] w fun e w' => (∃ hd ka kl kc, e = .returned (.tuple #[ndV hd (.slice ka kl kc), .bool (findN t p).isSome]) ∧ hd = ((findN t p).getD zeroN).h ∧ kl = ((findN t p).getD zeroN).kids.length ∧ kl ≤ 140737488351232 ∧ (∃ m, TAt (fun _ => True) m ((findN t p).getD zeroN) (ndV hd (.slice ka kl kc)) w')) ∧ Below w.heap.size w w' := by
  obtain ⟨pa, pc, rfl, hr, _⟩ := hp
  refine (rfind_any n t v p pa pc w h hc hr hpl).mono ?_
  rintro e w1 ⟨⟨m, v', rfl, hT⟩, hb⟩
  obtain ⟨ka, kc, rfl, hk⟩ := hT.val
  exact ⟨⟨_, ka, _, kc, rfl, rfl, rfl, hk, m, hT⟩, hb⟩
end Go.Proofs.Ytmkkjjhlppagpaa
