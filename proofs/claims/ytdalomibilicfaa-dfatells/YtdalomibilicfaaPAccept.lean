/- Classes of states: byAccept. -/
import Derived.Test.YtdalomibilicfaaRunMath
import Derived.Test.YtdalomibilicfaaOMeet
import Derived.Test.YtdalomibilicfaaJPFit
namespace Go.Proofs.Ytdalomibilicfaa
open Go.RowKit

/-- What is kept: the things that are met, and the row of their numbers, apart. -/
structure AccI (B o mb : Nat) (sv : Value) (L : List Int) (cv : Value) (P : List Int) (W : World) : Prop where
  ord : OrdI B o mb sv L W
  row : OwnI B P cv W
  part : ∀ k, cv.ownBlock = some k → ¬ FtO o mb sv k
theorem own_mono {W : World} {B B' n k : Nat} {e : TypeId} {v : Value} {xs : List Value} (h : W.ownsRow B e k v n xs) (hb : B' ≤ B) : W.ownsRow B' e k v n xs := by
  refine ⟨h.1, ?_⟩
  rcases h.2 with h2 | ⟨g, cap, cur, hv, hB, rest⟩
  · exact .inl h2
  · exact .inr ⟨g, cap, cur, hv, Nat.le_trans hb hB, rest⟩
theorem own_below {W W' : World} {B n k : Nat} {e : TypeId} {v : Value} {xs : List Value} (h : W.ownsRow B e k v n xs) (hb : Below W.heap.size W W') : W'.ownsRow B e k v n xs := ownsRow_below4 h hb
theorem below_but {n : Nat} {D : Nat → Prop} {a b c : World} (h : Below n a b) (hb : But D b c) (hn : n ≤ a.heap.size) (hd : ∀ k, D k → n ≤ k) : Below n a c := h.trans (hb.below (Nat.le_trans hn h.size) hd)

set_option maxRecDepth 100000 in
set_option maxHeartbeats 3200000 in
theorem byAccept_any (d : List Ds) (v : Value) (w : World) (hl : SlD d v w) (hn : d.length ≤ 100000) :
    Calls Try.prog 45 #[v] w fun e w' => ∃ cv, e = .returned cv ∧ OwnI w.heap.size (meetL [(-1 : Int)] (d.map Ds.acc)) cv w' ∧ Below w.heap.size w w' := by
  have HL : Hid (∀ W, Below w.heap.size w W → SlD d v W) := fun W hW => hl.next hW
  obtain ⟨va, vc, rfl, _⟩ := hl
  have C1 := fromI_any (-1) w ⟨by omega, by omega⟩
  obtain ⟨ii, hii, hz0, hz1, hz2⟩ := info_parts info3
  go_enter Try.func45, Try.ntmps45
  go_wp2_with fail
  refine C1.mono ?_
  rintro e w1 ⟨o, mb, sv, rfl, hO, hB⟩
  have HS : Hid (OrdI w.heap.size o mb sv [-1] w1 ∧ Below w.heap.size w w1) := ⟨hO, hB⟩
  clear C1 hO hB
  go_wp2_with fail
  go_loopw [4, 10] (fun cv iv wr => ∃ (j : Nat) (ca : Option Addr) (cc : Nat) (sv : Value) (L P : List Int), iv = .int .i64 j ∧ j ≤ d.length ∧ cv = .slice ca P.length cc ∧ P.length ≤ j ∧ L.length ≤ j + 1 ∧ Hid (AccI w.heap.size o mb sv L cv P wr ∧ Below w.heap.size w wr ∧ meetL [(-1 : Int)] (d.map Ds.acc) = P ++ meetL L ((d.drop j).map Ds.acc))) (fun _ i _ => d.length - (intOf i).toNat)
  case atStart =>
    exact ⟨0, none, 0, sv, [-1], [], rfl, Nat.zero_le _, rfl, by simp, by simp, ⟨HS.out.1, World.ownsRow_nil _ _ _ _, fun k hk => (by cases hk)⟩, HS.out.2, by simp⟩
  case round =>
    obtain ⟨j, ca, cc, sv, L, P, rfl, hj, rfl, hP, hL, HX⟩ := hrel
    clear HS
    by_cases hlt : j < d.length
    case neg =>
      obtain rfl : j = d.length := by omega
      have HE : Hid (OwnI w.heap.size (meetL [(-1 : Int)] (d.map Ds.acc)) (.slice ca P.length cc) wr ∧ Below w.heap.size w wr) := by
        obtain ⟨h1, h2, h3⟩ := HX.out
        rw [List.drop_of_length_le (Nat.le_refl _)] at h3
        simp only [List.map_nil, meetL, List.append_nil] at h3
        exact ⟨by rw [h3]; exact h1.row, h2⟩
      clear HX HL
      go_wp2_with fail
      go_ret
      exact ⟨_, rfl, HE.out⟩
    obtain ⟨h1, h2, h3⟩ := HX.out
    obtain ⟨_, _, e0, hd, _⟩ := HL.out _ h2
    cases e0
    obtain ⟨b, off, u, rfl, hb, c1, c2, c3, hac⟩ := hd.at (Below.refl _ _) hlt
    rw [List.drop_eq_getElem_cons hlt] at h3
    have ba : Below wr.heap.size wr (wr.alloc (Obj.cells #[u, .int .i64 d[j].acc] 37)) := below_box2 _ _ _ _
    generalize d[j] = x at *
    obtain ⟨xa, xc, rfl, _⟩ := c3
    have C2 := meetI_any w.heap.size o mb sv L x.acc (wr.alloc (Obj.cells #[.slice xa x.arcs.length xc, .int .i64 x.acc] 37)) (h1.ord.next ba) hac (by omega)
    have HI : Hid (OwnI w.heap.size P (.slice ca P.length cc) (wr.alloc (Obj.cells #[.slice xa x.arcs.length xc, .int .i64 x.acc] 37)) ∧ (∀ k, (Value.slice ca P.length cc).ownBlock = some k → ¬ FtO o mb sv k ∧ k < wr.heap.size) ∧ Below w.heap.size w (wr.alloc (Obj.cells #[.slice xa x.arcs.length xc, .int .i64 x.acc] 37)) ∧ (∀ k, FtO o mb sv k → w.heap.size ≤ k) ∧ meetL [(-1 : Int)] (d.map Ds.acc) = P ++ meetL L (x.acc :: (d.drop (j + 1)).map Ds.acc)) :=
      ⟨own_below h1.row ba, fun k hk => ⟨h1.part k hk, (World.ownsRow.lt h1.row k hk).2⟩, h2.trans (ba.mono h2.size), fun k hk => (h1.ord.low hk).1, by rw [h3]; rfl⟩
    have hza : wr.heap.size ≤ (wr.alloc (Obj.cells #[.slice xa x.arcs.length xc, .int .i64 x.acc] 37)).heap.size := ba.size
    clear h1 h2 h3 HX hd ba
    go_wp2_with fail
    refine C2.mono ?_
    rintro e w3 ⟨rfl, sv', hO3, hB3, hat3⟩
    obtain ⟨g1, g2, g3, g4, g5⟩ := HI.out
    have hq : idxK (addK L x.acc) x.acc ≤ L.length := by
      have h1 := idxK_lt (addK_mem L x.acc)
      have : (addK L x.acc).length ≤ L.length + 1 := by unfold addK; split <;> simp
      omega
    have r3 : OwnI w.heap.size P (.slice ca P.length cc) w3 := ownsRow_keep g1 hB3 (fun k hk => (g2 k hk).1)
    have B3 : Below w.heap.size w w3 := below_but g3 hB3 (Nat.le_refl _) g4
    have n3 : ∀ k, (Value.slice ca P.length cc).ownBlock = some k → ¬ FtO o mb sv' k := by
      intro k hk h
      have hkk := g2 k hk
      rcases h with h | h | h
      · exact hkk.1 (.inl h)
      · exact hkk.1 (.inr (.inl h))
      · rcases hat3 with h' | ⟨j', h', hj'⟩
        · exact hkk.1 (.inr (.inr (by rw [← h']; exact h)))
        · rw [h'] at h; cases h; omega
    have g5' : meetL [(-1 : Int)] (d.map Ds.acc) = (P ++ [(idxK (addK L x.acc) x.acc : Int)]) ++ meetL (addK L x.acc) ((d.drop (j + 1)).map Ds.acc) := by rw [g5]; simp [meetL]
    have hLn : (addK L x.acc).length ≤ j + 2 := by
      unfold addK
      split
      · omega
      · simp; omega
    generalize addK L x.acc = L' at *
    generalize idxK L' x.acc = q at *
    have ba : Below w3.heap.size w3 (w3.alloc (Obj.cells #[.int .i64 q] 3)) := below_box _ _ _
    have HR : (w3.alloc (Obj.cells #[.int .i64 q] 3)).ownsRow w.heap.size 3 1 (.slice ca P.length cc) P.length (P.map encI) := own_below r3 ba
    have hBs : w.heap.size ≤ (w3.alloc (Obj.cells #[.int .i64 q] 3)).heap.size := Nat.le_trans B3.size ba.size
    have HNW := new_cell w3 (.int .i64 q) 3
    have HJ : Hid (OrdI w.heap.size o mb sv' L' (w3.alloc (Obj.cells #[.int .i64 q] 3)) ∧ Below w.heap.size w (w3.alloc (Obj.cells #[.int .i64 q] 3)) ∧ (∀ k, (Value.slice ca P.length cc).ownBlock = some k → ¬ FtO o mb sv' k) ∧ meetL [(-1 : Int)] (d.map Ds.acc) = (P ++ [(q : Int)]) ++ meetL L' ((d.drop (j + 1)).map Ds.acc)) := ⟨hO3.next ba, B3.trans (ba.mono B3.size), n3, g5'⟩
    clear C2 g1 g2 g3 g4 g5 r3 B3 n3 g5' hO3 hB3 hat3 HI hza ba c1 c2 hq
    go_wp2_with (at_builtin; refine wpList_append_own_at _ rfl _ _ 57 rfl w.heap.size 3 ii _ 1 8 Try.underlying57 hii hz0 hz1 hz2 rfl (by omega) _ _ _ rfl HR _ 1 1 [.int .i64 q] rfl rfl HNW (by simp [Value.oneCell']) (by unfold maxLen; omega) (by omega) hBs ?_)
    intro v' w8 hown' hgrow _ hat
    have HE : Hid (AccI w.heap.size o mb sv' L' v' (P ++ [(q : Int)]) w8 ∧ Below w.heap.size w w8 ∧ meetL [(-1 : Int)] (d.map Ds.acc) = (P ++ [(q : Int)]) ++ meetL L' ((d.drop (j + 1)).map Ds.acc)) := by
      obtain ⟨g1, g2, g3, g4⟩ := HJ.out
      have B8 := but_grown (A := fun k => (Value.slice ca P.length cc).ownBlock = some k) hgrow (fun r hr => hr)
      refine ⟨⟨g1.but B8 (fun k hk h => g3 k h hk), by simpa [OwnI, encI] using hown', fun k hk => ?_⟩, below_but g2 B8 (Nat.le_refl _) (fun k hk => (World.ownsRow.lt HR k hk).1), g4⟩
      rcases hat with h | h
      · exact g3 k (by rw [← h]; exact hk)
      · intro hF
        rw [h] at hk; cases hk
        have h9 := (g1.low hF).2
        simp at h9
    obtain ⟨va', vc', rfl⟩ := slice_of_ownK hown'
    clear hown' hgrow hat HJ HNW HR hBs HL
    go_wp2_with fail
    exact ⟨⟨j + 1, va', vc', sv', L', P ++ [(q : Int)], by go_num, by omega, by simp, by simp; omega, by omega, HE⟩, by simp [intOf]; omega⟩
end Go.Proofs.Ytdalomibilicfaa
