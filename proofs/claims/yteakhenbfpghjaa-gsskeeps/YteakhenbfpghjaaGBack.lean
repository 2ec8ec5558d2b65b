/- Stacks: the document's Back. -/
import Derived.Test.YteakhenbfpghjaaGFew
namespace Go.Proofs.Yteakhenbfpghjaa
open Go.RowKit

def putAll (xs l : List Int) : List Int := xs.foldl (fun a x => putL x a) l
def lksAt (l : List Gn) (k : Int) : List Int := ((l[k.toNat]?).map Gn.links).getD []
def stepN (l : List Gn) (cur acc : List Int) : List Int := cur.foldl (fun a k => putAll (lksAt l k) a) acc
def backN (l : List Gn) : Nat → List Int → List Int
  | 0, c => c
  | n + 1, c => backN l n (stepN l c [])
def backF (l : List Gn) (node n : Int) : List Int := if 0 ≤ node ∧ node < l.length ∧ 0 ≤ n ∧ n ≤ 64 then backN l n.toNat [node] else []
def InL (n : Nat) (l : List Int) : Prop := ∀ y ∈ l, 0 ≤ y ∧ y < n
def UpL (l : List Int) : Prop := l.Pairwise (· < ·)
def LinksIn (l : List Gn) : Prop := ∀ x ∈ l, InL l.length x.links

theorem mem_putL {x y : Int} : ∀ {l : List Int}, y ∈ putL x l ↔ y = x ∨ y ∈ l
  | [] => by simp [putL]
  | z :: l => by
    rw [putL]
    split
    · rw [List.mem_cons, mem_putL, List.mem_cons]; exact ⟨fun h => h.elim (fun h => .inr (.inl h)) (fun h => h.elim .inl (fun h => .inr (.inr h))), fun h => h.elim (fun h => .inr (.inl h)) (fun h => h.elim .inl (fun h => .inr (.inr h)))⟩
    · split
      · rename_i h; subst h; simp
      · simp
theorem up_putL {x : Int} : ∀ {l : List Int}, UpL l → UpL (putL x l)
  | [], _ => by simp [putL, UpL]
  | z :: l, h => by
    have h2 : (∀ y ∈ l, z < y) ∧ UpL l := List.pairwise_cons.1 h
    rw [putL]
    split
    · rename_i hz
      refine List.pairwise_cons.2 ⟨fun y hy => ?_, up_putL h2.2⟩
      rcases mem_putL.1 hy with rfl | hy
      · exact hz
      · exact h2.1 y hy
    · split
      · exact h
      · refine List.pairwise_cons.2 ⟨fun y hy => ?_, h⟩
        rcases List.mem_cons.1 hy with rfl | hy
        · omega
        · have := h2.1 y hy; omega
theorem inL_putL {x : Int} {n : Nat} {l : List Int} (h : InL n l) (hx : 0 ≤ x ∧ x < n) : InL n (putL x l) := fun y hy => (mem_putL.1 hy).elim (fun e => e ▸ hx) (h y)
theorem up_len_from {n : Nat} : ∀ {l : List Int} {a : Int}, UpL l → (∀ y ∈ l, a ≤ y ∧ y < n) → a ≤ n → (l.length : Int) ≤ n - a
  | [], a, _, _, ha => by simp; omega
  | z :: l, a, h, hi, ha => by
    have h2 : (∀ y ∈ l, z < y) ∧ UpL l := List.pairwise_cons.1 h
    have hz := hi z (by simp)
    have := up_len_from (l := l) (a := z + 1) h2.2 (fun y hy => ⟨by have := h2.1 y hy; omega, (hi y (by simp [hy])).2⟩) (by omega)
    rw [List.length_cons]
    omega
theorem up_len {n : Nat} {l : List Int} (h : UpL l) (hi : InL n l) : l.length ≤ n := by
  have := up_len_from (a := 0) h hi (by omega)
  omega
theorem lksAt_eq {l : List Gn} {k : Int} {j : Nat} (hk : k = j) (hj : j < l.length) : lksAt l k = l[j].links := by
  subst hk
  simp [lksAt, hj]
theorem putAll_cons {x : Int} {xs l : List Int} : putAll (x :: xs) l = putAll xs (putL x l) := rfl
theorem stepN_cons {g : List Gn} {x : Int} {xs l : List Int} : stepN g (x :: xs) l = stepN g xs (putAll (lksAt g x) l) := rfl
theorem slI_one {w : World} {node : Int} (h : i64B node) {W : World} (hb : Below (w.alloc (Obj.cells #[.int .i64 node] 3)).heap.size (w.alloc (Obj.cells #[.int .i64 node] 3)) W) : SlI [node] (.slice (some ⟨w.heap.size, 0, none⟩) 1 1) W := by
  have h0 : SlI [node] (.slice (some ⟨w.heap.size, 0, none⟩) 1 1) (w.alloc (Obj.cells #[.int .i64 node] 3)) := by
    refine ⟨_, 1, rfl, fun i r hr => ?_, fun e => (by cases e), Nat.le_refl _, fun y hy => by simp at hy; subst hy; exact h⟩
    match i with
    | 0 =>
      simp at hr; subst hr
      exact ⟨_, 0, rfl, by simp, by simp [encI]⟩
    | i + 1 => simp at hr
  exact h0.next hb

set_option maxRecDepth 100000 in
set_option maxHeartbeats 1600000 in
theorem gback_any (l : List Gn) (v : Value) (node n : Int) (w : World) (hl : SlN l v w) (hin : LinksIn l) (hlen : l.length ≤ 1000000) :
    Calls Try.prog 19 #[.agg #[v], .int .i64 node, .int .i64 n] w fun e w' => ∃ v', e = .returned v' ∧ SlI (backF l node n) v' w' ∧ Below w.heap.size w w' := by
  have HL : Hid (∀ W, Below w.heap.size w W → SlN l v W) := fun W hb => hl.next hb
  have HIN : Hid (LinksIn l) := hin
  clear hin
  obtain ⟨la, lc, rfl, _, _, _, hlb⟩ := hl
  have B0 := below_box w (.slice la l.length lc) 24
  have b0 : (w.alloc (Obj.cells #[.slice la l.length lc] 24)).heap[w.heap.size]? = some (Obj.cells #[.slice la l.length lc] 24) := heap_alloc_new _ _
  by_cases hgo : 0 ≤ node ∧ node < l.length ∧ 0 ≤ n ∧ n ≤ 64
  case neg =>
    have HV : Hid (backF l node n = []) := by show _ = _; rw [backF, if_neg hgo]
    have hcase : (decide (node < 0) = true) ∨ (decide (node < 0) = false ∧ decide (node ≥ l.length) = true) ∨ (decide (node < 0) = false ∧ decide (node ≥ l.length) = false ∧ decide (n < 0) = true) ∨ (decide (node < 0) = false ∧ decide (node ≥ l.length) = false ∧ decide (n < 0) = false ∧ decide (n > 64) = true) := by
      simp only [decide_eq_true_eq, decide_eq_false_iff_not]
      omega
    clear hgo HL HIN
    go_enter Try.func19, Try.ntmps19
    rcases hcase with d1 | ⟨d1, d2⟩ | ⟨d1, d2, d3⟩ | ⟨d1, d2, d3, d4⟩ <;>
    (go_wp2_with fail
     go_ret
     exact ⟨_, rfl, by rw [HV.out]; exact ⟨none, 0, rfl, RowAt.nil _ _ _, fun _ => rfl, Nat.le_refl _, by simp⟩, B0⟩)
  obtain ⟨N, rfl⟩ : ∃ N : Nat, n = N := ⟨n.toNat, by omega⟩
  have HV : Hid (backF l node N = backN l N [node]) := by show _ = _; rw [backF, if_pos hgo]; rfl
  obtain ⟨g1, g2, _, g4⟩ := hgo
  have d1 : decide (node < 0) = false := decide_eq_false (by omega)
  have d2 : decide (node ≥ (l.length : Int)) = false := decide_eq_false (by omega)
  have d3 : decide ((N : Int) < 0) = false := decide_eq_false (by omega)
  have d4 : decide ((N : Int) > 64) = false := decide_eq_false (by omega)
  have HN : Hid (i64B node ∧ InL l.length [node]) := ⟨⟨by omega, by omega⟩, fun y hy => by simp at hy; subst hy; exact ⟨g1, g2⟩⟩
  go_enter Try.func19, Try.ntmps19
  go_wp2_with fail
  have hs0 : (w.alloc (Obj.cells #[.slice la l.length lc] 24)).heap.size = w.heap.size + 1 := by simp
  generalize w.alloc (Obj.cells #[.slice la l.length lc] 24) = w0 at *
  have b1 : (w0.alloc (Obj.cells #[.int .i64 node] 3)).heap[w.heap.size]? = some (Obj.cells #[.slice la l.length lc] 24) := by
    rw [← b0]
    exact ((Below.refl _ w0).alloc (Nat.le_refl _) _).block _ (blk_lt b0)
  have B1 : Below w.heap.size w (w0.alloc (Obj.cells #[.int .i64 node] 3)) := B0.alloc B0.size _
  have HS0 : Hid (SlI [node] (.slice (some ⟨w.heap.size + 1, 0, none⟩) 1 1) (w0.alloc (Obj.cells #[.int .i64 node] 3))) := by
    have := slI_one (w := w0) HN.out.1 (Below.refl _ _)
    rw [hs0] at this
    exact this
  clear hs0
  generalize w0.alloc (Obj.cells #[.int .i64 node] 3) = w1 at *
  have hz := blk_lt b1
  have HT : Hid (∀ W, Below w1.heap.size w1 W → W.cell? ⟨w.heap.size, 0, none⟩ = some (.slice la l.length lc) ∧ Below w.heap.size w W) := fun W hW => ⟨(hW.cell (p := ⟨w.heap.size, 0, none⟩) hz).trans (by rw [Lib.cell_of_heap b1]; rfl), B1.trans (hW.mono B1.size)⟩
  clear B0 b0 B1 b1 d1 d2 d3 d4 g1 g2
  go_loopw [7, 8] (fun lv iv wr => ∃ (i : Nat) (c : List Int), iv = .int .i64 i ∧ i ≤ N ∧ SlI c lv wr ∧ UpL c ∧ InL l.length c ∧ Hid (backF l node N = backN l (N - i) c) ∧ Below w1.heap.size w1 wr) (fun _ i _ => N - (intOf i).toNat)
  case atStart => exact ⟨0, [node], rfl, Nat.zero_le _, HS0.out, List.pairwise_singleton _ _, HN.out.2, HV.out, Below.refl _ _⟩
  case round =>
  obtain ⟨i, c, rfl, hi, hc, hu, hcn, HF, hW⟩ := hrel
  clear HV HN HS0
  have HC : Hid (∀ W, Below wr.heap.size wr W → SlI c u7 W) := fun W hb => hc.next hb
  obtain ⟨c0, BW⟩ := HT.out wr hW
  have hclen := up_len hu hcn
  by_cases hlt : i < N
  case neg =>
    obtain rfl : i = N := by omega
    have HV : Hid (backF l node i = c) := by show _ = _; rw [HF.out, Nat.sub_self]; rfl
    clear HL HF HT HIN hc
    go_wp2_with fail
    go_ret
    exact ⟨_, rfl, by rw [HV.out]; exact HC.out _ (Below.refl _ _), BW⟩
  obtain ⟨ca, cc, rfl, _, _, _, _⟩ := hc
  have HF2 : Hid (backF l node N = backN l (N - (i + 1)) (stepN l c [])) := by
    show _ = _
    rw [HF.out, show N - i = (N - (i + 1)) + 1 by omega]
    rfl
  have HCN : Hid (InL l.length c) := hcn
  clear HF hcn hu
  go_wp2_with fail
  obtain ⟨wo, hwo⟩ : ∃ wo, wo = wr := ⟨_, rfl⟩
  subst hwo
  go_loopw [9, 10] (fun nv kv w2 => ∃ (k : Nat) (acc : List Int), kv = .int .i64 k ∧ k ≤ c.length ∧ SlI acc nv w2 ∧ UpL acc ∧ InL l.length acc ∧ Hid (stepN l c [] = stepN l (c.drop k) acc) ∧ Below wo.heap.size wo w2) (fun _ k _ => c.length - (intOf k).toNat)
  case atStart => exact ⟨0, [], rfl, Nat.zero_le _, ⟨none, 0, rfl, RowAt.nil _ _ _, fun _ => rfl, Nat.le_refl _, by simp⟩, List.Pairwise.nil, fun y hy => by simp at hy, by show _ = _; simp, Below.refl _ _⟩
  case round =>
  obtain ⟨k, acc, rfl, hk, ha, hu, han, HF3, hW2⟩ := hrel
  have HA : Hid (∀ W, Below wr.heap.size wr W → SlI acc u9 W) := fun W hb => ha.next hb
  have HW : Hid (Below w1.heap.size w1 wr) := hW.trans (hW2.mono hW.size)
  obtain ⟨c0, BW⟩ := HT.out wr HW.out
  by_cases hltk : k < c.length
  case neg =>
    obtain rfl : k = c.length := by omega
    have HV : Hid (stepN l c [] = acc) := by show _ = _; rw [HF3.out, List.drop_of_length_le (Nat.le_refl _)]; rfl
    clear HL HF3 HIN HT HC HCN ha
    obtain ⟨aa, ac, rfl⟩ : ∃ aa ac, u9 = .slice aa acc.length ac := (HA.out _ (Below.refl _ _)).imp fun _ h => h.imp fun _ h => h.1
    go_wp2_with fail
    exact ⟨⟨i + 1, acc, by go_num, by omega, HA.out _ (Below.refl _ _), hu, han, by show _ = _; rw [HF2.out, HV.out], HW.out⟩, by simp [intOf]; omega⟩
  obtain ⟨_, _, e0, hcr, _⟩ := HC.out _ hW2
  cases e0
  obtain ⟨b1, o1, rfl, hb1, p0⟩ := hcr.at (Below.refl _ _) hltk
  have hck := HCN.out c[k] (List.getElem_mem hltk)
  have HF4 : Hid (stepN l c [] = stepN l (c.drop (k + 1)) (putAll (lksAt l c[k]) acc)) := by
    show _ = _
    rw [HF3.out, List.drop_eq_getElem_cons hltk]
    rfl
  generalize c[k] = ck at *
  obtain ⟨j0, rfl⟩ : ∃ j0 : Nat, ck = j0 := ⟨ck.toNat, by omega⟩
  have hj0 : j0 < l.length := by omega
  rw [lksAt_eq rfl hj0] at HF4
  obtain ⟨_, _, e0, hal, _⟩ := HL.out _ BW
  cases e0
  obtain ⟨b2, o2, u, rfl, hb2, q0, q1, q2, hsx, _, _, hxl⟩ := hal.at (Below.refl _ _) hj0
  have HXN : Hid (InL l.length l[j0].links) := HIN.out _ (List.getElem_mem hj0)
  generalize l[j0].links = xs at *
  have HX : Hid (∀ W, Below wr.heap.size wr W → SlI xs u W) := fun W hb => hsx.next hb
  obtain ⟨xa, xc, rfl, _, _, _, hx64⟩ := hsx
  have HX64 : Hid (∀ x ∈ xs, i64B x) := hx64
  obtain ⟨aa, ac, rfl⟩ : ∃ aa ac, u9 = .slice aa acc.length ac := ha.imp fun _ h => h.imp fun _ h => h.1
  simp only [encI] at p0
  have HU : Hid (UpL acc ∧ InL l.length acc) := ⟨hu, han⟩
  clear hu han hx64 hal hcr HF3 hck ha q0 q1
  go_wp2_with fail
  go_big_quiet (fail)
  obtain ⟨wd, hwd⟩ : ∃ wd, wr.drewN nq = wd := ⟨_, rfl⟩
  have HBD : Hid (Below wr.heap.size wr wd) := by rw [← hwd]; exact below_drewN (Below.refl _ _) nq
  rw [hwd]
  have HXD : Hid (∀ W, Below wd.heap.size wd W → SlI xs (.slice xa xs.length xc) W ∧ Below wo.heap.size wo W) := fun W hb => by
    have h1 : Below wr.heap.size wr W := HBD.out.trans (hb.mono HBD.out.size)
    exact ⟨HX.out W h1, hW2.trans (h1.mono hW2.size)⟩
  clear hwd c0 p0 q2 HX
  go_wp2_with fail
  go_loopw [9, 12] (fun nv jv w3 => ∃ (j : Nat) (ac2 : List Int), jv = .int .i64 j ∧ j ≤ xs.length ∧ SlI ac2 nv w3 ∧ UpL ac2 ∧ InL l.length ac2 ∧ Hid (putAll xs acc = putAll (xs.drop j) ac2) ∧ Below wd.heap.size wd w3) (fun _ j _ => xs.length - (intOf j).toNat)
  case atStart => exact ⟨0, acc, rfl, Nat.zero_le _, HA.out _ HBD.out, HU.out.1, HU.out.2, by show _ = _; simp, Below.refl _ _⟩
  case round =>
  obtain ⟨j, ac2, rfl, hj, ha, hu, han, HF5, hW3⟩ := hrel
  have HA2 : Hid (∀ W, Below wr.heap.size wr W → SlI ac2 u9 W) := fun W hb => ha.next hb
  obtain ⟨aa2, ac3, rfl⟩ : ∃ aa ac, u9 = .slice aa ac2.length ac := ha.imp fun _ h => h.imp fun _ h => h.1
  have hal2 := up_len hu han
  obtain ⟨hsx, hW4⟩ := HXD.out wr hW3
  by_cases hltj : j < xs.length
  case neg =>
    obtain rfl : j = xs.length := by omega
    have HV : Hid (putAll xs acc = ac2) := by show _ = _; rw [HF5.out, List.drop_of_length_le (Nat.le_refl _)]; rfl
    clear HL HF5 HIN HT HC HCN ha hsx HXD HA HBD
    go_wp2_with fail
    exact ⟨⟨k + 1, ac2, by go_num, by omega, HA2.out _ (Below.refl _ _), hu, han, by show _ = _; rw [HF4.out, HV.out], hW4⟩, by simp [intOf]; omega⟩
  obtain ⟨_, _, e0, hxr, _⟩ := hsx
  cases e0
  obtain ⟨b3, o3, rfl, hb3, p0⟩ := hxr.at (Below.refl _ _) hltj
  have HXJ : Hid (0 ≤ xs[j] ∧ xs[j] < l.length) := HXN.out xs[j] (List.getElem_mem hltj)
  have HXI : Hid (i64B xs[j]) := HX64.out xs[j] (List.getElem_mem hltj)
  have HF6 : Hid (putAll xs acc = putAll (xs.drop (j + 1)) (putL xs[j] ac2)) := by
    show _ = _
    rw [HF5.out, List.drop_eq_getElem_cons hltj]
    rfl
  generalize xs[j] = y at *
  simp only [encI] at p0
  have HU2 : Hid (UpL ac2 ∧ InL l.length ac2) := ⟨hu, han⟩
  clear hxr ha HF5 hu han HXD
  go_wp2_with fail
  refine (gput_any ac2 y _ _ (HA2.out _ (Below.refl _ _)) HXI.out (by omega)).mono ?_
  rintro e w4 ⟨v4, rfl, hs4, _, hb4⟩
  have HR : Hid (SlI (putL y ac2) v4 w4 ∧ Below wd.heap.size wd w4 ∧ UpL (putL y ac2) ∧ InL l.length (putL y ac2)) := ⟨hs4, hW3.trans (hb4.mono hW3.size), up_putL HU2.out.1, inL_putL HU2.out.2 HXJ.out⟩
  obtain ⟨a5, c5, rfl⟩ : ∃ aa ac, v4 = .slice aa (putL y ac2).length ac := hs4.imp fun _ h => h.imp fun _ h => h.1
  clear hs4 hb4 hW3 p0 HA2 HU2 HXJ HXI
  go_wp2_with fail
  exact ⟨⟨j + 1, _, by go_num, by omega, HR.out.1, HR.out.2.2.1, HR.out.2.2.2, HF6, HR.out.2.1⟩, by simp [intOf]; omega⟩
end Go.Proofs.Yteakhenbfpghjaa
