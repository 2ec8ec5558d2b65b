/- Stacks: numbersOf: the spots of two stacks, and their numbers among all of them. -/
import Derived.Test.YtjpbfckdiojghaaMSort
namespace Go.Proofs.Ytjpbfckdiojghaa
open Go.RowKit Go.Maps

def posS (S : List Sp) (s : Sp) : Nat := S.findIdx fun t => decide (t = s)
theorem posS_at {S : List Sp} (h : S.Nodup) {i : Nat} {s : Sp} (hi : S[i]? = some s) : posS S s = i := by
  obtain ⟨hl, rfl⟩ := List.getElem?_eq_some_iff.1 hi
  unfold posS
  rw [List.findIdx_eq hl]
  refine ⟨by simp, fun j hj => ?_⟩
  have := List.pairwise_iff_getElem.1 h j i (by omega) hl hj
  simpa using this
theorem posS_mem {S : List Sp} {s : Sp} (hs : s ∈ S) : S[posS S s]? = some s := by
  have hl : posS S s < S.length := List.findIdx_lt_length.2 ⟨s, hs, by simp⟩
  rw [List.getElem?_eq_getElem hl]
  have := List.findIdx_getElem (xs := S) (p := fun t => decide (t = s)) (w := hl)
  simp only [decide_eq_true_eq] at this
  exact congrArg some this
theorem up_nodup {S : List Sp} (h : S.Pairwise ltS) : S.Nodup := h.imp fun {a b} hab e => by subst e; exact ltS_irrefl _ hab
/-- What has been met. -/
def MetB (G : Sp → Prop) (L : List Sp) : Prop := ∀ s, s ∈ L ↔ G s

theorem MapN.perm {b : Nat} {L S : List Sp} {g : Sp → Int} {W : World} (h : MapN b L g W) (hp : S.Perm L) : MapN b S g W := by
  obtain ⟨D, h1, h2, h3, h4⟩ := h.own
  exact ⟨fun s hs => h.ok s (hp.mem_iff.1 hs), hp.nodup_iff.2 h.nd, D, by rw [hp.length_eq]; exact h1, by rw [hp.length_eq]; exact h2, fun kl => (h3 kl).trans ⟨fun ⟨s, hs, e⟩ => ⟨s, hp.mem_iff.2 hs, e⟩, fun ⟨s, hs, e⟩ => ⟨s, hp.mem_iff.1 hs, e⟩⟩, fun s hs => h4 s (hp.mem_iff.1 hs)⟩
def upto (S : List Sp) (i : Nat) (s : Sp) : Int := if posS S s < i then posS S s else 0

set_option maxRecDepth 100000 in
set_option maxHeartbeats 6400000 in
theorem numbersOf_any (a b : List Gn) (u v : Value) (w : World) (ha : SlN a u w) (hb : SlN b v w) (hla : a.length ≤ 1000) (hlb : b.length ≤ 1000) :
    Calls Try.prog 31 #[.agg #[u], .agg #[v]] w fun e w' => ∃ mb S, e = .returned (.map (some mb)) ∧ S.Pairwise ltS ∧ MetB (fun s => VG a s ∨ VG b s) S ∧ S.length ≤ 2000 ∧ MapN mb S (fun s => posS S s) w' ∧ w.heap.size ≤ mb ∧ Below w.heap.size w w' := by
  have HA : Hid (∀ W, Below w.heap.size w W → SlN a u W) := fun W hb => ha.next hb
  have HB : Hid (∀ W, Below w.heap.size w W → SlN b v W) := fun W hb' => hb.next hb'
  obtain ⟨aa, ac, rfl, _⟩ := ha
  obtain ⟨ba, bc, rfl, _⟩ := hb
  obtain ⟨w0, hw0⟩ : ∃ w0, w0 = (((w.alloc (Obj.cells #[.slice aa a.length ac] 24)).alloc (Obj.cells #[.slice ba b.length bc] 24)).alloc (.map #[] 0)).alloc (Obj.cells #[.slice aa a.length ac, .slice ba b.length bc] 24) := ⟨_, rfl⟩
  have B0 : Below w.heap.size w w0 := by rw [hw0]; exact ((((Below.refl _ _).alloc (Nat.le_refl _) _).alloc (by simp) _).alloc (by simp; omega) _).alloc (by simp; omega) _
  have km : MapN (w.heap.size + 1 + 1) [] (fun _ => 0) w0 := by
    rw [hw0]
    have := MapN.made (fun _ => 0) ((w.alloc (Obj.cells #[.slice aa a.length ac] 24)).alloc (Obj.cells #[.slice ba b.length bc] 24))
    simp only [World.size_alloc] at this
    exact this.next ((Below.refl _ _).alloc (Nat.le_refl _) _)
  have kg : w0.heap[w.heap.size + 1 + 1 + 1]? = some (Obj.cells #[.slice aa a.length ac, .slice ba b.length bc] 24) := by
    rw [hw0]
    simpa using heap_alloc_new (((w.alloc (Obj.cells #[.slice aa a.length ac] 24)).alloc (Obj.cells #[.slice ba b.length bc] 24)).alloc (.map #[] 0)) (Obj.cells #[.slice aa a.length ac, .slice ba b.length bc] 24)
  have HS0 : Hid (w0.heap.size = w.heap.size + 4) := by show _ = _; rw [hw0]; simp
  go_enter Try.func31, Try.ntmps31
  go_wp2_with fail
  simp only [run_makeMap, Result.andThen]
  rw [Oper.upon_value]
  go_wp2_with fail
  try rw [← hw0]
  clear hw0
  generalize w.heap.size + 1 + 1 + 1 = gb at *
  have hmbw : w.heap.size ≤ w.heap.size + 1 + 1 := by omega
  have HML : Hid (w.heap.size + 1 + 1 < w0.heap.size) := km.lt
  have HNE : Hid (gb ≠ w.heap.size + 1 + 1) := fun e => km.notCells _ _ _ (e ▸ kg)
  generalize w.heap.size + 1 + 1 = mb at *
  go_loopw [17] (fun iv wr => ∃ (k : Nat) (L : List Sp), iv = .int .i64 k ∧ k ≤ 2 ∧ Hid (MetB (fun s => (1 ≤ k ∧ VG a s) ∨ (2 ≤ k ∧ VG b s)) L) ∧ L.length ≤ k * 1000 ∧ Hid (MapN mb L (fun _ => 0) wr) ∧ Hid (But (fun q => q = mb) w0 wr)) (fun i _ => 2 - (intOf i).toNat)
  case atStart => exact ⟨0, [], rfl, Nat.zero_le _, fun s => by simp, Nat.zero_le _, km, But.refl _ _⟩
  case round =>
  obtain ⟨k, L, rfl, hk, HM, hLl, HN, HBR⟩ := hrel
  clear km
  have BRw : Below w.heap.size w wr := B0.trans (HBR.out.below B0.size (fun q hq => by omega))
  have kgr := but_blk HBR.out kg HNE.out
  by_cases hlt : k < 2
  case neg =>
    obtain rfl : k = 2 := by omega
    clear kgr kg
    have hBK : Below wr.heap.size wr (wr.alloc (Obj.cells #[.map (some mb)] 58)) := (Below.refl _ _).alloc (Nat.le_refl _) _
    have HKF := keysF_any mb wr
    have HSO := sortedSp_any wr.heap.size mb L (fun _ => 0) (wr.alloc (Obj.cells #[.map (some mb)] 58)) (heap_alloc_new _ _) (HN.out.next hBK) (by omega)
    have HBK : Hid (Below wr.heap.size wr (wr.alloc (Obj.cells #[.map (some mb)] 58))) := hBK
    have HBW : Hid (Below w.heap.size w wr) := BRw
    have HMet : Hid (MetB (fun s => VG a s ∨ VG b s) L) := fun s => by rw [HM.out s]; simp
    clear hBK BRw hla hlb HA HB HM
    go_wp2_with fail
    refine HKF.mono ?_
    rintro e w1 ⟨rfl, rfl⟩
    clear HKF
    go_wp2_with fail
    refine HSO.mono ?_
    rintro e w2 ⟨sv, S, rfl, hp, hup, hsl, hsb, hb2⟩
    clear HSO
    have HSL : Hid (SlSp S sv w2) := hsl
    obtain ⟨sa, sc, rfl, _⟩ := hsl
    have HP : Hid (S.Perm L ∧ S.Pairwise ltS) := ⟨hp, hup⟩
    have hSl : S.length ≤ 2000 := by rw [hp.length_eq]; omega
    have B2 : Below wr.heap.size wr w2 := below_then HBK.out hb2 HBK.out.size
    have HSB : Hid (∀ q, (Value.slice sa S.length sc).ownBlock = some q → q ≠ mb) := fun q hq e => by
      have h1 := hsb q hq
      have h2 := HN.out.lt
      simp at h1; omega
    have HM2 : Hid (MapN mb L (fun _ => 0) w2) := HN.out.next B2
    have HB2 : Hid (Below w.heap.size w w2) := below_then HBW.out B2 HBW.out.size
    clear hp hup hsb hb2 B2 HN HBK HBR HBW
    go_wp2_with fail
    go_loopw [37] (fun iv wq => ∃ (i : Nat), iv = .int .i64 i ∧ i ≤ S.length ∧ Hid (MapN mb L (upto S i) wq) ∧ Hid (But (fun q => q = mb) w2 wq)) (fun i _ => S.length - (intOf i).toNat)
    case atStart => exact ⟨0, rfl, Nat.zero_le _, HM2.out.congr (fun s _ => by unfold upto; rw [if_neg (by omega)]), But.refl _ _⟩
    case round =>
    clear HM2
    obtain ⟨i, rfl, hi, HM, HBQ⟩ := hrel
    by_cases hil : i < S.length
    case neg =>
      obtain rfl : i = S.length := by omega
      have HE : Hid (S.Pairwise ltS ∧ MetB (fun s => VG a s ∨ VG b s) S ∧ MapN mb S (fun s => posS S s) wr ∧ Below w.heap.size w wr) := by
        refine ⟨HP.out.2, fun s => by rw [HP.out.1.mem_iff]; exact HMet.out s, (HM.out.perm HP.out.1).congr (fun s hs => ?_), HB2.out.trans (HBQ.out.below HB2.out.size (fun q hq => by omega))⟩
        have := (List.getElem?_eq_some_iff.1 (posS_mem hs)).1
        unfold upto
        rw [if_pos this]
      clear HM HBQ HB2
      go_wp2_with fail
      go_ret
      exact ⟨mb, S, rfl, HE.out.1, HE.out.2.1, hSl, HE.out.2.2.1, hmbw, HE.out.2.2.2⟩
    obtain ⟨_, _, e0, hrd⟩ := HSL.out.but HBQ.out HSB.out
    cases e0
    have hsi := List.getElem?_eq_getElem hil
    obtain ⟨b2, o2, rfl, hb2, q0, q1⟩ := hrd i _ hsi
    have HSI : Hid (S[i]? = some S[i]) := hsi
    clear hrd hsi
    generalize S[i] = s at *
    obtain ⟨sp, ss⟩ := s
    simp only at *
    have HSM : Hid ((sp, ss) ∈ L) := HP.out.1.mem_iff.1 (List.mem_of_getElem? HSI.out)
    have hBN : Below wr.heap.size wr (wr.alloc (Obj.cells #[.int .i64 sp, .int .i64 ss] 48)) := (Below.refl _ _).alloc (Nat.le_refl _) _
    obtain ⟨w9, hr, hM9, hb9, hz9⟩ := (HM.out.next hBN).store (by have := HP.out.1.length_eq; omega) (HM.out.ok _ HSM.out) i
    clear hz9
    unfold spV at hr
    simp only at hr
    have HE : Hid (MapN mb L (upto S (i + 1)) w9 ∧ But (fun q => q = mb) w2 w9) := by
      refine ⟨?_, (HBQ.out.trans (But.of_next hBN)).trans hb9⟩
      have h9 : addS L (sp, ss) = L := by unfold addS; rw [if_pos HSM.out]
      rw [h9] at hM9
      refine hM9.congr (fun t ht => ?_)
      have hnd := up_nodup HP.out.2
      have htS := HP.out.1.mem_iff.2 ht
      unfold updS upto
      split
      · rename_i e; subst e
        rw [posS_at hnd HSI.out, if_pos (by omega)]
      · rename_i e
        have hne : posS S t ≠ i := fun e' => e (by
          have h1 := posS_mem htS
          rw [e', HSI.out] at h1
          exact (Option.some.inj h1).symm)
        by_cases h : posS S t < i
        · rw [if_pos h, if_pos (by omega)]
        · rw [if_neg h, if_neg (by omega)]
    clear hM9 hb9 hBN HM HBQ HSI HSM
    go_wp2_with fail
    exact ⟨⟨i + 1, by go_num, by omega, HE.out⟩, by simp [intOf]; omega⟩
  obtain ⟨g, ga, gc, hcell, HSG, hgl, HVG⟩ : ∃ g ga gc, wr.cell? ⟨gb, k, none⟩ = some (.slice ga (List.length g) gc) ∧ Hid (∀ W, Below w.heap.size w W → SlN g (.slice ga g.length gc) W) ∧ g.length ≤ 1000 ∧ Hid (∀ s, ((1 ≤ k + 1 ∧ VG a s) ∨ (2 ≤ k + 1 ∧ VG b s)) ↔ ((1 ≤ k ∧ VG a s) ∨ (2 ≤ k ∧ VG b s)) ∨ VG g s) := by
    rcases (by omega : k = 0 ∨ k = 1) with rfl | rfl
    · exact ⟨a, aa, ac, by rw [Lib.cell_of_heap kgr]; rfl, HA, hla, fun s => by simp⟩
    · exact ⟨b, ba, bc, by rw [Lib.cell_of_heap kgr]; rfl, HB, hlb, fun s => by simp⟩
  clear hla hlb HA HB kg kgr
  have dk : decide ((k : Int) < 2) = true := decide_eq_true (by omega)
  have c7 : (wr.alloc (Obj.cells #[.slice ga g.length gc] 24)).cell? ⟨wr.heap.size, 0, none⟩ = some (.slice ga g.length gc) := by simp
  have HB7 : Hid (Below wr.heap.size wr (wr.alloc (Obj.cells #[.slice ga g.length gc] 24))) := (Below.refl _ _).alloc (Nat.le_refl _) _
  have HN7 : Hid (MapN mb L (fun _ => 0) (wr.alloc (Obj.cells #[.slice ga g.length gc] 24))) := HN.out.next HB7.out
  go_wp2_with fail
  generalize wr.alloc (Obj.cells #[.slice ga g.length gc] 24) = w7 at *
  have HB0 : Hid (But (fun q => q = mb) w0 w7) := HBR.out.trans (But.of_next HB7.out)
  have HS7 : Hid (w0.heap.size ≤ w7.heap.size) := HB0.out.size
  clear c7 HN HB7 HBR BRw hcell
  go_loopw [24] (fun iv wq => ∃ (i : Nat) (L : List Sp), iv = .int .i64 i ∧ i ≤ g.length ∧ Hid (MetB (fun s => ((1 ≤ k ∧ VG a s) ∨ (2 ≤ k ∧ VG b s)) ∨ ∃ x ∈ g.take i, spG x = s) L) ∧ L.length ≤ k * 1000 + i ∧ Hid (MapN mb L (fun _ => 0) wq) ∧ Hid (But (fun q => q = mb) w7 wq)) (fun i _ => g.length - (intOf i).toNat)
  case atStart => exact ⟨0, L, rfl, Nat.zero_le _, fun s => by rw [HM.out s]; simp, by omega, HN7, But.refl _ _⟩
  case round =>
  clear hLl HM HN7
  obtain ⟨i, L, rfl, hi, HM, hLl, HN, HBQ⟩ := hrel
  by_cases hil : i < g.length
  case neg =>
    obtain rfl : i = g.length := by omega
    have HE : Hid (MetB (fun s => (1 ≤ k + 1 ∧ VG a s) ∨ (2 ≤ k + 1 ∧ VG b s)) L ∧ MapN mb L (fun _ => 0) wr ∧ But (fun q => q = mb) w0 wr) := by
      refine ⟨fun s => ?_, HN.out, HB0.out.trans HBQ.out⟩
      have h1 := HM.out s
      have h2 := HVG.out s
      simp only [List.take_length] at h1
      exact Iff.trans h1 (Iff.symm h2)
    clear HM HN HBQ HVG
    go_wp2_with fail
    exact ⟨⟨k + 1, L, by go_num, by omega, HE.out.1, by omega, HE.out.2.1, HE.out.2.2⟩, by simp [intOf]; omega⟩
  have BQw : Below w.heap.size w wr := B0.trans ((HB0.out.trans HBQ.out).below B0.size (fun q hq => by omega))
  obtain ⟨_, _, e0, hal, _⟩ := HSG.out wr BQw
  cases e0
  obtain ⟨b2, o2, u, rfl, hb2, q0, q1, q2, hsx, x64, y64, _⟩ := hal.at (Below.refl _ _) hil
  have HTK : Hid (g.take (i + 1) = g.take i ++ [g[i]]) := List.take_succ_eq_append_getElem hil
  generalize g[i] = x at *
  obtain ⟨xs, xp, xk⟩ := x
  simp only at *
  obtain ⟨xa, xc, rfl⟩ : ∃ xa xc, u = .slice xa xk.length xc := hsx.imp fun _ h => h.imp fun _ h => h.1
  have hOk : okSp (xp, xs) := ⟨y64, x64⟩
  have HSP := spotOf_any xs xp (.slice xa xk.length xc) (wr.alloc (Obj.cells #[.int .i64 xs, .int .i64 xp, .slice xa xk.length xc] 35))
  have hBN : Below wr.heap.size wr (wr.alloc (Obj.cells #[.int .i64 xs, .int .i64 xp, .slice xa xk.length xc] 35)) := (Below.refl _ _).alloc (Nat.le_refl _) _
  have HBN : Hid (Below wr.heap.size wr (wr.alloc (Obj.cells #[.int .i64 xs, .int .i64 xp, .slice xa xk.length xc] 35))) := hBN
  clear hBN hal hsx x64 y64 HSG BQw
  go_wp2_with fail
  refine HSP.mono ?_
  rintro e w8 ⟨rfl, b8, _⟩
  have HB8 : Hid (Below wr.heap.size wr w8) := below_then HBN.out b8 HBN.out.size
  obtain ⟨w9, hr, hM9, hb9, hz9⟩ := (HN.out.next HB8.out).store (by omega) hOk 0
  clear hz9
  unfold spV at hr
  simp only at hr
  have HE : Hid (MetB (fun s => ((1 ≤ k ∧ VG a s) ∨ (2 ≤ k ∧ VG b s)) ∨ ∃ x ∈ g.take (i + 1), spG x = s) (addS L (xp, xs)) ∧ (addS L (xp, xs)).length ≤ k * 1000 + (i + 1) ∧ MapN mb (addS L (xp, xs)) (fun _ => 0) w9 ∧ But (fun q => q = mb) w7 w9) := by
    refine ⟨fun s => ?_, ?_, hM9.congr (fun s _ => by unfold updS; split <;> rfl), (HBQ.out.trans (But.of_next HB8.out)).trans hb9⟩
    · rw [mem_addS, HM.out s, HTK.out]
      constructor
      · rintro ((h | ⟨x, hx, e⟩) | rfl)
        · exact .inl h
        · exact .inr ⟨x, by simp [hx], e⟩
        · exact .inr ⟨⟨xs, xp, xk⟩, by simp, rfl⟩
      · rintro (h | ⟨x, hx, e⟩)
        · exact .inl (.inl h)
        · rcases List.mem_append.1 hx with hx | hx
          · exact .inl (.inr ⟨x, hx, e⟩)
          · simp at hx; subst hx; exact .inr e.symm
    · have := addS_len (L := L) (s := (xp, xs)); omega
  clear HSP b8 HB8 hM9 hb9 HN HM HBQ HTK HBN q0 q1 q2
  go_wp2_with fail
  exact ⟨⟨i + 1, addS L (xp, xs), by go_num, by omega, HE.out⟩, by simp [intOf]; omega⟩
end Go.Proofs.Ytjpbfckdiojghaa
