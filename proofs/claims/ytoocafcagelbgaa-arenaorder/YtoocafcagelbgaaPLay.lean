/- lay. -/
import Derived.Test.YtoocafcagelbgaaBLay
import Derived.Test.YtoocafcagelbgaaPPlaces
namespace Go.Proofs.Ytoocafcagelbgaa
open Go.RowKit
attribute [local go_sem] Oper.semAt_some

/-- What laying tells, and leaves. -/
def LayR (B bb mb : Nat) (S : St) (sv rv : Value) (L : List Sv) (w : World) (R : Nat) (r : St × Option Nat) (e : Ending) (w' : World) : Prop :=
  But (fun k => BldD bb mb sv k) w w' ∧ ((∃ p sv' L', r.2 = some p ∧ e = .returned (.tuple #[.int .i64 (p : Int), .bool true]) ∧ Bld B bb mb r.1 sv' rv L' w' ∧ Wf r.1 R ∧ p < r.1.sl.length ∧ S.sl.length ≤ r.1.sl.length ∧ (∀ k, sv'.ownBlock = some k → sv.ownBlock = some k ∨ w.heap.size ≤ k) ∧ ∀ k, KB L' k → KB L k ∨ w.heap.size ≤ k) ∨ (r.2 = none ∧ e = .returned (.tuple #[.int .i64 0, .bool false])))
/-- What the loop over the kids holds. -/
structure LayI (B bb mb : Nat) (S : St) (sv rv : Value) (L : List Sv) (R : Nat) (subs : List Nd) (frm : Int) (W0 : World) (j : Nat) (kv : Value) (S' : St) (ks : List Nat) (sv' : Value) (L' : List Sv) (W : World) : Prop where
  res : layL (subs.take j) S frm = (S', some ks)
  bld : Bld B bb mb S' sv' rv L' W
  wf : ∃ x, x + j = R + 2 * cntL (subs.take j) ∧ Wf S' x
  kids : OwnI W0.heap.size (intL ks) kv W
  kin : ∀ k ∈ ks, k < S'.sl.length
  kl : ks.length = j
  but : But (fun k => BldD bb mb sv k) W0 W
  le : S.sl.length ≤ S'.sl.length
  sv : ∀ k, sv'.ownBlock = some k → sv.ownBlock = some k ∨ W0.heap.size ≤ k
  kb : ∀ k, KB L' k → KB L k ∨ W0.heap.size ≤ k
  kn : ∀ k, kv.ownBlock = some k → ¬ KB L' k
theorem LayI.butTo {B bb mb : Nat} {S : St} {sv rv : Value} {L : List Sv} {R : Nat} {subs : List Nd} {frm : Int} {W0 : World} {j : Nat} {kv : Value} {S' : St} {ks : List Nat} {sv' : Value} {L' : List Sv} {W wa w2 : World} (h : LayI B bb mb S sv rv L R subs frm W0 j kv S' ks sv' L' W) (h1 : Below W.heap.size W wa) (h2 : But (fun k => BldD bb mb sv' k) wa w2) : But (fun k => BldD bb mb sv k) W0 w2 := by
  have z0 := h.but.size
  have z1 := h1.size
  refine ⟨h2.os.trans (h1.os.trans h.but.os), h2.tape.trans (h1.tape.trans h.but.tape), h2.output.trans (h1.output.trans h.but.output), Nat.le_trans z0 (Nat.le_trans z1 h2.size), fun k hk hd => ?_⟩
  have e3 := h2.block k (by omega) (fun hd2 => by
    rcases hd2 with hd2 | hd2 | hd2
    · exact hd (.inl hd2)
    · exact hd (.inr (.inl hd2))
    · rcases h.sv k hd2 with h' | h'
      · exact hd (.inr (.inr h'))
      · omega)
  exact e3.trans ((h1.block k (by omega)).trans (h.but.block k hk hd))
theorem wrap_sub (a b : Int) : IntKind.i64.wrap (a - b) = wrap64 (a - b) := by
  unfold IntKind.wrap wrap64
  simp [IntKind.bits, IntKind.signed]
  omega
theorem intL_snoc (ks : List Nat) (p : Nat) : intL (ks ++ [p]) = intL ks ++ [(p : Int)] := by unfold intL; simp
theorem intL_len (ks : List Nat) : (intL ks).length = ks.length := by unfold intL; simp
theorem intL_i64 {ks : List Nat} (h : ∀ k ∈ ks, k < 4097) : ∀ y ∈ intL ks, i64B y := by
  intro y hy
  unfold intL at hy
  obtain ⟨k, hk, rfl⟩ := List.mem_map.1 hy
  have := h k hk
  exact ⟨by omega, by omega⟩

theorem Bld.but {B bb mb : Nat} {S : St} {sv rv : Value} {L : List Sv} {W W' : World} {D : Nat → Prop} (h : Bld B bb mb S sv rv L W) (hb : But D W W') (hd : ∀ k, D k → ¬ BldD bb mb sv k ∧ rv.ownBlock ≠ some k ∧ ¬ KB L k) : Bld B bb mb S sv rv L W' := by
  obtain ⟨n, hn, hm⟩ := h.map
  refine ⟨but_blk hb h.box (fun e => (hd _ e).1 (.inl rfl)), ⟨n, hn, hm.but hb (fun e => (hd _ e).1 (.inr (.inl rfl)))⟩, h.lst, ⟨ownsRow_keep h.own.row hb (fun j hj e => (hd _ e).1 (.inr (.inr hj))), fun q hq => ownsRow_keep (h.own.kids q hq) hb (fun j hj e => (hd _ e).2.2 ⟨q, hq, hj⟩), h.own.ok⟩, ownsRow_keep h.rt hb (fun j hj e => (hd _ e).2.1 hj), h.part, h.lo⟩
theorem Bld.kbLt {B bb mb : Nat} {S : St} {sv rv : Value} {L : List Sv} {W : World} (h : Bld B bb mb S sv rv L W) {k : Nat} (hk : KB L k) : k < W.heap.size := by
  obtain ⟨q, hq, e⟩ := hk
  exact (World.ownsRow.lt (h.own.kids q hq) k e).2
theorem LayI.laid {B bb mb : Nat} {S : St} {sv rv : Value} {L : List Sv} {R : Nat} {subs : List Nd} {frm : Int} {W0 : World} {j : Nat} {kv : Value} {S' : St} {ks : List Nat} {sv' : Value} {L' : List Sv} {W wa w2 w4 : World} {S2 : St} {p : Nat} {sv2 : Value} {L2 : List Sv} {kv' : Value} {ob : Obj} (h : LayI B bb mb S sv rv L R subs frm W0 j kv S' ks sv' L' W) (h1 : Below W.heap.size W wa) (h2 : But (fun k => BldD bb mb sv' k) wa w2)
    (hlow : ∀ k, BldD bb mb sv k → k < W0.heap.size) (hrv : ∀ k, rv.ownBlock = some k → k < W0.heap.size) (hres : layL (subs.take (j + 1)) S frm = (S2, some (ks ++ [p]))) (hB2 : Bld B bb mb S2 sv2 rv L2 w2) (hW2 : ∃ x, x + (j + 1) = R + 2 * cntL (subs.take (j + 1)) ∧ Wf S2 x) (hp : p < S2.sl.length) (hle : S'.sl.length ≤ S2.sl.length) (hsv : ∀ k, sv2.ownBlock = some k → sv'.ownBlock = some k ∨ wa.heap.size ≤ k) (hkb : ∀ k, KB L2 k → KB L' k ∨ wa.heap.size ≤ k)
    (ho : OwnI W0.heap.size (intL (ks ++ [p])) kv' w4) (hg : (w2.alloc ob).grownBy w4 kv.ownBlock) (hat : kv'.ownBlock = kv.ownBlock ∨ kv'.ownBlock = some (w2.alloc ob).heap.size) :
    LayI B bb mb S sv rv L R subs frm W0 (j + 1) kv' S2 (ks ++ [p]) sv2 L2 w4 := by
  have z0 := h.but.size
  have z1 := h1.size
  have z2 := h2.size
  have hbt := h.butTo h1 h2
  have hkvl : ∀ k, kv.ownBlock = some k → W0.heap.size ≤ k ∧ k < W.heap.size := fun k hk => World.ownsRow.lt h.kids k hk
  have BA : Below w2.heap.size w2 (w2.alloc ob) := (Below.refl _ _).alloc (Nat.le_refl _) _
  have hsz : (w2.alloc ob).heap.size = w2.heap.size + 1 := by simp
  have BG : But (fun k => kv.ownBlock = some k) (w2.alloc ob) w4 := ⟨hg.os, hg.tape, hg.output, hg.size, fun k hk hd => hg.block k hk (fun e => hd e.symm)⟩
  have notD : ∀ k, kv.ownBlock = some k → ¬ BldD bb mb sv2 k := fun k hk hd => by
    have hl := hkvl k hk
    rcases hd with rfl | rfl | hd
    · have := hlow _ (.inl rfl); omega
    · have := hlow _ (.inr (.inl rfl)); omega
    · rcases hsv k hd with h' | h'
      · obtain ⟨cs, hcs⟩ := own_is_cells h.bld.own.row h'
        exact own_nb h.kids hcs (by decide) hk
      · omega
  refine ⟨hres, (hB2.next BA).but BG (fun k hk => ⟨notD k hk, fun e => ?_, fun e => ?_⟩), hW2, ho, fun k hk => ?_, by simp [h.kl], ?_, Nat.le_trans h.le hle, fun k hk => ?_, fun k hk => ?_, fun k hk hK => ?_⟩
  · have := hrv k e
    have := hkvl k hk
    omega
  · rcases hkb k e with h' | h'
    · exact h.kn k hk h'
    · have := hkvl k hk; omega
  · rcases List.mem_append.1 hk with hk | hk
    · have := h.kin k hk; omega
    · simp at hk; omega
  · refine ⟨hg.os.trans (BA.os.trans hbt.os), hg.tape.trans (BA.tape.trans hbt.tape), hg.output.trans (BA.output.trans hbt.output), Nat.le_trans hbt.size (Nat.le_trans BA.size hg.size), fun k hk hd => ?_⟩
    have h3 := hbt.size
    exact (BG.block k (by omega) (fun e => by have := hkvl k e; omega)).trans ((BA.block k (by omega)).trans (hbt.block k hk hd))
  · rcases hsv k hk with h' | h'
    · exact h.sv k h'
    · exact .inr (by omega)
  · rcases hkb k hk with h' | h'
    · exact h.kb k h'
    · exact .inr (by omega)
  · rcases hat with h' | h'
    · rw [h'] at hk
      rcases hkb k hK with h3 | h3
      · exact h.kn k hk h3
      · have := hkvl k hk; omega
    · rw [h'] at hk
      simp only [Option.some.injEq] at hk
      have := hB2.kbLt hK
      omega

set_option maxRecDepth 100000 in
set_option maxHeartbeats 16000000 in
theorem lay_any (B bb mb : Nat) (rv : Value) : ∀ (n : Nat) (t : Nd) (v : Value) (base : Int) (S : St) (R : Nat) (sv : Value) (L : List Sv) (w : World), TAt (fun k => k < B) n t v w → Bld B bb mb S sv rv L w → Wf S R → B ≤ w.heap.size → cntN t ≤ 5000 → R + 2 * cntN t ≤ 1000000000000 → i64B base →
    Calls Try.prog 47 #[.pointer (some ⟨bb, 0, none⟩), v, .int .i64 base] w fun e w' => LayR B bb mb S sv rv L w (R + 2 * cntL t.kids + 1) (layN t S base) e w'
  | 0, _, _, _, _, _, _, _, _, h, _, _, _, _, _, _ => h.elim
  | n + 1, t, v, base, S, R, sv, L, w, h, hbl, hwf, hBw, hc5, hRb, hbase => by
    obtain ⟨ba, bc, rfl, hok, _, _, hlb, hsubs0⟩ := h
    have hsubs : KidsAt (fun k => k < B) n t.kids ba w := hsubs0
    clear hsubs0
    have HIH : Hid _ := lay_any B bb mb rv n
    obtain ⟨is, his, hs0, hs1, hs2⟩ := info_parts info3
    have HLN := layN_mk t S base
    have HLN : Hid (layN t S base = match layL t.kids S t.h.frm with
      | (S1, none) => (S1, none)
      | (S1, some ks) => putS S1 (relH t.h base) ks) := HLN
    have HCT : Hid (cntN t = cntL t.kids + 1) := cntN_mk t
    have hct5 : cntL t.kids + 1 ≤ 5000 := by rw [← HCT.out]; exact hc5
    have hctR : R + 2 * (cntL t.kids + 1) ≤ 1000000000000 := by rw [← HCT.out]; exact hRb
    have HOK : Hid (HdOk t.h ∧ i64B base) := ⟨hok, hbase⟩
    have HWF : Hid (Wf S R) := hwf
    obtain ⟨LR, HLR⟩ : ∃ LR : Ending → World → Prop, Hid (LR = fun e w' => LayR B bb mb S sv rv L w (R + 2 * cntL t.kids + 1) (layN t S base) e w') := ⟨_, rfl⟩
    have hgoal : (fun e w' => LayR B bb mb S sv rv L w (R + 2 * cntL t.kids + 1) (layN t S base) e w') = LR := HLR.out.symm
    rw [hgoal]
    clear hgoal hc5 hRb hok hbase hwf
    generalize t.kids = subs at *
    generalize t.h = hd at *
    obtain ⟨hk, hn, hf, hfr, hto, hbd⟩ := hd
    unfold ndV
    simp only at *
    go_enter Try.func47, Try.ntmps47
    go_wp2_with fail
    have hB0 : Below w.heap.size w (w.alloc (Obj.cells #[.string hk, .bool hn, .string hf, .int .i64 hfr, .int .i64 hto, .int .i64 hbd, .slice ba subs.length bc] 32)) := (Below.refl _ _).alloc (Nat.le_refl _) _
    have b0 : (w.alloc (Obj.cells #[.string hk, .bool hn, .string hf, .int .i64 hfr, .int .i64 hto, .int .i64 hbd, .slice ba subs.length bc] 32)).heap[w.heap.size]? = some (Obj.cells #[.string hk, .bool hn, .string hf, .int .i64 hfr, .int .i64 hto, .int .i64 hbd, .slice ba subs.length bc] 32) := heap_alloc_new _ _
    have hz : (w.alloc (Obj.cells #[.string hk, .bool hn, .string hf, .int .i64 hfr, .int .i64 hto, .int .i64 hbd, .slice ba subs.length bc] 32)).heap.size = w.heap.size + 1 := by simp
    generalize w.alloc (Obj.cells #[.string hk, .bool hn, .string hf, .int .i64 hfr, .int .i64 hto, .int .i64 hbd, .slice ba subs.length bc] 32) = W0 at *
    have hs0' : KidsAt (fun k => k < B) n subs ba W0 := hsubs.next hB0
    have HKA : Hid (∀ W, But (fun k => BldD bb mb sv k) W0 W → KidsAt (fun k => k < B) n subs ba W) := fun W hb => hs0'.but (fun k hk hd => by have := (hbl.low hd).1; omega) hb
    obtain ⟨P, HP⟩ : ∃ P, Hid (P = w.heap.size) := ⟨_, rfl⟩
    have HNB : Hid (∀ k, BldD bb mb sv k → B ≤ k ∧ k < w.heap.size) := fun k hk => hbl.low hk
    have HW0 : Hid (Below w.heap.size w W0 ∧ W0.heap.size = P + 1 ∧ P = w.heap.size) := ⟨hB0, by rw [HP.out]; exact hz, HP.out⟩
    have HBX : Hid (∀ W, But (fun k => BldD bb mb sv k) W0 W → W.heap[P]? = some (Obj.cells #[.string hk, .bool hn, .string hf, .int .i64 hfr, .int .i64 hto, .int .i64 hbd, .slice ba subs.length bc] 32)) := fun W hb => by
      rw [HP.out]
      exact but_blk hb b0 (fun hd => by have := (hbl.low hd).2; omega)
    have HRV : Hid (∀ k, rv.ownBlock = some k → k < W0.heap.size) := fun k hk => by have := (World.ownsRow.lt hbl.rt k hk).2; omega
    have HI0 : Hid (LayI B bb mb S sv rv L R subs hfr W0 0 (.slice none 0 0) S [] sv L W0) := ⟨by simp [layL], hbl.next hB0, ⟨R, by simp [cntL], HWF.out⟩, World.ownsRow_nil _ _ _ _, fun k hk => (by cases hk), rfl, But.refl _ _, Nat.le_refl _, fun k hk => .inl hk, fun k hk => .inl hk, fun k hk => (by cases hk)⟩
    rw [← HP.out]
    clear hs0' hsubs hB0 b0 hz hbl
    go_loopw [8, 23] (fun kv iv wr => ∃ (j : Nat) (S' : St) (ks : List Nat) (sv' : Value) (L' : List Sv), iv = .int .i64 j ∧ j ≤ subs.length ∧ Hid (LayI B bb mb S sv rv L R subs hfr W0 j kv S' ks sv' L' wr)) (fun _ i _ => subs.length - (intOf i).toNat)
    case atStart => exact ⟨0, S, [], sv, L, rfl, Nat.zero_le _, HI0.out⟩
    case round =>
    obtain ⟨j, S', ks, sv', L', rfl, hj, HI⟩ := hrel
    clear HI0
    have kP := HBX.out wr HI.out.but
    have p0 : wr.cell? ⟨P, 0, none⟩ = some (.string hk) := by rw [Lib.cell_of_heap kP]; rfl
    have p1 : wr.cell? ⟨P, 1, none⟩ = some (.bool hn) := by rw [Lib.cell_of_heap kP]; rfl
    have p2 : wr.cell? ⟨P, 2, none⟩ = some (.string hf) := by rw [Lib.cell_of_heap kP]; rfl
    have p3 : wr.cell? ⟨P, 3, none⟩ = some (.int .i64 hfr) := by rw [Lib.cell_of_heap kP]; rfl
    have p4 : wr.cell? ⟨P, 4, none⟩ = some (.int .i64 hto) := by rw [Lib.cell_of_heap kP]; rfl
    have p5 : wr.cell? ⟨P, 5, none⟩ = some (.int .i64 hbd) := by rw [Lib.cell_of_heap kP]; rfl
    have p6 : wr.cell? ⟨P, 6, none⟩ = some (.slice ba subs.length bc) := by rw [Lib.cell_of_heap kP]; rfl
    have hpl : P < wr.heap.size := blk_lt kP
    by_cases hlt : j < subs.length
    · obtain ⟨b, off, ka, kc, rfl, hbB, hb, ⟨e0, e1, e2, e3, e4, e5, e6⟩, hT⟩ := HKA.out wr HI.out.but j subs[j] (by simp [hlt])
      have hct := cntL_take hlt
      have hcl := cntL_le subs (j + 1)
      have hcj := cntL_at hlt
      have HSN := layL_snoc hfr (subs.take j) S subs[j]
      rw [← List.take_succ_eq_append_getElem hlt, HI.out.res] at HSN
      have HSN : Hid (layL (subs.take (j + 1)) S hfr = match layN subs[j] S' hfr with
        | (S2, none) => (S2, none)
        | (S2, some p) => (S2, some (ks ++ [p]))) := HSN
      have HNO : Hid ((layL (subs.take (j + 1)) S hfr).2 = none → (layL subs S hfr).2 = none) := fun h => by
        have := layL_none hfr (subs.take (j + 1)) (subs.drop (j + 1)) S h
        rw [List.take_append_drop] at this
        rw [this]
      obtain ⟨xr, hxr, hwfj⟩ := HI.out.wf
      have hcm := cntN_mk subs[j]
      have HCJ : Hid (cntN subs[j] ≤ 5000 ∧ xr + 2 * cntL subs[j].kids + 1 + (j + 1) = R + 2 * cntL (subs.take (j + 1)) ∧ xr + 2 * cntN subs[j] ≤ 1000000000000) := ⟨by omega, by omega, by omega⟩
      have BX : ∀ x, Below wr.heap.size wr (wr.alloc x) := fun x => (Below.refl _ _).alloc (Nat.le_refl _) _
      have hrec := fun x => HIH.out subs[j] _ hfr S' xr sv' L' (wr.alloc x) (hT.next (BX x)) (HI.out.bld.next (BX x)) hwfj (by have := HI.out.but.size; have := HW0.out; simp; omega) HCJ.out.1 (by have := HCJ.out; omega) HOK.out.1.frm
      obtain ⟨RS, hRS⟩ : ∃ RS, layN subs[j] S' hfr = RS := ⟨_, rfl⟩
      rw [hRS] at HSN hrec
      have HRS : Hid _ := hRS
      clear hRS
      generalize subs[j].h = sh at *
      generalize subs[j].kids.length = sk at *
      obtain ⟨gk, gn, gf, gfr, gto, gbd⟩ := sh
      unfold ndV at hrec
      simp only at *
      have hrec1 := hrec (Obj.cells #[.string gk, .bool gn, .string gf, .int .i64 gfr, .int .i64 gto, .int .i64 gbd, .slice ka sk kc] 32)
      have p3' : (wr.alloc (Obj.cells #[.string gk, .bool gn, .string gf, .int .i64 gfr, .int .i64 gto, .int .i64 gbd, .slice ka sk kc] 32)).cell? ⟨P, 3, none⟩ = some (.int .i64 hfr) := ((BX _).cell (p := ⟨P, 3, none⟩) hpl).trans p3
      have HBX1 : Hid (Below wr.heap.size wr (wr.alloc (Obj.cells #[.string gk, .bool gn, .string gf, .int .i64 gfr, .int .i64 gto, .int .i64 gbd, .slice ka sk kc] 32))) := BX _
      have HPL : Hid (P < wr.heap.size) := hpl
      obtain ⟨ya, yc, hkv⟩ := slice_of_ownK HI.out.kids
      subst hkv
      clear hrec BX hT hct hcl hcj hcm hwfj hxr HRS kP p0 p1 p2 p4 p5 p6
      go_wp2_with fail
      refine hrec1.mono ?_
      generalize wr.alloc (Obj.cells #[.string gk, .bool gn, .string gf, .int .i64 gfr, .int .i64 gto, .int .i64 gbd, .slice ka sk kc] 32) = wa at *
      rintro e w2 ⟨hbut, ⟨p, sv2, L2, hr2, rfl, hB2, hW2, hp2, hle2, hsv2, hkb2⟩ | ⟨hr2, rfl⟩⟩
      · -- laid
        obtain ⟨S2, o2'⟩ := RS
        simp only at hr2 hB2 hW2 hp2 hle2
        subst hr2
        have hres : layL (subs.take (j + 1)) S hfr = (S2, some (ks ++ [p])) := HSN.out
        have hW2 : ∃ x, x + (j + 1) = R + 2 * cntL (subs.take (j + 1)) ∧ Wf S2 x := ⟨_, HCJ.out.2.1, hW2⟩
        have hrow : OwnI W0.heap.size (intL ks) (.slice ya (intL ks).length yc) w2 := by
          refine ownsRow_keep (ownsRow_below4 HI.out.kids HBX1.out) hbut (fun q hq hd => ?_)
          have hl := World.ownsRow.lt HI.out.kids q hq
          have hz := HW0.out
          have hzs := HW0.out.1.size
          rcases hd with rfl | rfl | hd
          · have := (HNB.out _ (.inl rfl)).2; omega
          · have := (HNB.out _ (.inr (.inl rfl))).2; omega
          · obtain ⟨cs, hcs⟩ := own_is_cells HI.out.bld.own.row hd
            exact own_nb HI.out.kids hcs (by decide) hq
        have BA : Below w2.heap.size w2 (w2.alloc (Obj.cells #[.int .i64 (p : Int)] 3)) := (Below.refl _ _).alloc (Nat.le_refl _) _
        have hrow2 := ownsRow_below4 hrow BA
        have HROW : Hid ((w2.alloc (Obj.cells #[.int .i64 (p : Int)] 3)).ownsRow W0.heap.size 3 1 (.slice ya (intL ks).length yc) (intL ks).length ((intL ks).map encI)) := hrow2
        have hkl := HI.out.kl
        have hszb : W0.heap.size ≤ (w2.alloc (Obj.cells #[.int .i64 (p : Int)] 3)).heap.size := by
          have q1 := HI.out.but.size
          have q2 := HBX1.out.size
          have q3 := hbut.size
          simp; omega
        have hil := intL_len ks
        have hk5 : ks.length ≤ 5000 := by have := cntL_len subs; omega
        have HG2 : Hid (hrow = hrow) := rfl
        have HLAID : Hid (∀ kv' w4, OwnI W0.heap.size (intL (ks ++ [p])) kv' w4 → (w2.alloc (Obj.cells #[.int .i64 (p : Int)] 3)).grownBy w4 (Value.slice ya (intL ks).length yc).ownBlock → (kv'.ownBlock = (Value.slice ya (intL ks).length yc).ownBlock ∨ kv'.ownBlock = some (w2.alloc (Obj.cells #[.int .i64 (p : Int)] 3)).heap.size) → LayI B bb mb S sv rv L R subs hfr W0 (j + 1) kv' S2 (ks ++ [p]) sv2 L2 w4) := fun kv' w4 a1 a2 a3 => HI.out.laid HBX1.out hbut (fun k hk => by have := (HNB.out k hk).2; have := HW0.out; omega) HRV.out hres hB2 hW2 hp2 hle2 hsv2 hkb2 a1 a2 a3
        have hil2 : (intL ks).length ≤ 5000 := by rw [hil]; exact hk5
        obtain ⟨kl, hkl0⟩ : ∃ kl, (intL ks).length = kl := ⟨_, rfl⟩
        rw [hkl0] at HROW HLAID hil2 ⊢
        have HKL : Hid ((intL ks).length = kl) := hkl0
        clear hkl0
        clear hrec1 hbut e0 e1 e2 e3 e4 e5 e6 p3 p3' hrow hrow2 BA HG2 hB2 hW2 hp2 hle2 hsv2 hkb2 hres HSN HNO hkl hil hk5 HKA
        go_wp2_with (at_builtin; refine wpList_append_own_at _ rfl _ _ 23 rfl W0.heap.size 3 is _ 1 8 Try.underlying23 his hs0 hs1 hs2 rfl (by decide) _ _ _ rfl HROW.out ⟨w2.heap.size, 0, none⟩ 1 1 [.int .i64 (p : Int)] rfl rfl (new_cell _ _ _) (fun u hu => by simp at hu; rcases hu with rfl; rfl) (by unfold maxLen; omega) (by omega) hszb ?_; intro v' w4 o1 o2 o3 o4)
        have HE : Hid (LayI B bb mb S sv rv L R subs hfr W0 (j + 1) v' S2 (ks ++ [p]) sv2 L2 w4) := HLAID.out v' w4 (by
          unfold OwnI
          rw [intL_snoc, List.map_append, List.length_append, HKL.out]
          exact o1) o2 o4
        clear o1 o2 o3 o4 HLAID HROW
        go_wp2_with fail
        exact ⟨⟨j + 1, S2, ks ++ [p], sv2, L2, by go_num, by omega, HE.out⟩, by simp [intOf]; omega⟩
      · -- no room
        have HE : Hid (LR (.returned (.tuple #[.int .i64 0, .bool false])) w2) := by
          rw [HLR.out]
          refine ⟨(But.of_next HW0.out.1).trans (HI.out.butTo HBX1.out hbut |>.mono (fun k _ h => h)), .inr ⟨?_, rfl⟩⟩
          have h1 : (layL (subs.take (j + 1)) S hfr).2 = none := by
            rw [HSN.out]
            obtain ⟨R1, R2⟩ := RS
            simp only at hr2
            subst hr2
            rfl
          have h2 := HNO.out h1
          rw [HLN.out]
          rcases hv : layL subs S hfr with ⟨S1, _ | x⟩
          · rfl
          · rw [hv] at h2; cases h2
        clear hrec1 hbut e0 e1 e2 e3 e4 e5 e6 p3 p3'
        go_wp2_with fail
        exact HE.out
    · obtain rfl : j = subs.length := by omega
      have hres := HI.out.res
      obtain ⟨xr, hxr, hwf1⟩ := HI.out.wf
      rw [List.take_length] at hres hxr
      have hLN : layN t S base = putS S' (relH ⟨hk, hn, hf, hfr, hto, hbd⟩ base) ks := by
        rw [HLN.out, hres]
      have HPUT : Hid (layN t S base = putS S' (relH ⟨hk, hn, hf, hfr, hto, hbd⟩ base) ks) := hLN
      obtain ⟨fr', hfr'⟩ : ∃ x, wrap64 (hfr - base) = x := ⟨_, rfl⟩
      obtain ⟨to', hto'⟩ : ∃ x, wrap64 (hto - base) = x := ⟨_, rfl⟩
      have w1 : IntKind.i64.wrap (hfr - base) = fr' := by rw [wrap_sub, hfr']
      have w2 : IntKind.i64.wrap (hto - base) = to' := by rw [wrap_sub, hto']
      have HRH : Hid (relH ⟨hk, hn, hf, hfr, hto, hbd⟩ base = ⟨hk, hn, hf, fr', to', hbd⟩) := by
        show _ = _
        unfold relH
        rw [hfr', hto']
      have HB64 : Hid (i64B fr' ∧ i64B to') := by
        rw [← hfr', ← hto']
        unfold wrap64 i64B
        constructor <;> omega
      clear hfr' hto' hLN
      have pf : ∀ o, wr.frozen? ⟨P, o, none⟩ = false := fun o => Lib.frozen_of_heap kP _
      have kP1 : (((wr.setCell ⟨P, 3, none⟩ (.int .i64 fr')).setCell ⟨P, 4, none⟩ (.int .i64 to')).setCell ⟨P, 6, none⟩ (.slice none 0 0)).heap[P]? = some (Obj.cells #[.string hk, .bool hn, .string hf, .int .i64 fr', .int .i64 to', .int .i64 hbd, .slice none 0 0] 32) := by
        have q1 := blk_set (o := 3) kP (.int .i64 fr')
        have q2 := blk_set (o := 4) q1 (.int .i64 to')
        have q3 := blk_set (o := 6) q2 (.slice none 0 0)
        simpa using q3
      have BP : But (fun k => k = P) wr (((wr.setCell ⟨P, 3, none⟩ (.int .i64 fr')).setCell ⟨P, 4, none⟩ (.int .i64 to')).setCell ⟨P, 6, none⟩ (.slice none 0 0)) := (((But.refl (fun k => k = P) wr).setCell ⟨P, 3, none⟩ (.int .i64 fr') (.inr rfl)).setCell ⟨P, 4, none⟩ (.int .i64 to') (.inr rfl)).setCell ⟨P, 6, none⟩ (.slice none 0 0) (.inr rfl)
      obtain ⟨wq, HWQ⟩ : ∃ wq, Hid (wq = ((wr.setCell ⟨P, 3, none⟩ (.int .i64 fr')).setCell ⟨P, 4, none⟩ (.int .i64 to')).setCell ⟨P, 6, none⟩ (.slice none 0 0)) := ⟨_, rfl⟩
      rw [← HWQ.out] at kP1 BP
      obtain ⟨ya, yc, hkv⟩ := slice_of_ownK HI.out.kids
      subst hkv
      have hPn : P < W0.heap.size ∧ w.heap.size ≤ P := by have := HW0.out; omega
      have hkids : OwnI W0.heap.size (intL ks) (.slice ya (intL ks).length yc) wq := ownsRow_keep HI.out.kids BP (fun q hq e => by have := (World.ownsRow.lt HI.out.kids q hq).1; omega)
      have hsl5 : S'.sl.length ≤ 4096 := hwf1.len
      have hki : ∀ y ∈ intL ks, i64B y := intL_i64 (fun k hk => by have := HI.out.kin k hk; omega)
      have hkl : ks.length ≤ 5000 := by have := HI.out.kl; have := cntL_len subs; omega
      have hho := heldOf_any ⟨hk, hn, hf, fr', to', hbd⟩ (.slice none 0 0) (intL ks) (.slice ya (intL ks).length yc) wq (sli_own hkids hki) (by rw [intL_len]; omega)
      have HK : Hid (∃ K, keyH ⟨hk, hn, hf, fr', to', hbd⟩ (intL ks) = K) := ⟨_, rfl⟩
      obtain ⟨K, hK⟩ := HK.out
      have HKE : Hid (keyH ⟨hk, hn, hf, fr', to', hbd⟩ (intL ks) = K) := hK
      rw [hK] at hho
      have hbld : Bld B bb mb S' sv' rv L' wq := HI.out.bld.but BP (fun k hk => by
        subst hk
        refine ⟨fun hd => ?_, fun e => ?_, fun e => ?_⟩
        · rcases hd with hd | hd | hd
          · have := (HNB.out _ (.inl hd)).2; omega
          · have := (HNB.out _ (.inr (.inl hd))).2; omega
          · exact own_nb HI.out.bld.own.row kP (by decide) hd
        · have := World.ownsRow.lt HI.out.bld.rt _ e
          exact own_nb HI.out.bld.rt kP (by decide) e
        · obtain ⟨q, hq, e⟩ := e
          exact own_nb (HI.out.bld.own.kids q hq) kP (by decide) e)
      have q0 : wq.cell? ⟨P, 0, none⟩ = some (.string hk) := by rw [Lib.cell_of_heap kP1]; rfl
      have q1 : wq.cell? ⟨P, 1, none⟩ = some (.bool hn) := by rw [Lib.cell_of_heap kP1]; rfl
      have q2 : wq.cell? ⟨P, 2, none⟩ = some (.string hf) := by rw [Lib.cell_of_heap kP1]; rfl
      have q3 : wq.cell? ⟨P, 3, none⟩ = some (.int .i64 fr') := by rw [Lib.cell_of_heap kP1]; rfl
      have q4 : wq.cell? ⟨P, 4, none⟩ = some (.int .i64 to') := by rw [Lib.cell_of_heap kP1]; rfl
      have q5 : wq.cell? ⟨P, 5, none⟩ = some (.int .i64 hbd) := by rw [Lib.cell_of_heap kP1]; rfl
      have q6 : wq.cell? ⟨P, 6, none⟩ = some (.slice none 0 0) := by rw [Lib.cell_of_heap kP1]; rfl
      have HBLD : Hid (Bld B bb mb S' sv' rv L' wq) := hbld
      have HKIDS : Hid (OwnI W0.heap.size (intL ks) (.slice ya (intL ks).length yc) wq) := hkids
      have HkP1 : Hid _ := kP1
      have HWF1 : Hid (Wf S' xr ∧ xr + subs.length = R + 2 * cntL subs) := ⟨hwf1, hxr⟩
      have HKLI : Hid (ks.length ≤ 5000 ∧ ∀ y ∈ intL ks, i64B y) := ⟨hkl, hki⟩
      have HBQ : Hid (But (fun k => BldD bb mb sv k) w wq) := by
        have a1 := (But.of_next (D := fun k => BldD bb mb sv k) HW0.out.1).trans HI.out.but
        exact ⟨BP.os.trans a1.os, BP.tape.trans a1.tape, BP.output.trans a1.output, Nat.le_trans a1.size BP.size, fun k hk hd => (BP.block k (by have := a1.size; omega) (by omega)).trans (a1.block k hk hd)⟩
      have HKN : Hid (∀ k, (Value.slice ya (intL ks).length yc).ownBlock = some k → rv.ownBlock ≠ some k ∧ w.heap.size ≤ k) := fun k hk => by
        have h1 := World.ownsRow.lt hkids k hk
        exact ⟨fun e => by have := HRV.out k e; omega, by omega⟩
      clear hbld hkids kP1 BP hwf1 hxr hres hkl hki hK HK
      rw [HWQ.out] at q0 q1 q2 q3 q4 q5 q6
      go_wp2_with fail
      rw [← HWQ.out]
      refine hho.mono ?_
      rintro e w2 ⟨rfl, hb2⟩
      have hdk : HdOk ⟨hk, hn, hf, fr', to', hbd⟩ := ⟨HB64.out.1, HB64.out.2, HOK.out.1.bad, HOK.out.1.kind, HOK.out.1.field⟩
      have hz0 : i64B 0 := ⟨by decide, by decide⟩
      have hKok : Hid (okK K) := by
        rw [← HKE.out]
        exact okK_of (s := ⟨.mk ⟨hk, hn, hf, fr', to', hbd⟩ [], intL ks, 0, 0⟩) ⟨hdk, hz0, hz0, by have := HKLI.out.1; rw [intL_len]; omega⟩ (by have := HKLI.out.1; show (intL ks).length ≤ _; rw [intL_len]; omega)
      have HDK : Hid (HdOk ⟨hk, hn, hf, fr', to', hbd⟩) := hdk
      obtain ⟨Kk, Kf, Kn, Kr, Kt, Kb, Kx, HKD⟩ : ∃ a b c d e f g, Hid (K = ⟨a, b, c, d, e, f, g⟩) := ⟨_, _, _, _, _, _, _, rfl⟩
      have hKV : hkV K = .agg #[.string Kk, .string Kf, .bool Kn, .int .i64 Kr, .int .i64 Kt, .int .i64 Kb, .string Kx] := by rw [HKD.out]; rfl
      rw [hKV]
      obtain ⟨q, HQ⟩ : ∃ q, Hid (q = w2.heap.size) := ⟨_, rfl⟩
      have HJ : Hid (LayK B bb mb sv rv L w P q W0.heap.size #[.string hk, .bool hn, .string hf, .int .i64 fr', .int .i64 to', .int .i64 hbd, .slice none 0 0] #[.string Kk, .string Kf, .bool Kn, .int .i64 Kr, .int .i64 Kt, .int .i64 Kb, .string Kx] ks (.slice ya (intL ks).length yc) S' sv' L' (w2.alloc (Obj.cells #[.string Kk, .string Kf, .bool Kn, .int .i64 Kr, .int .i64 Kt, .int .i64 Kb, .string Kx] 87))) := by
        have hb3 := below_next hb2 ((Below.refl w2.heap.size w2).alloc (Nat.le_refl _) (Obj.cells #[.string Kk, .string Kf, .bool Kn, .int .i64 Kr, .int .i64 Kt, .int .i64 Kb, .string Kx] 87))
        refine ⟨HBLD.out.next hb3, ownsRow_below4 HKIDS.out hb3, (hb3.block _ (blk_lt HkP1.out)).trans HkP1.out, ?_, HBQ.out.trans (But.of_next hb3), fun k hk => ?_, fun k hk => ?_⟩
        · rw [HQ.out]; exact heap_alloc_new _ _
        · rcases HI.out.sv k hk with h | h
          · exact .inl h
          · exact .inr (by omega)
        · rcases HI.out.kb k hk with h | h
          · exact .inl h
          · exact .inr (by omega)
      obtain ⟨fv, HFV⟩ : ∃ x : Int, Hid ((((S'.F K).getD 0 : Nat) : Int) = x) := ⟨_, rfl⟩
      obtain ⟨fb, HFB⟩ : ∃ x : Bool, Hid ((S'.F K).isSome = x) := ⟨_, rfl⟩
      have HLK : Hid (∀ S2 sv2 L2 W, Bld B bb mb S2 sv2 rv L2 W → S2.F = S'.F → (Instr.lookup 61 (.map (some mb)) (.agg #[.string Kk, .string Kf, .bool Kn, .int .i64 Kr, .int .i64 Kt, .int .i64 Kb, .string Kx]) true).run Try.prog W = .ok (.tuple #[.int .i64 fv, .bool fb]) W) := fun S2 sv2 L2 W hB hF => by
        obtain ⟨n, _, hm⟩ := hB.map
        have := hm.look hKok.out
        rw [hF, HFV.out, HFB.out, hKV] at this
        exact this
      clear hKV hdk hho q0 q1 q2 q3 q4 q5 q6 pf w1 kP p0 p1 p2 p3 p4 p5 p6 hb2
      go_upto_region 14 with fail
      rw [← HQ.out]
      generalize w2.alloc (Obj.cells #[.string Kk, .string Kf, .bool Kn, .int .i64 Kr, .int .i64 Kt, .int .i64 Kb, .string Kx] 87) = w3 at *
      have hS14 : (fun W : World => W.cell? ⟨bb, 3, none⟩ = some (.map (some mb)) ∧ W.cell? ⟨q, 0, none⟩ = some (.string Kk) ∧ W.cell? ⟨q, 1, none⟩ = some (.string Kf) ∧ W.cell? ⟨q, 2, none⟩ = some (.bool Kn) ∧ W.cell? ⟨q, 3, none⟩ = some (.int .i64 Kr) ∧ W.cell? ⟨q, 4, none⟩ = some (.int .i64 Kt) ∧ W.cell? ⟨q, 5, none⟩ = some (.int .i64 Kb) ∧ W.cell? ⟨q, 6, none⟩ = some (.string Kx) ∧ (Instr.lookup 61 (.map (some mb)) (.agg #[.string Kk, .string Kf, .bool Kn, .int .i64 Kr, .int .i64 Kt, .int .i64 Kb, .string Kx]) true).run Try.prog W = .ok (.tuple #[.int .i64 fv, .bool fb]) W) w3.drew := by
        have hj := HJ.out.next (Below.refl _ _).drew
        have c := hj.kbox
        exact ⟨by rw [Lib.cell_of_heap hj.bld.box]; rfl, by rw [Lib.cell_of_heap c]; rfl, by rw [Lib.cell_of_heap c]; rfl, by rw [Lib.cell_of_heap c]; rfl, by rw [Lib.cell_of_heap c]; rfl, by rw [Lib.cell_of_heap c]; rfl, by rw [Lib.cell_of_heap c]; rfl, by rw [Lib.cell_of_heap c]; rfl, HLK.out _ _ _ _ hj.bld rfl⟩
      refine wp_region_L (fun W => W.cell? ⟨bb, 3, none⟩ = some (.map (some mb)) ∧ W.cell? ⟨q, 0, none⟩ = some (.string Kk) ∧ W.cell? ⟨q, 1, none⟩ = some (.string Kf) ∧ W.cell? ⟨q, 2, none⟩ = some (.bool Kn) ∧ W.cell? ⟨q, 3, none⟩ = some (.int .i64 Kr) ∧ W.cell? ⟨q, 4, none⟩ = some (.int .i64 Kt) ∧ W.cell? ⟨q, 5, none⟩ = some (.int .i64 Kb) ∧ W.cell? ⟨q, 6, none⟩ = some (.string Kx) ∧ (Instr.lookup 61 (.map (some mb)) (.agg #[.string Kk, .string Kf, .bool Kn, .int .i64 Kr, .int .i64 Kt, .int .i64 Kb, .string Kx]) true).run Try.prog W = .ok (.tuple #[.int .i64 fv, .bool fb]) W) 11 (by kernel_rfl) 11 rfl ?_
      refine wpAnyL_take' (i := 0) (v := ?_) (oi := { dst := some 57, op := Op.move (Operand.tmp 0), type := 91, pos := "build.go:66", after := #[], guard := none }) rfl (by kernel_rfl) (by kernel_rfl) (by kernel_rfl) (by kernel_rfl) rfl (fun _ _ _ h => h) (Or.inl ⟨by rfl, ?_⟩) hS14 ?_
      rotate_left
      · intro W hSW
        go_simp
        try with_reducible rfl
      simp only [Act.put, List.setIfInBounds_toArray, List.set_cons_zero, List.set_cons_succ]
      refine wpAnyL_take' (i := 1) (v := ?_) (oi := { dst := some 58, op := Op.nilCheck (Operand.tmp 57), type := 0, pos := "build.go:66", after := #[{ on := 0, ground := Ground.data }], guard := none }) rfl (by kernel_rfl) (by kernel_rfl) (by kernel_rfl) (by kernel_rfl) rfl (fun _ _ _ h => h) (Or.inl ⟨by rfl, ?_⟩) hS14 ?_
      rotate_left
      · intro W hSW
        go_simp
        try with_reducible rfl
      simp only [Act.put, List.setIfInBounds_toArray, List.set_cons_zero, List.set_cons_succ]
      refine wpAnyL_take' (i := 2) (v := ?_) (oi := { dst := some 59, op := Op.fieldAddr 77 (Operand.tmp 58) 1, type := 0, pos := "build.go:66", after := #[{ on := 1, ground := Ground.data }], guard := none }) rfl (by kernel_rfl) (by kernel_rfl) (by kernel_rfl) (by kernel_rfl) rfl (fun _ _ _ h => h) (Or.inl ⟨by rfl, ?_⟩) hS14 ?_
      rotate_left
      · intro W hSW
        go_simp
        try with_reducible rfl
      simp only [Act.put, List.setIfInBounds_toArray, List.set_cons_zero, List.set_cons_succ]
      refine wpAnyL_take' (i := 3) (v := ?_) (oi := { dst := some 60, op := Op.load 61 (Operand.tmp 59), type := 61, pos := "build.go:66", after := #[{ on := 2, ground := Ground.data }], guard := none }) rfl (by kernel_rfl) (by kernel_rfl) (by kernel_rfl) (by kernel_rfl) rfl (fun _ _ _ h => h) (Or.inl ⟨by rfl, ?_⟩) hS14 ?_
      rotate_left
      · intro W hSW
        go_simp
        try with_reducible rfl
      simp only [Act.put, List.setIfInBounds_toArray, List.set_cons_zero, List.set_cons_succ]
      refine wpAnyL_take' (i := 4) (v := ?_) (oi := { dst := some 61, op := Op.load 87 (Operand.tmp 13), type := 87, pos := "build.go:66", after := #[], guard := none }) rfl (by kernel_rfl) (by kernel_rfl) (by kernel_rfl) (by kernel_rfl) rfl (fun _ _ _ h => h) (Or.inl ⟨by rfl, ?_⟩) hS14 ?_
      rotate_left
      · intro W hSW
        go_simp
        try with_reducible rfl
      simp only [Act.put, List.setIfInBounds_toArray, List.set_cons_zero, List.set_cons_succ]
      refine wpAnyL_take' (i := 5) (v := ?_) (oi := { dst := some 62, op := Op.lookup 61 (Operand.tmp 60) (Operand.tmp 61) true, type := 70, pos := "build.go:66", after := #[{ on := 3, ground := Ground.data }, { on := 4, ground := Ground.data }], guard := none }) rfl (by kernel_rfl) (by kernel_rfl) (by kernel_rfl) (by kernel_rfl) rfl (fun _ _ _ h => h) (Or.inl ⟨by rfl, ?_⟩) hS14 ?_
      rotate_left
      · intro W hSW
        go_simp
        try with_reducible rfl
      simp only [Act.put, List.setIfInBounds_toArray, List.set_cons_zero, List.set_cons_succ]
      refine wpAnyL_take' (i := 6) (v := ?_) (oi := { dst := some 56, op := Op.move (Operand.tmp 62), type := 70, pos := "build.go:66", after := #[{ on := 5, ground := Ground.data }], guard := none }) rfl (by kernel_rfl) (by kernel_rfl) (by kernel_rfl) (by kernel_rfl) rfl (fun _ _ _ h => h) (Or.inl ⟨by rfl, ?_⟩) hS14 ?_
      rotate_left
      · intro W hSW
        go_simp
        try with_reducible rfl
      simp only [Act.put, List.setIfInBounds_toArray, List.set_cons_zero, List.set_cons_succ]
      refine wpAnyL_take' (i := 7) (v := ?_) (oi := { dst := some 63, op := Op.extract (Operand.tmp 56) 0, type := 3, pos := "build.go:66", after := #[{ on := 6, ground := Ground.data }], guard := none }) rfl (by kernel_rfl) (by kernel_rfl) (by kernel_rfl) (by kernel_rfl) rfl (fun _ _ _ h => h) (Or.inl ⟨by rfl, ?_⟩) hS14 ?_
      rotate_left
      · intro W hSW
        go_simp
        try with_reducible rfl
      simp only [Act.put, List.setIfInBounds_toArray, List.set_cons_zero, List.set_cons_succ]
      refine wpAnyL_take' (i := 8) (v := ?_) (oi := { dst := some 64, op := Op.extract (Operand.tmp 56) 1, type := 4, pos := "build.go:66", after := #[{ on := 6, ground := Ground.data }, { on := 9, ground := Ground.gcOnly Departure.lateStores }], guard := none }) rfl (by kernel_rfl) (by kernel_rfl) (by kernel_rfl) (by kernel_rfl) rfl (fun _ _ _ h => h) (Or.inl ⟨by rfl, ?_⟩) hS14 ?_
      rotate_left
      · intro W hSW
        go_simp
        try with_reducible rfl
      simp only [Act.put, List.setIfInBounds_toArray, List.set_cons_zero, List.set_cons_succ]
      refine wpAnyL_take' (i := 9) (v := ?_) (oi := { dst := some 14, op := Op.assign (Operand.tmp 63), type := 3, pos := "build.go:66", after := #[{ on := 7, ground := Ground.data }, { on := 0, ground := Ground.phase }, { on := 1, ground := Ground.phase }, { on := 2, ground := Ground.phase }, { on := 3, ground := Ground.phase }, { on := 4, ground := Ground.phase }, { on := 5, ground := Ground.phase }, { on := 6, ground := Ground.phase }, { on := 7, ground := Ground.phase }, { on := 8, ground := Ground.textOnly Departure.lateStores }], guard := none }) rfl (by kernel_rfl) (by kernel_rfl) (by kernel_rfl) (by kernel_rfl) rfl (fun _ _ _ h => h) (Or.inl ⟨by rfl, ?_⟩) hS14 ?_
      rotate_left
      · intro W hSW
        go_simp
        try with_reducible rfl
      simp only [Act.put, List.setIfInBounds_toArray, List.set_cons_zero, List.set_cons_succ]
      refine wpAnyL_take' (i := 10) (v := ?_) (oi := { dst := some 15, op := Op.assign (Operand.tmp 64), type := 4, pos := "build.go:66", after := #[{ on := 8, ground := Ground.data }, { on := 9, ground := Ground.chain }, { on := 0, ground := Ground.phase }, { on := 1, ground := Ground.phase }, { on := 2, ground := Ground.phase }, { on := 3, ground := Ground.phase }, { on := 4, ground := Ground.phase }, { on := 5, ground := Ground.phase }, { on := 6, ground := Ground.phase }, { on := 7, ground := Ground.phase }, { on := 8, ground := Ground.phase }, { on := 9, ground := Ground.phase }], guard := none }) rfl (by kernel_rfl) (by kernel_rfl) (by kernel_rfl) (by kernel_rfl) rfl (fun _ _ _ h => h) (Or.inl ⟨by rfl, ?_⟩) hS14 ?_
      rotate_left
      · intro W hSW
        go_simp
        try with_reducible rfl
      simp only [Act.put, List.setIfInBounds_toArray, List.set_cons_zero, List.set_cons_succ]
      refine wpAnyL_done (by kernel_rfl) ?_ _
      have HJ2 := HJ.out.next (Below.refl _ _).drew
      clear hS14
      cases fb
      case true =>
        obtain ⟨p, hp⟩ := Option.isSome_iff_exists.1 HFB.out
        have HE : Hid (LR (.returned (.tuple #[.int .i64 fv, .bool true])) w3.drew) := by
          rw [HLR.out]
          have hPT := HPUT.out
          rw [HRH.out] at hPT
          unfold putS at hPT
          rw [HKE.out, hp] at hPT
          simp only at hPT
          have hfv : fv = (p : Int) := by have := HFV.out; rw [hp] at this; exact this.symm
          refine ⟨HJ2.but, .inl ⟨p, sv', L', by rw [hPT], by rw [hfv], by rw [hPT]; exact HJ2.bld, by rw [hPT]; exact HWF1.out.1.mono (by have := HWF1.out.2; omega), by rw [hPT]; exact HWF1.out.1.fin _ _ hp, by rw [hPT]; exact HI.out.le, HJ2.sv, HJ2.kb⟩⟩
        clear HJ2
        go_wp2_with fail
        exact HE.out
      have HN : Hid (S'.F K = none) := by have := HFB.out; show _ = _; simpa using this
      have HPT : Hid (layN t S base = putS S' ⟨hk, hn, hf, fr', to', hbd⟩ ks) := by have h := HPUT.out; rw [HRH.out] at h; exact h
      have hT := take_any B bb mb S' xr sv' rv L' w3.drew HJ2.bld HWF1.out.1 (by have := HJ2.but.size; have := (HNB.out bb (.inl rfl)); omega)
      have HJ2 : Hid _ := HJ2
      have HIL : Hid (ks.length = subs.length ∧ S.sl.length ≤ S'.sl.length ∧ ∀ k ∈ ks, k < S'.sl.length) := ⟨HI.out.kl, HI.out.le, HI.out.kin⟩
      clear HFV HFB HLK HI HPUT HRH
      go_wp2_with fail
      refine hT.mono ?_
      rintro e w5 (⟨hts, rfl, rfl⟩ | ⟨S2, p, sv2, L2, hts, rfl, hB2, hbt, hsv2, hkb2⟩)
      · have HE : Hid (LR (.returned (.tuple #[.int .i64 0, .bool false])) w3.drew) := by
          rw [HLR.out]
          refine ⟨HJ2.out.but, .inr ⟨?_, rfl⟩⟩
          rw [HPT.out]; unfold putS; rw [HKE.out, HN.out]; simp only; rw [hts]
        clear hT hts
        go_wp2_with fail
        exact HE.out
      obtain ⟨hw2, hp2, hpn, hF2, hr2, hle2⟩ := HWF1.out.1.take hts
      obtain ⟨g, cap, u0, hsv, hu, hg1, hg2, hku, hcell, hfz0, _⟩ := hB2.at (List.getElem?_eq_getElem hp2)
      have HJ3 : Hid (LayK B bb mb sv rv L w P q W0.heap.size #[.string hk, .bool hn, .string hf, .int .i64 fr', .int .i64 to', .int .i64 hbd, .slice none 0 0] #[.string Kk, .string Kf, .bool Kn, .int .i64 Kr, .int .i64 Kt, .int .i64 Kb, .string Kx] ks (.slice ya (intL ks).length yc) S2 sv2 L2 w5) := HJ2.out.step hbt (fun k h => h) hB2 hsv2 (fun k hk => .inl (hkb2 k hk))
      subst hsv
      have HTS : Hid (takeS S' = some (S2, p) ∧ Wf S2 xr ∧ p < S2.sl.length ∧ S2.F = S'.F ∧ S'.sl.length ≤ S2.sl.length) := ⟨hts, hw2, hp2, hF2, hle2⟩
      have h3 := HJ3.out.next (Below.refl _ _).drew
      obtain ⟨n2, HN2⟩ : ∃ n2, Hid (S2.sl.length = n2) := ⟨_, rfl⟩
      have hn2 := hw2.len
      rw [HN2.out] at hp2 hn2 h3 HJ3
      have hp2I : (p : Int) < (n2 : Int) := by omega
      clear hT hts hw2 hpn hF2 hr2 hle2 hB2 hbt hsv2 hkb2 hu hku
      have x0 : w5.cell? ⟨g, p * 10, none⟩ = _ := hcell 0 _ (by omega) rfl
      have x1 : w5.cell? ⟨g, p * 10 + 1, none⟩ = _ := hcell 1 _ (by omega) rfl
      have x2 : w5.cell? ⟨g, p * 10 + 2, none⟩ = _ := hcell 2 _ (by omega) rfl
      have x3 : w5.cell? ⟨g, p * 10 + 3, none⟩ = _ := hcell 3 _ (by omega) rfl
      have x4 : w5.cell? ⟨g, p * 10 + 4, none⟩ = _ := hcell 4 _ (by omega) rfl
      have x5 : w5.cell? ⟨g, p * 10 + 5, none⟩ = _ := hcell 5 _ (by omega) rfl
      have x6 : w5.cell? ⟨g, p * 10 + 6, none⟩ = _ := hcell 6 _ (by omega) rfl
      have x7 : w5.cell? ⟨g, p * 10 + 7, none⟩ = _ := hcell 7 _ (by omega) rfl
      have x8 : w5.cell? ⟨g, p * 10 + 8, none⟩ = _ := hcell 8 _ (by omega) rfl
      have x9 : w5.cell? ⟨g, p * 10 + 9, none⟩ = _ := hcell 9 _ (by omega) rfl
      have hfz : ∀ o, w5.frozen? ⟨g, o, none⟩ = false := fun o => hfz0 o
      have hS20 : (fun W : World => W.cell? ⟨bb, 0, none⟩ = some (.slice (some ⟨g, 0, none⟩) n2 cap) ∧ W.cell? ⟨P, 0, none⟩ = some (.string hk) ∧ W.cell? ⟨P, 1, none⟩ = some (.bool hn) ∧ W.cell? ⟨P, 2, none⟩ = some (.string hf) ∧ W.cell? ⟨P, 3, none⟩ = some (.int .i64 fr') ∧ W.cell? ⟨P, 4, none⟩ = some (.int .i64 to') ∧ W.cell? ⟨P, 5, none⟩ = some (.int .i64 hbd) ∧ W.cell? ⟨P, 6, none⟩ = some (.slice none 0 0)) w5.drew := by
        have c := h3.nbox
        exact ⟨by rw [Lib.cell_of_heap h3.bld.box]; rfl, by rw [Lib.cell_of_heap c]; rfl, by rw [Lib.cell_of_heap c]; rfl, by rw [Lib.cell_of_heap c]; rfl, by rw [Lib.cell_of_heap c]; rfl, by rw [Lib.cell_of_heap c]; rfl, by rw [Lib.cell_of_heap c]; rfl, by rw [Lib.cell_of_heap c]; rfl⟩
      have H3 : Hid _ := h3
      clear h3 hcell hfz0
      go_upto_region 20 with fail
      refine wp_region_L (fun W => W.cell? ⟨bb, 0, none⟩ = some (.slice (some ⟨g, 0, none⟩) n2 cap) ∧ W.cell? ⟨P, 0, none⟩ = some (.string hk) ∧ W.cell? ⟨P, 1, none⟩ = some (.bool hn) ∧ W.cell? ⟨P, 2, none⟩ = some (.string hf) ∧ W.cell? ⟨P, 3, none⟩ = some (.int .i64 fr') ∧ W.cell? ⟨P, 4, none⟩ = some (.int .i64 to') ∧ W.cell? ⟨P, 5, none⟩ = some (.int .i64 hbd) ∧ W.cell? ⟨P, 6, none⟩ = some (.slice none 0 0)) 10 (by kernel_rfl) 11 rfl ?_
      refine wpAnyL_take' (i := 0) (v := ?_) (oi := { dst := some 74, op := Op.move (Operand.tmp 0), type := 91, pos := "build.go:73", after := #[], guard := none }) rfl (by kernel_rfl) (by kernel_rfl) (by kernel_rfl) (by kernel_rfl) rfl (fun _ _ _ h => h) (Or.inl ⟨by rfl, ?_⟩) hS20 ?_
      rotate_left
      · intro W hSW
        go_simp
        try with_reducible rfl
      simp only [Act.put, List.setIfInBounds_toArray, List.set_cons_zero, List.set_cons_succ]
      refine wpAnyL_take' (i := 1) (v := ?_) (oi := { dst := some 75, op := Op.nilCheck (Operand.tmp 74), type := 0, pos := "build.go:73", after := #[{ on := 0, ground := Ground.data }], guard := none }) rfl (by kernel_rfl) (by kernel_rfl) (by kernel_rfl) (by kernel_rfl) rfl (fun _ _ _ h => h) (Or.inl ⟨by rfl, ?_⟩) hS20 ?_
      rotate_left
      · intro W hSW
        go_simp
        try with_reducible rfl
      simp only [Act.put, List.setIfInBounds_toArray, List.set_cons_zero, List.set_cons_succ]
      refine wpAnyL_take' (i := 2) (v := ?_) (oi := { dst := some 76, op := Op.fieldAddr 77 (Operand.tmp 75) 0, type := 0, pos := "build.go:73", after := #[{ on := 1, ground := Ground.data }], guard := none }) rfl (by kernel_rfl) (by kernel_rfl) (by kernel_rfl) (by kernel_rfl) rfl (fun _ _ _ h => h) (Or.inl ⟨by rfl, ?_⟩) hS20 ?_
      rotate_left
      · intro W hSW
        go_simp
        try with_reducible rfl
      simp only [Act.put, List.setIfInBounds_toArray, List.set_cons_zero, List.set_cons_succ]
      refine wpAnyL_take' (i := 3) (v := ?_) (oi := { dst := some 77, op := Op.fieldAddr 25 (Operand.tmp 76) 0, type := 0, pos := "build.go:73", after := #[{ on := 2, ground := Ground.data }], guard := none }) rfl (by kernel_rfl) (by kernel_rfl) (by kernel_rfl) (by kernel_rfl) rfl (fun _ _ _ h => h) (Or.inl ⟨by rfl, ?_⟩) hS20 ?_
      rotate_left
      · intro W hSW
        go_simp
        try with_reducible rfl
      simp only [Act.put, List.setIfInBounds_toArray, List.set_cons_zero, List.set_cons_succ]
      refine wpAnyL_take' (i := 4) (v := ?_) (oi := { dst := some 78, op := Op.load 22 (Operand.tmp 77), type := 22, pos := "build.go:73", after := #[{ on := 3, ground := Ground.data }], guard := none }) rfl (by kernel_rfl) (by kernel_rfl) (by kernel_rfl) (by kernel_rfl) rfl (fun _ _ _ h => h) (Or.inl ⟨by rfl, ?_⟩) hS20 ?_
      rotate_left
      · intro W hSW
        go_simp
        try with_reducible rfl
      simp only [Act.put, List.setIfInBounds_toArray, List.set_cons_zero, List.set_cons_succ]
      refine wpAnyL_take' (i := 5) (v := ?_) (oi := { dst := some 79, op := Op.move (Operand.tmp 16), type := 3, pos := "build.go:73", after := #[], guard := none }) rfl (by kernel_rfl) (by kernel_rfl) (by kernel_rfl) (by kernel_rfl) rfl (fun _ _ _ h => h) (Or.inl ⟨by rfl, ?_⟩) hS20 ?_
      rotate_left
      · intro W hSW
        go_simp
        try with_reducible rfl
      simp only [Act.put, List.setIfInBounds_toArray, List.set_cons_zero, List.set_cons_succ]
      refine wpAnyL_take' (i := 6) (v := ?_) (oi := { dst := some 80, op := Op.load 32 (Operand.tmp 4), type := 32, pos := "build.go:73", after := #[], guard := none }) rfl (by kernel_rfl) (by kernel_rfl) (by kernel_rfl) (by kernel_rfl) rfl (fun _ _ _ h => h) (Or.inl ⟨by rfl, ?_⟩) hS20 ?_
      rotate_left
      · intro W hSW
        go_simp
        try with_reducible rfl
      simp only [Act.put, List.setIfInBounds_toArray, List.set_cons_zero, List.set_cons_succ]
      refine wpAnyL_take' (i := 7) (v := ?_) (oi := { dst := some 81, op := Op.move (Operand.tmp 8), type := 23, pos := "build.go:73", after := #[], guard := none }) rfl (by kernel_rfl) (by kernel_rfl) (by kernel_rfl) (by kernel_rfl) rfl (fun _ _ _ h => h) (Or.inl ⟨by rfl, ?_⟩) hS20 ?_
      rotate_left
      · intro W hSW
        go_simp
        try with_reducible rfl
      simp only [Act.put, List.setIfInBounds_toArray, List.set_cons_zero, List.set_cons_succ]
      refine wpAnyL_take' (i := 8) (v := ?_) (oi := { dst := some 82, op := Op.build 60 #[(0, Operand.tmp 80), (1, Operand.tmp 81), (3, Operand.const (Value.int IntKind.i64 (-1)))], type := 60, pos := "build.go:73", after := #[{ on := 6, ground := Ground.data }, { on := 7, ground := Ground.data }], guard := none }) rfl (by kernel_rfl) (by kernel_rfl) (by kernel_rfl) (by kernel_rfl) rfl (fun _ _ _ h => h) (Or.inl ⟨by rfl, ?_⟩) hS20 ?_
      rotate_left
      · intro W hSW
        go_simp
        try with_reducible rfl
      simp only [Act.put, List.setIfInBounds_toArray, List.set_cons_zero, List.set_cons_succ]
      refine wpAnyL_take' (i := 9) (v := ?_) (oi := { dst := some 83, op := Op.indexAddr 22 (Operand.tmp 78) (Operand.tmp 79), type := 0, pos := "build.go:73", after := #[{ on := 4, ground := Ground.data }, { on := 5, ground := Ground.data }, { on := 0, ground := Ground.phase }, { on := 1, ground := Ground.phase }, { on := 2, ground := Ground.phase }, { on := 3, ground := Ground.phase }, { on := 4, ground := Ground.phase }, { on := 5, ground := Ground.phase }, { on := 6, ground := Ground.phase }, { on := 7, ground := Ground.phase }, { on := 8, ground := Ground.phase }], guard := none }) rfl (by kernel_rfl) (by kernel_rfl) (by kernel_rfl) (by kernel_rfl) rfl (fun _ _ _ h => h) (Or.inl ⟨by rfl, ?_⟩) hS20 ?_
      rotate_left
      · intro W hSW
        go_simp
        try with_reducible rfl
      simp only [Act.put, List.setIfInBounds_toArray, List.set_cons_zero, List.set_cons_succ]
      refine wpAnyL_one' (i := 10) (o := { dst := none, op := Op.store 60 (Operand.tmp 83) (Operand.tmp 82), type := 0, pos := "build.go:73", after := #[{ on := 9, ground := Ground.data }, { on := 8, ground := Ground.data }, { on := 0, ground := Ground.phase }, { on := 1, ground := Ground.phase }, { on := 2, ground := Ground.phase }, { on := 3, ground := Ground.phase }, { on := 4, ground := Ground.phase }, { on := 5, ground := Ground.phase }, { on := 6, ground := Ground.phase }, { on := 7, ground := Ground.phase }, { on := 8, ground := Ground.phase }], guard := none }) (by kernel_rfl) rfl rfl (fun K hK => ?_)
      go_simp
      refine hK.out _ _ (fun h => absurd h (by decide)) ?_
      clear hK K
      refine wpAnyL_done (by kernel_rfl) ?_ _
      clear x0 x1 x2 x3 x4 x5 x6 x7 x8 x9 hfz hS20
      have HJ6 : Hid (LayK B bb mb sv rv L w P q W0.heap.size #[.string hk, .bool hn, .string hf, .int .i64 fr', .int .i64 to', .int .i64 hbd, .slice none 0 0] #[.string Kk, .string Kf, .bool Kn, .int .i64 Kr, .int .i64 Kt, .int .i64 Kb, .string Kx] ks (.slice ya (intL ks).length yc) (S2.setSl p ⟨⟨hk, hn, hf, fr', to', hbd⟩, ks, 0, -1⟩) (.slice (some ⟨g, 0, none⟩) n2 cap) (L2.set p ((⟨⟨hk, hn, hf, fr', to', hbd⟩, ks, 0, -1⟩ : SN).sl, .slice ya (intL ks).length yc)) ((((((((((w5.setCell ⟨g, p * 10, none⟩ (.string hk)).setCell ⟨g, p * 10 + 1, none⟩ (.bool hn)).setCell ⟨g, p * 10 + 2, none⟩ (.string hf)).setCell ⟨g, p * 10 + 3, none⟩ (.int .i64 fr')).setCell ⟨g, p * 10 + 4, none⟩ (.int .i64 to')).setCell ⟨g, p * 10 + 5, none⟩ (.int .i64 hbd)).setCell ⟨g, p * 10 + 6, none⟩ (.slice none 0 0)).setCell ⟨g, p * 10 + 7, none⟩ (.slice ya (intL ks).length yc)).setCell ⟨g, p * 10 + 8, none⟩ (.int .i64 0)).setCell ⟨g, p * 10 + 9, none⟩ (.int .i64 (-1))).drew) := by
        have h5 := HJ3.out
        have hz0 : i64B 0 := ⟨by decide, by decide⟩
        have hz1 : i64B (-1) := ⟨by decide, by decide⟩
        have hil := intL_len ks
        have hkl5 := HKLI.out.1
        have hB6 := h5.bld.put10 (s := ⟨⟨hk, hn, hf, fr', to', hbd⟩, ks, 0, -1⟩) (i := p) (by rw [HN2.out]; exact hp2) (own_low (B := B) h5.kids (by have := (HNB.out bb (.inl rfl)); omega)) (fun k hk e => (HKN.out k e).1 hk) ⟨rfl, ⟨HDK.out, hz0, hz1, by show (intL ks).length ≤ _; omega⟩, by show (intL ks).length ≤ _; omega, HKLI.out.2⟩
        exact (h5.step (but_set10 _ _ _ _ _) (fun k e => .inr (.inr (by rw [e]; rfl))) hB6 (fun k h => .inl h) (fun k hk => by
          rcases KB.set hk with h | h
          · exact .inl h
          · exact .inr (.inr (HKN.out k h).2))).next (Below.refl _ _).drew
      generalize ((((((((((w5.setCell ⟨g, p * 10, none⟩ (.string hk)).setCell ⟨g, p * 10 + 1, none⟩ (.bool hn)).setCell ⟨g, p * 10 + 2, none⟩ (.string hf)).setCell ⟨g, p * 10 + 3, none⟩ (.int .i64 fr')).setCell ⟨g, p * 10 + 4, none⟩ (.int .i64 to')).setCell ⟨g, p * 10 + 5, none⟩ (.int .i64 hbd)).setCell ⟨g, p * 10 + 6, none⟩ (.slice none 0 0)).setCell ⟨g, p * 10 + 7, none⟩ (.slice ya (intL ks).length yc)).setCell ⟨g, p * 10 + 8, none⟩ (.int .i64 0)).setCell ⟨g, p * 10 + 9, none⟩ (.int .i64 (-1))).drew = w6 at *
      have HJ6d := HJ6.out.next (Below.refl _ _).drew
      obtain ⟨w7, hst, HJ7⟩ : ∃ w7, (Instr.mapUpdate 61 (.map (some mb)) (.agg #[.string Kk, .string Kf, .bool Kn, .int .i64 Kr, .int .i64 Kt, .int .i64 Kb, .string Kx]) (.int .i64 (p : Int))).run Try.prog w6.drew = .ok () w7 ∧ Hid (LayK B bb mb sv rv L w P q W0.heap.size #[.string hk, .bool hn, .string hf, .int .i64 fr', .int .i64 to', .int .i64 hbd, .slice none 0 0] #[.string Kk, .string Kf, .bool Kn, .int .i64 Kr, .int .i64 Kt, .int .i64 Kb, .string Kx] ks (.slice ya (intL ks).length yc) (putJ S2 p ⟨hk, hn, hf, fr', to', hbd⟩ ks K 0) (.slice (some ⟨g, 0, none⟩) n2 cap) (L2.set p ((⟨⟨hk, hn, hf, fr', to', hbd⟩, ks, 0, -1⟩ : SN).sl, .slice ya (intL ks).length yc)) w7) := by
        obtain ⟨n, hnn, hm⟩ := HJ6d.bld.map
        have hc := HTS.out.2.1.cnt
        have hxx := HWF1.out.2
        have hle := HIL.out.1
        have hn' : n ≤ S2.cnt := hnn
        obtain ⟨w7, hst, hm7, hb7, hz7⟩ := hm.store (by omega) hKok.out p
        have hf : (S2.setSl p ⟨⟨hk, hn, hf, fr', to', hbd⟩, ks, 0, -1⟩).F K = none := by show S2.F K = none; rw [HTS.out.2.2.2.1]; exact HN.out
        rw [hf] at hm7
        have hKV : hkV K = .agg #[.string Kk, .string Kf, .bool Kn, .int .i64 Kr, .int .i64 Kt, .int .i64 Kb, .string Kx] := by rw [HKD.out]; rfl
        rw [hKV] at hst
        exact ⟨w7, hst, HJ6d.step hb7 (fun k e => .inr (.inl e)) (HJ6d.bld.mapped (c := S2.cnt + 1) (by simp; omega) hm7 hb7) (fun k h => .inl h) (fun k h => .inl h)⟩
      have hS21 : (fun W : World => W.cell? ⟨bb, 3, none⟩ = some (.map (some mb)) ∧ W.cell? ⟨q, 0, none⟩ = some (.string Kk) ∧ W.cell? ⟨q, 1, none⟩ = some (.string Kf) ∧ W.cell? ⟨q, 2, none⟩ = some (.bool Kn) ∧ W.cell? ⟨q, 3, none⟩ = some (.int .i64 Kr) ∧ W.cell? ⟨q, 4, none⟩ = some (.int .i64 Kt) ∧ W.cell? ⟨q, 5, none⟩ = some (.int .i64 Kb) ∧ W.cell? ⟨q, 6, none⟩ = some (.string Kx)) w6.drew := by
        have c := HJ6d.kbox
        exact ⟨by rw [Lib.cell_of_heap HJ6d.bld.box]; rfl, by rw [Lib.cell_of_heap c]; rfl, by rw [Lib.cell_of_heap c]; rfl, by rw [Lib.cell_of_heap c]; rfl, by rw [Lib.cell_of_heap c]; rfl, by rw [Lib.cell_of_heap c]; rfl, by rw [Lib.cell_of_heap c]; rfl, by rw [Lib.cell_of_heap c]; rfl⟩
      clear HJ6d
      go_upto_region 21 with fail
      refine wp_region_L (fun W => W.cell? ⟨bb, 3, none⟩ = some (.map (some mb)) ∧ W.cell? ⟨q, 0, none⟩ = some (.string Kk) ∧ W.cell? ⟨q, 1, none⟩ = some (.string Kf) ∧ W.cell? ⟨q, 2, none⟩ = some (.bool Kn) ∧ W.cell? ⟨q, 3, none⟩ = some (.int .i64 Kr) ∧ W.cell? ⟨q, 4, none⟩ = some (.int .i64 Kt) ∧ W.cell? ⟨q, 5, none⟩ = some (.int .i64 Kb) ∧ W.cell? ⟨q, 6, none⟩ = some (.string Kx)) 6 (by kernel_rfl) 7 rfl ?_
      refine wpAnyL_take' (i := 0) (v := ?_) (oi := { dst := some 84, op := Op.move (Operand.tmp 0), type := 91, pos := "build.go:74", after := #[], guard := none }) rfl (by kernel_rfl) (by kernel_rfl) (by kernel_rfl) (by kernel_rfl) rfl (fun _ _ _ h => h) (Or.inl ⟨by rfl, ?_⟩) hS21 ?_
      rotate_left
      · intro W hSW
        go_simp
        try with_reducible rfl
      simp only [Act.put, List.setIfInBounds_toArray, List.set_cons_zero, List.set_cons_succ]
      refine wpAnyL_take' (i := 1) (v := ?_) (oi := { dst := some 85, op := Op.nilCheck (Operand.tmp 84), type := 0, pos := "build.go:74", after := #[{ on := 0, ground := Ground.data }], guard := none }) rfl (by kernel_rfl) (by kernel_rfl) (by kernel_rfl) (by kernel_rfl) rfl (fun _ _ _ h => h) (Or.inl ⟨by rfl, ?_⟩) hS21 ?_
      rotate_left
      · intro W hSW
        go_simp
        try with_reducible rfl
      simp only [Act.put, List.setIfInBounds_toArray, List.set_cons_zero, List.set_cons_succ]
      refine wpAnyL_take' (i := 2) (v := ?_) (oi := { dst := some 86, op := Op.fieldAddr 77 (Operand.tmp 85) 1, type := 0, pos := "build.go:74", after := #[{ on := 1, ground := Ground.data }], guard := none }) rfl (by kernel_rfl) (by kernel_rfl) (by kernel_rfl) (by kernel_rfl) rfl (fun _ _ _ h => h) (Or.inl ⟨by rfl, ?_⟩) hS21 ?_
      rotate_left
      · intro W hSW
        go_simp
        try with_reducible rfl
      simp only [Act.put, List.setIfInBounds_toArray, List.set_cons_zero, List.set_cons_succ]
      refine wpAnyL_take' (i := 3) (v := ?_) (oi := { dst := some 87, op := Op.load 61 (Operand.tmp 86), type := 61, pos := "build.go:74", after := #[{ on := 2, ground := Ground.data }], guard := none }) rfl (by kernel_rfl) (by kernel_rfl) (by kernel_rfl) (by kernel_rfl) rfl (fun _ _ _ h => h) (Or.inl ⟨by rfl, ?_⟩) hS21 ?_
      rotate_left
      · intro W hSW
        go_simp
        try with_reducible rfl
      simp only [Act.put, List.setIfInBounds_toArray, List.set_cons_zero, List.set_cons_succ]
      refine wpAnyL_take' (i := 4) (v := ?_) (oi := { dst := some 88, op := Op.load 87 (Operand.tmp 13), type := 87, pos := "build.go:74", after := #[], guard := none }) rfl (by kernel_rfl) (by kernel_rfl) (by kernel_rfl) (by kernel_rfl) rfl (fun _ _ _ h => h) (Or.inl ⟨by rfl, ?_⟩) hS21 ?_
      rotate_left
      · intro W hSW
        go_simp
        try with_reducible rfl
      simp only [Act.put, List.setIfInBounds_toArray, List.set_cons_zero, List.set_cons_succ]
      refine wpAnyL_take' (i := 5) (v := ?_) (oi := { dst := some 89, op := Op.move (Operand.tmp 16), type := 3, pos := "build.go:74", after := #[], guard := none }) rfl (by kernel_rfl) (by kernel_rfl) (by kernel_rfl) (by kernel_rfl) rfl (fun _ _ _ h => h) (Or.inl ⟨by rfl, ?_⟩) hS21 ?_
      rotate_left
      · intro W hSW
        go_simp
        try with_reducible rfl
      simp only [Act.put, List.setIfInBounds_toArray, List.set_cons_zero, List.set_cons_succ]
      refine wpAnyL_one' (i := 6) (o := { dst := none, op := Op.mapUpdate 61 (Operand.tmp 87) (Operand.tmp 88) (Operand.tmp 89), type := 0, pos := "build.go:74", after := #[{ on := 3, ground := Ground.data }, { on := 4, ground := Ground.data }, { on := 5, ground := Ground.data }, { on := 0, ground := Ground.phase }, { on := 1, ground := Ground.phase }, { on := 2, ground := Ground.phase }, { on := 3, ground := Ground.phase }, { on := 4, ground := Ground.phase }, { on := 5, ground := Ground.phase }], guard := none }) (by kernel_rfl) rfl rfl (fun K hK => ?_)
      go_simp
      refine hK.out _ _ (fun h => absurd h (by decide)) ?_
      clear hK K
      refine wpAnyL_done (by kernel_rfl) ?_ _
      clear hst hS21
      have HLP : Hid (∀ j L7 W, LayK B bb mb sv rv L w P q W0.heap.size #[.string hk, .bool hn, .string hf, .int .i64 fr', .int .i64 to', .int .i64 hbd, .slice none 0 0] #[.string Kk, .string Kf, .bool Kn, .int .i64 Kr, .int .i64 Kt, .int .i64 Kb, .string Kx] ks (.slice ya (intL ks).length yc) (putJ S2 p ⟨hk, hn, hf, fr', to', hbd⟩ ks K j) (.slice (some ⟨g, 0, none⟩) n2 cap) L7 W → j < ks.length → ∃ kj rf b off, ks[j]? = some kj ∧ kj < n2 ∧ rf ≤ 2000000000000 ∧ ya = some ⟨b, off, none⟩ ∧ W.cell? ⟨b, off + j, none⟩ = some (.int .i64 (kj : Int)) ∧ b < W.heap.size ∧ W.cell? ⟨bb, 0, none⟩ = some (.slice (some ⟨g, 0, none⟩) n2 cap) ∧ W.cell? ⟨g, kj * 10 + 8, none⟩ = some (.int .i64 ((rf : Nat) : Int)) ∧ (∀ o, W.frozen? ⟨g, o, none⟩ = false) ∧ ∃ L8, LayK B bb mb sv rv L w P q W0.heap.size #[.string hk, .bool hn, .string hf, .int .i64 fr', .int .i64 to', .int .i64 hbd, .slice none 0 0] #[.string Kk, .string Kf, .bool Kn, .int .i64 Kr, .int .i64 Kt, .int .i64 Kb, .string Kx] ks (.slice ya (intL ks).length yc) (putJ S2 p ⟨hk, hn, hf, fr', to', hbd⟩ ks K (j + 1)) (.slice (some ⟨g, 0, none⟩) n2 cap) L8 (W.setCell ⟨g, kj * 10 + 8, none⟩ (.int .i64 ((rf : Int) + 1)))) := fun j L7 W h hj => by
        have hsl := sli_own h.kids HKLI.out.2
        obtain ⟨ao, cp, e0, hr, _⟩ := hsl
        simp only [Value.slice.injEq] at e0
        obtain ⟨rfl, _, rfl⟩ := e0
        have hji : (intL ks)[j]? = some ((ks[j] : Nat) : Int) := by unfold intL; rw [List.getElem?_map, List.getElem?_eq_getElem hj]; rfl
        obtain ⟨b, off, hya, hbl, c0⟩ := hr j _ hji
        have hkin := HIL.out.2.2 ks[j] (List.getElem_mem hj)
        have hle := HTS.out.2.2.2.2
        have hkn : ks[j] < n2 := by rw [← HN2.out]; omega
        have hpl := putJ_len S2 p ⟨hk, hn, hf, fr', to', hbd⟩ ks K j
        have hin : ks[j] < (putJ S2 p ⟨hk, hn, hf, fr', to', hbd⟩ ks K j).sl.length := by rw [hpl, HN2.out]; exact hkn
        have hs := List.getElem?_eq_getElem hin
        obtain ⟨g', cap', u, e, hu, _, _, _, hcell, hfz, _⟩ := h.bld.at hs
        simp only [Value.slice.injEq, Option.some.injEq, Addr.mk.injEq, and_true] at e
        obtain ⟨rfl, _, rfl⟩ := e
        have hrf := putJ_refs HTS.out.2.1 (List.getElem_mem hin)
        have hxx := HWF1.out.2
        have hle5 := HKLI.out.1
        have h8 := hcell 8 _ (by omega) rfl
        obtain ⟨L8, hB8, hkb8⟩ := h.bld.refs hs ((putJ S2 p ⟨hk, hn, hf, fr', to', hbd⟩ ks K j).sl[ks[j]].refs + 1) (by omega)
        rw [putJ_succ hj hs] at hB8
        exact ⟨ks[j], (putJ S2 p ⟨hk, hn, hf, fr', to', hbd⟩ ks K j).sl[ks[j]].refs, b, off, List.getElem?_eq_getElem hj, hkn, by omega, hya, c0, hbl, by rw [Lib.cell_of_heap h.bld.box]; rfl, h8, hfz, L8, h.step ((But.refl (fun k => k = g) W).setCell _ _ (.inr rfl)) (fun k e => .inr (.inr (by rw [e]; rfl))) hB8 (fun k h => .inl h) (fun k h => .inl (hkb8 k h))⟩
      have hil := intL_len ks
      have hkl5 : ks.length ≤ 5000 := HKLI.out.1
      obtain ⟨kn, HKN2⟩ : ∃ kn, Hid (ks.length = kn) := ⟨_, rfl⟩
      rw [HKN2.out] at hil hkl5 HLP
      rw [hil] at HLP HJ7 ⊢
      clear H3 HJ6 HJ3 HJ2 HJ hp2I
      go_wp2_with fail
      go_loopw [92] (fun iv wr => ∃ j : Nat, iv = .int .i64 (j : Int) ∧ j ≤ kn ∧ Hid (∃ L7, LayK B bb mb sv rv L w P q W0.heap.size #[.string hk, .bool hn, .string hf, .int .i64 fr', .int .i64 to', .int .i64 hbd, .slice none 0 0] #[.string Kk, .string Kf, .bool Kn, .int .i64 Kr, .int .i64 Kt, .int .i64 Kb, .string Kx] ks (.slice ya kn yc) (putJ S2 p ⟨hk, hn, hf, fr', to', hbd⟩ ks K j) (.slice (some ⟨g, 0, none⟩) n2 cap) L7 wr)) (fun iv _ => kn - (intOf iv).toNat)
      case atStart => exact ⟨0, rfl, Nat.zero_le _, _, HJ7.out⟩
      case round =>
      obtain ⟨j, rfl, hj, HQ7⟩ := hrel
      clear HJ7
      obtain ⟨L7, hq7⟩ := HQ7.out
      by_cases hlt : j < kn
      · obtain ⟨kj, rf, b, off, hkj, hkn, hrf, rfl, c0, hbl, c1, c2, hfz, L8, h8⟩ := HLP.out j L7 _ hq7 hlt
        have hw : IntKind.i64.wrap ((rf : Int) + 1) = (rf : Int) + 1 := by rw [IntWalk.i64_in _ (by omega)]
        have hkI : (kj : Int) < (n2 : Int) := by omega
        have hjI : (j : Int) < (kn : Int) := by omega
        have HE : Hid _ := h8
        clear hq7 h8 HQ7 HLP hkj
        go_wp2_with fail
        exact ⟨⟨j + 1, by go_num, by omega, L8, HE.out⟩, by simp [intOf]; omega⟩
      · obtain rfl : j = kn := by omega
        have HE : Hid (LR (.returned (.tuple #[.int .i64 (p : Int), .bool true])) wr) := by
          rw [HLR.out]
          have hps : putS S' ⟨hk, hn, hf, fr', to', hbd⟩ ks = (putJ S2 p ⟨hk, hn, hf, fr', to', hbd⟩ ks K j, some p) := by
            unfold putS putJ
            rw [HKE.out, HN.out]
            simp only
            rw [HTS.out.1]
            simp only
            rw [List.take_of_length_le (by rw [HKN2.out]; exact Nat.le_refl _)]
          obtain ⟨hw, hp, hle⟩ := HWF1.out.1.put HDK.out (fun k hk => HIL.out.2.2 k hk) (by rw [HKN2.out]; omega) hps
          have hPT := HPT.out
          rw [hps] at hPT
          refine ⟨hq7.but, .inl ⟨p, _, L7, by rw [hPT], rfl, by rw [hPT]; exact hq7.bld, by rw [hPT]; exact hw.mono (by have := HWF1.out.2; have := HIL.out.1; omega), by rw [hPT]; exact hp, by rw [hPT]; exact Nat.le_trans HIL.out.2.1 hle, hq7.sv, hq7.kb⟩⟩
        clear hq7 HQ7 HLP
        go_wp2_with fail
        exact HE.out
end Go.Proofs.Ytoocafcagelbgaa
