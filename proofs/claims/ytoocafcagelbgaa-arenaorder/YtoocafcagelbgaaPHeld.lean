/- heldOf: what a slot holds, as a key. -/
import Derived.Test.YtoocafcagelbgaaABase
import Derived.Laws.IdiomStrings
import Derived.OwnWalk
import Derived.Laws.BytesArg
import Derived.RangeFuncRecord
namespace Go.Proofs.Ytoocafcagelbgaa
open Go.RowKit

def byteI (x : Int) : UInt8 := UInt8.ofNat (x % 256).toNat
def textB (ks : List Int) : List UInt8 := ks.flatMap fun k => [byteI (k / 256), byteI k]
def textK (ks : List Int) : ByteArray := ⟨(textB ks).toArray⟩
theorem textB_take {ks : List Int} {j : Nat} (h : j < ks.length) : textB (ks.take (j + 1)) = textB (ks.take j) ++ [byteI (ks[j] / 256), byteI ks[j]] := by
  unfold textB
  rw [List.take_succ_eq_append_getElem h, List.flatMap_append]
  simp
theorem textB_len (ks : List Int) : (textB ks).length = ks.length * 2 := by
  unfold textB
  induction ks with
  | nil => rfl
  | cons k l ih => rw [List.flatMap_cons, List.length_append, ih]; simp; omega
/-- A key. -/
structure HK where
  kind : ByteArray
  field : ByteArray
  named : Bool
  frm : Int
  til : Int
  bad : Int
  ks : ByteArray
deriving DecidableEq
def keyH (h : Hd) (ks : List Int) : HK := ⟨h.kind, h.field, h.named, h.frm, h.til, h.bad, textK ks⟩
def hkV (k : HK) : Value := .agg #[.string k.kind, .string k.field, .bool k.named, .int .i64 k.frm, .int .i64 k.til, .int .i64 k.bad, .string k.ks]
def encU8 (u : UInt8) : Value := .int .u8 (u.toNat : Int)
theorem u8_byte (x : Int) : IntKind.u8.wrap x = ((byteI x).toNat : Int) := by
  unfold byteI
  simp [IntKind.wrap, IntKind.bits, IntKind.signed]
  omega
theorem infoU8 : (Try.prog.info? 5).map (fun i => (i.zero, i.size, i.bytes)) = some (some (.int .u8 0), 1, 1) := by kernel_rfl
theorem new2 (W : World) (a0 a1 : Value) (ty : TypeId) : ∀ (i : Nat) (u : Value), [a0, a1][i]? = some u → (W.alloc (Obj.cells #[a0, a1] ty)).cell? ((⟨W.heap.size, 0, none⟩ : Addr).add i) = some u := by
  intro i u hi
  rw [add_plain, Nat.zero_add]
  rcases i with _ | _ | i <;> simp at hi <;> subst hi <;> simp

set_option maxRecDepth 100000 in
set_option maxHeartbeats 2000000 in
theorem heldOf_any (h : Hd) (kv : Value) (ks : List Int) (gv : Value) (w : World) (hk : SlI ks gv w) (hl : ks.length ≤ 1000000) :
    Calls Try.prog 54 #[ndV h kv, gv] w fun e w' => e = .returned (hkV (keyH h ks)) ∧ Below w.heap.size w w' := by
  obtain ⟨i0, hi0, hz0, hz1, hz2⟩ := info_parts infoU8
  have HK0 : Hid (∀ W, Below w.heap.size w W → SlI ks gv W) := fun W hb => hk.next hb
  obtain ⟨ga, gc, rfl, _⟩ := hk
  obtain ⟨nk, nn, nf, nr, nt, nb⟩ := h
  unfold ndV hkV keyH
  simp only
  go_enter Try.func54, Try.ntmps54
  go_wp2_with fail
  have W0e : ∃ W0, W0 = (w.alloc (Obj.cells #[.string nk, .bool nn, .string nf, .int .i64 nr, .int .i64 nt, .int .i64 nb, kv] 32)).alloc (Obj.cells #[.string ⟨#[]⟩, .string ⟨#[]⟩, .bool false, .int .i64 0, .int .i64 0, .int .i64 0, .string ⟨#[]⟩] 87) := ⟨_, rfl⟩
  obtain ⟨W0, hW0⟩ := W0e
  have hB0 : Below w.heap.size w W0 := by rw [hW0]; exact ((Below.refl _ _).alloc (Nat.le_refl _) _).alloc (by simp) _
  have hz : W0.heap.size = w.heap.size + 1 + 1 := by rw [hW0]; simp
  have b0 : W0.heap[w.heap.size]? = some (.cells #[.string nk, .bool nn, .string nf, .int .i64 nr, .int .i64 nt, .int .i64 nb, kv] 32 (0, 0)) := by rw [hW0]; exact (Below.heap_alloc _ _ _ (by simp)).trans (World.alloc_heap_new w _)
  have b1 : W0.heap[w.heap.size + 1]? = some (.cells #[.string ⟨#[]⟩, .string ⟨#[]⟩, .bool false, .int .i64 0, .int .i64 0, .int .i64 0, .string ⟨#[]⟩] 87 (0, 0)) := by
    have := World.alloc_heap_new (w.alloc (Obj.cells #[.string nk, .bool nn, .string nf, .int .i64 nr, .int .i64 nt, .int .i64 nb, kv] 32)) (Obj.cells #[.string ⟨#[]⟩, .string ⟨#[]⟩, .bool false, .int .i64 0, .int .i64 0, .int .i64 0, .string ⟨#[]⟩] 87)
    rw [World.size_alloc] at this
    rw [hW0]; exact this
  rw [← hW0]
  clear hW0
  obtain ⟨P, HP⟩ : ∃ P, Hid (P = w.heap.size) := ⟨_, rfl⟩
  rw [← HP.out] at b0 b1 hz ⊢
  have HBK : Hid (W0.heap[P]? = some (.cells #[.string nk, .bool nn, .string nf, .int .i64 nr, .int .i64 nt, .int .i64 nb, kv] 32 (0, 0)) ∧ W0.heap[P + 1]? = some (.cells #[.string ⟨#[]⟩, .string ⟨#[]⟩, .bool false, .int .i64 0, .int .i64 0, .int .i64 0, .string ⟨#[]⟩] 87 (0, 0))) := ⟨b0, b1⟩
  have HZ : Hid (W0.heap.size = P + 1 + 1) := hz
  have HPB : Hid (Below P w W0) := by show Below P w W0; rw [HP.out]; exact hB0
  have HK : Hid (∀ W, Below W0.heap.size W0 W → SlI ks (.slice ga ks.length gc) W) := fun W hb => HK0.out W (below_next hB0 hb)
  clear b0 b1 hz hB0 HK0
  go_loopw [5, 10] (fun pv i wr => ∃ (j : Nat), i = .int .i64 j ∧ j ≤ ks.length ∧ wr.ownsRow W0.heap.size 5 1 pv (textB (ks.take j)).length ((textB (ks.take j)).map encU8) ∧ Below W0.heap.size W0 wr) (fun _ i _ => ks.length - (intOf i).toNat)
  case atStart => exact ⟨0, rfl, Nat.zero_le _, World.ownsRow_nil _ _ _ _, Below.refl _ _⟩
  case round =>
  obtain ⟨j, rfl, hj, hown, B1⟩ := hrel
  have hsz := B1.size
  obtain ⟨pa, pc, rfl⟩ := slice_of_ownK hown
  have htl : (textB (ks.take j)).length ≤ 2000000 := by rw [textB_len, List.length_take]; omega
  by_cases hlt : j < ks.length
  case neg =>
    obtain rfl : j = ks.length := by omega
    rw [List.take_length] at *
    have hb0 : wr.heap[P]? = _ := (B1.block P (by have := HZ.out; omega)).trans HBK.out.1
    have hb1 : wr.heap[P + 1]? = _ := (B1.block (P + 1) (by have := HZ.out; omega)).trans HBK.out.2
    have c : ∀ o, wr.cell? ⟨P, o, none⟩ = #[Value.string nk, Value.bool nn, Value.string nf, Value.int IntKind.i64 nr, Value.int IntKind.i64 nt, Value.int IntKind.i64 nb, kv][o]? := fun o => by simp [World.cell?, hb0]
    have c0 : wr.cell? ⟨P, 0, none⟩ = some (.string nk) := c 0
    have c1 : wr.cell? ⟨P, 1, none⟩ = some (.bool nn) := c 1
    have c2 : wr.cell? ⟨P, 2, none⟩ = some (.string nf) := c 2
    have c3 : wr.cell? ⟨P, 3, none⟩ = some (.int .i64 nr) := c 3
    have c4 : wr.cell? ⟨P, 4, none⟩ = some (.int .i64 nt) := c 4
    have c5 : wr.cell? ⟨P, 5, none⟩ = some (.int .i64 nb) := c 5
    have f1 : ∀ o, wr.frozen? ⟨P + 1, o, none⟩ = false := fun o => by simp [World.frozen?, hb1]
    have q0 : wr.cell? ⟨P + 1, 0, none⟩ = some (.string ⟨#[]⟩) := by simp [World.cell?, hb1]
    have q1 : wr.cell? ⟨P + 1, 1, none⟩ = some (.string ⟨#[]⟩) := by simp [World.cell?, hb1]
    have q2 : wr.cell? ⟨P + 1, 2, none⟩ = some (.bool false) := by simp [World.cell?, hb1]
    have q3 : wr.cell? ⟨P + 1, 3, none⟩ = some (.int .i64 0) := by simp [World.cell?, hb1]
    have q4 : wr.cell? ⟨P + 1, 4, none⟩ = some (.int .i64 0) := by simp [World.cell?, hb1]
    have q5 : wr.cell? ⟨P + 1, 5, none⟩ = some (.int .i64 0) := by simp [World.cell?, hb1]
    have q6 : wr.cell? ⟨P + 1, 6, none⟩ = some (.string ⟨#[]⟩) := by simp [World.cell?, hb1]
    have hcv : (convert 93 9 (.slice pa (textB ks).length pc)).run Try.prog wr = .ok (.string (textK ks)) wr := by
      rcases hown.2 with ⟨e, hn⟩ | ⟨g, cap, cur, e, _⟩
      · simp only [Value.slice.injEq] at e
        obtain ⟨rfl, -, rfl⟩ := e
        have e0 : textB ks = [] := List.eq_nil_of_length_eq_zero hn
        have e1 : textK ks = ByteArray.empty := by unfold textK; rw [e0]; rfl
        rw [e1]
        exact run_convert_bytes_nil wr 93 5 Try.underlying93 Try.underlying5 _ 0 9 Try.underlying9
      · simp only [Value.slice.injEq] at e
        obtain ⟨rfl, -, rfl⟩ := e
        refine run_convert_bytes_back wr 93 9 5 ⟨g, 0, none⟩ pc (textB ks) Try.underlying93 Try.underlying5 Try.underlying9 fun q hq => ?_
        exact World.ownsRow.cells hown (g := g) rfl q (encU8 (textB ks)[q]) (by simp [hq])
    have HB1 : Hid (wr.heap[P + 1]? = some (.cells #[.string ⟨#[]⟩, .string ⟨#[]⟩, .bool false, .int .i64 0, .int .i64 0, .int .i64 0, .string ⟨#[]⟩] 87 (0, 0))) := hb1
    generalize (textB ks).length = tl at *
    obtain ⟨tk, HTK⟩ : ∃ tk, Hid (textK ks = tk) := ⟨_, rfl⟩
    rw [HTK.out] at hcv
    clear hb0 hb1 hown HK HBK c
    go_wp2_with fail
    have hh : (((((((wr.setCell ⟨P + 1, 0, none⟩ (.string nk)).setCell ⟨P + 1, 1, none⟩ (.string nf)).setCell ⟨P + 1, 2, none⟩ (.bool nn)).setCell ⟨P + 1, 3, none⟩ (.int .i64 nr)).setCell ⟨P + 1, 4, none⟩ (.int .i64 nt)).setCell ⟨P + 1, 5, none⟩ (.int .i64 nb)).setCell ⟨P + 1, 6, none⟩ (.string tk)).heap[P + 1]? = some (.cells #[.string nk, .string nf, .bool nn, .int .i64 nr, .int .i64 nt, .int .i64 nb, .string tk] 87 (0, 0)) := by
      have h0 := blk_set (o := 0) HB1.out (.string nk)
      have h1 := blk_set (o := 1) h0 (.string nf)
      have h2 := blk_set (o := 2) h1 (.bool nn)
      have h3 := blk_set (o := 3) h2 (.int .i64 nr)
      have h4 := blk_set (o := 4) h3 (.int .i64 nt)
      have h5 := blk_set (o := 5) h4 (.int .i64 nb)
      have h6 := blk_set (o := 6) h5 (.string tk)
      exact h6
    have hBt : But (fun k => k = P + 1) wr (((((((wr.setCell ⟨P + 1, 0, none⟩ (.string nk)).setCell ⟨P + 1, 1, none⟩ (.string nf)).setCell ⟨P + 1, 2, none⟩ (.bool nn)).setCell ⟨P + 1, 3, none⟩ (.int .i64 nr)).setCell ⟨P + 1, 4, none⟩ (.int .i64 nt)).setCell ⟨P + 1, 5, none⟩ (.int .i64 nb)).setCell ⟨P + 1, 6, none⟩ (.string tk)) :=
      ((((((((But.refl (fun k => k = P + 1) wr).setCell ⟨P + 1, 0, none⟩ (.string nk) (.inr rfl)).setCell ⟨P + 1, 1, none⟩ (.string nf) (.inr rfl)).setCell ⟨P + 1, 2, none⟩ (.bool nn) (.inr rfl)).setCell ⟨P + 1, 3, none⟩ (.int .i64 nr) (.inr rfl)).setCell ⟨P + 1, 4, none⟩ (.int .i64 nt) (.inr rfl)).setCell ⟨P + 1, 5, none⟩ (.int .i64 nb) (.inr rfl)).setCell ⟨P + 1, 6, none⟩ (.string tk) (.inr rfl))
    refine bodyPost_ret (results_cell_row rfl _ _ (P + 1) 87 #[.string nk, .string nf, .bool nn, .int .i64 nr, .int .i64 nt, .int .i64 nb, .string tk] (0, 0) _ rfl hh Try.underlying87 rfl (by kernel_rfl)) rfl ?_
    refine ⟨by rw [HTK.out], ?_⟩
    have h1 : Below P w wr := HPB.out.trans (B1.mono (by have := HZ.out; omega))
    have h2 := h1.trans (hBt.below (n := P) (by have := HZ.out; omega) (fun k hk => by omega))
    rw [← HP.out]; exact h2
  obtain ⟨_, _, e0, hr, _⟩ := HK.out _ B1
  cases e0
  obtain ⟨b, off, rfl, hbl, c0⟩ := hr.at (Below.refl _ _) hlt
  have hT := textB_take hlt
  generalize ks[j] = x at *
  have c1 : wr.cell? ⟨b, off + j, none⟩ = some (.int .i64 x) := c0
  have hw1 := u8_byte x
  have hw2 := u8_byte (x / 256)
  have HT : Hid (textB (ks.take (j + 1)) = textB (ks.take j) ++ [byteI (x / 256), byteI x]) := hT
  generalize textB (ks.take j) = tb at *
  obtain ⟨z1, hz1'⟩ : ∃ z : Int, ((byteI (x / 256)).toNat : Int) = z := ⟨_, rfl⟩
  obtain ⟨z2, hz2'⟩ : ∃ z : Int, ((byteI x).toNat : Int) = z := ⟨_, rfl⟩
  rw [hz2'] at hw1
  rw [hz1'] at hw2
  have HE : Hid ([byteI (x / 256), byteI x].map encU8 = [.int .u8 z1, .int .u8 z2]) := by
    show _ = _
    simp only [List.map_cons, List.map_nil, encU8, hz1', hz2']
  have hs8 : x >>> 8 = x / 256 := by
    rw [Int.shiftRight_eq_div_pow]; rfl
  have HOW : Hid (wr.ownsRow W0.heap.size 5 1 (.slice pa tb.length pc) tb.length (tb.map encU8)) := hown
  have Bn : Below wr.heap.size wr (wr.alloc (Obj.cells #[.int .u8 z1, .int .u8 z2] 5)) := (Below.refl _ _).alloc (Nat.le_refl _) _
  have HON : Hid ((wr.alloc (Obj.cells #[.int .u8 z1, .int .u8 z2] 5)).ownsRow W0.heap.size 5 1 (.slice pa tb.length pc) tb.length (tb.map encU8)) := ownsRow_below4 HOW.out Bn
  clear hT hown hr c0 hz1' hz2' HBK HK
  go_wp2_with (at_builtin; refine wpList_append_own_at _ rfl _ _ 93 rfl W0.heap.size 5 i0 _ 1 1 Try.underlying93 hi0 hz0 hz1 hz2 rfl (by decide) (.slice pa tb.length pc) tb.length (tb.map encU8) rfl HON.out ⟨wr.heap.size, 0, none⟩ 2 2 [.int .u8 z1, .int .u8 z2] rfl rfl (new2 wr _ _ _) (fun u hu => by simp at hu; rcases hu with rfl | rfl <;> rfl) (by unfold maxLen; omega) (by omega) (by simp; omega) ?_; intro v' w' o1 o2 o3 o4)
  have HF : Hid (w'.ownsRow W0.heap.size 5 1 v' (textB (ks.take (j + 1))).length ((textB (ks.take (j + 1))).map encU8)) := by
    show w'.ownsRow _ _ _ _ _ _
    rw [HT.out, List.map_append, HE.out, List.length_append]
    exact o1
  have B2 : Below W0.heap.size W0 w' := ((But.of_next (D := fun _ => False) (B1.trans (Bn.mono hsz))).grown o2 (fun r hr => (World.ownsRow.lt HOW.out r hr).1)).below (Nat.le_refl _) (fun _ hk => hk.elim)
  clear o1 o2 o3 o4 HON HOW HT HE
  go_wp2_with fail
  exact ⟨⟨j + 1, by go_num, by omega, HF.out, B2⟩, by simp [intOf]; omega⟩
end Go.Proofs.Ytoocafcagelbgaa
