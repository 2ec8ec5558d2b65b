/- moved, Move. -/
import Derived.Test.YthmpnhjlblcgdaaNRows
import Derived.OwnWalk
namespace Go.Proofs.Ythmpnhjlblcgdaa
open Go.RowKit

def moveH (h : Hd) (by_ : Int) : Hd := { h with frm := wrap64 (h.frm + by_), to := wrap64 (h.to + by_) }
mutual
def moveN : Nd → Int → Nd
  | .mk h l, d => .mk (moveH h d) (moveL l d)
def moveL : List Nd → Int → List Nd
  | [], _ => []
  | t :: l, d => moveN t d :: moveL l d
 end
theorem moveL_map (l : List Nd) (d : Int) : moveL l d = l.map (moveN · d) := by
  induction l with
  | nil => rfl
  | cons t l ih => simp [moveL, ih]
theorem moveN_mk (t : Nd) (d : Int) : moveN t d = .mk (moveH t.h d) (t.kids.map (moveN · d)) := by
  cases t
  simp [moveN, moveL_map, Nd.h, Nd.kids]
theorem cells_new (l : List Value) (W : World) (ty : TypeId) : ∀ (q : Nat) (u : Value), l[q]? = some u → (W.alloc (.cells l.toArray ty)).cell? ((⟨W.heap.size, 0, none⟩ : Addr).add q) = some u := fun q u hq => by
  rw [add_plain, Nat.zero_add]
  have h := World.alloc_heap_new W (.cells l.toArray ty)
  unfold World.cell?
  simp only [h]
  simpa using hq
theorem heap_set {W : World} {g o : Nat} {cs : Array Value} {T : TypeId} {z : Nat × Nat} (v : Value) (h : W.heap[g]? = some (.cells cs T z)) : (W.setCell ⟨g, o, none⟩ v).heap[g]? = some (.cells (cs.setIfInBounds o v) T z) := by
  simp [World.setCell, Array.getElem?_modify, h]
theorem heap_set_other {W : World} {g k o : Nat} {ob : Obj} (v : Value) (h : W.heap[k]? = some ob) (hk : g ≠ k) : (W.setCell ⟨g, o, none⟩ v).heap[k]? = some ob := by
  simp [World.setCell, Array.getElem?_modify, h, hk]
theorem wrapB (x : Int) : i64B (wrap64 x) := by
  unfold i64B wrap64
  omega

set_option maxRecDepth 100000 in
set_option maxHeartbeats 4000000 in
theorem moved_any {A : Nat → Prop} : ∀ (n : Nat) (t : Nd) (v : Value) (d : Int) (w : World), TAt A n t v w → cntN t ≤ 100000 →
    Calls Try.prog 40 #[v, .int .i64 d] w fun e w' => ∃ m v', e = .returned v' ∧ TAt (fun k => w.heap.size ≤ k) m (moveN t d) v' w' ∧ Below w.heap.size w w'
  | 0, _, _, _, _, h, _ => h.elim
  | n + 1, t, v, d, w, h, hc => by
    obtain ⟨ba, bc, rfl, hok, _, _, hlb, hsubs0⟩ := h
    have hsubs : KidsAt A n t.kids ba w := hsubs0
    clear hsubs0
    have ih := moved_any (A := A) n
    rw [moveN_mk]
    rw [cntN_mk] at hc
    have hln := cntL_len t.kids
    generalize t.kids = subs at *
    generalize t.h = hd at *
    obtain ⟨zk, zn, zf, zr, zt, zb⟩ := hd
    unfold ndV moveH
    simp only
    have W0e : ∃ W0, W0 = (w.alloc (Obj.cells #[Value.string zk, Value.bool zn, Value.string zf, Value.int IntKind.i64 zr, Value.int IntKind.i64 zt, Value.int IntKind.i64 zb, Value.slice ba subs.length bc] 24)).alloc (Obj.cells #[.string ⟨#[]⟩, .bool false, .string ⟨#[]⟩, .int .i64 0, .int .i64 0, .int .i64 0, .slice none 0 0] 24) := ⟨_, rfl⟩
    obtain ⟨W0, hW0⟩ := W0e
    have hB0 : Below w.heap.size w W0 := by rw [hW0]; exact ((Below.refl _ _).alloc (Nat.le_refl _) _).alloc (by simp) _
    have hz : W0.heap.size = w.heap.size + 1 + 1 := by rw [hW0]; simp
    have b0 : W0.heap[w.heap.size]? = some (.cells #[Value.string zk, Value.bool zn, Value.string zf, Value.int IntKind.i64 zr, Value.int IntKind.i64 zt, Value.int IntKind.i64 zb, Value.slice ba subs.length bc] 24 (0, 0)) := by rw [hW0]; exact (Below.heap_alloc _ _ _ (by simp)).trans (World.alloc_heap_new w _)
    have b1 : W0.heap[w.heap.size + 1]? = some (.cells #[.string ⟨#[]⟩, .bool false, .string ⟨#[]⟩, .int .i64 0, .int .i64 0, .int .i64 0, .slice none 0 0] 24 (0, 0)) := by
      have := World.alloc_heap_new (w.alloc (Obj.cells #[Value.string zk, Value.bool zn, Value.string zf, Value.int IntKind.i64 zr, Value.int IntKind.i64 zt, Value.int IntKind.i64 zb, Value.slice ba subs.length bc] 24)) (Obj.cells #[.string ⟨#[]⟩, .bool false, .string ⟨#[]⟩, .int .i64 0, .int .i64 0, .int .i64 0, .slice none 0 0] 24)
      rw [World.size_alloc] at this
      rw [hW0]; exact this
    go_enter Try.func40, Try.ntmps40
    go_wp2
    rw [← hW0]
    have hs0 : KidsAt A n subs ba W0 := hsubs.next hB0
    clear hsubs hW0
    obtain ⟨P, HP⟩ : ∃ P, Hid (P = w.heap.size) := ⟨_, rfl⟩
    rw [← HP.out] at b0 b1 hz ⊢
    have HB : Hid (W0.heap[P]? = some (.cells #[Value.string zk, Value.bool zn, Value.string zf, Value.int IntKind.i64 zr, Value.int IntKind.i64 zt, Value.int IntKind.i64 zb, Value.slice ba subs.length bc] 24 (0, 0)) ∧ W0.heap[P + 1]? = some (.cells #[.string ⟨#[]⟩, .bool false, .string ⟨#[]⟩, .int .i64 0, .int .i64 0, .int .i64 0, .slice none 0 0] 24 (0, 0))) := ⟨b0, b1⟩
    clear b0 b1
    have HZ : Hid (W0.heap.size = P + 1 + 1) := hz
    clear hz
    obtain ⟨i0, hi, hz0, hz1, hz2⟩ := info_parts infoNd
    go_loopw [5, 11] (fun r c wr => ∃ (j : Nat) (l : List (Nd × Value)), c = .int .i64 j ∧ j ≤ subs.length ∧ Below W0.heap.size W0 wr ∧ Hid (l.map (·.1) = (subs.take j).map (moveN · d)) ∧ OwnN W0.heap.size l r wr) (fun _ c _ => subs.length - (intOf c).toNat)
    case atStart => exact ⟨0, [], rfl, Nat.zero_le _, Below.refl _ _, by show _ = _; simp, OwnN.nil _ _⟩
    case round =>
      obtain ⟨j, l, rfl, hj, hB, HF, hO⟩ := hrel
      have HLL : Hid (l.length = j) := by
        show _ = _
        have := congrArg List.length HF.out
        simp at this
        omega
      have hl5 : l.length ≤ 100000 := by have := HLL.out; omega
      by_cases hlt : j < subs.length
      · have k1 : (j : Int) < subs.length := by omega
        obtain ⟨b, off, ka, kc, rfl, _, hb, ⟨e0, e1, e2, e3, e4, e5, e6⟩, hT⟩ := hs0.at hB hlt
        have hcj := cntL_at hlt
        have hrec := fun W (hb' : Below wr.heap.size wr W) => ih _ _ d W (hT.next hb') (by omega)
        have HMV : Hid ((subs.take (j + 1)).map (moveN · d) = (subs.take j).map (moveN · d) ++ [moveN subs[j] d]) := by show _ = _; rw [List.take_succ_eq_append_getElem hlt, List.map_append]; rfl
        obtain ⟨ao, cap, hsh, _, hcap⟩ := hO.shape
        generalize moveN subs[j] d = mt at *
        generalize subs[j].h = sh at *
        generalize subs[j].kids.length = sk at *
        obtain ⟨xk, xn, xf, xr, xt, xb⟩ := sh
        unfold ndV at hrec
        simp only at *
        have hBk : Below wr.heap.size wr (wr.alloc (Obj.cells #[Value.string xk, Value.bool xn, Value.string xf, Value.int IntKind.i64 xr, Value.int IntKind.i64 xt, Value.int IntKind.i64 xb, Value.slice ka sk kc] 24)) := (Below.refl _ _).alloc (Nat.le_refl _) _
        have hzk : (wr.alloc (Obj.cells #[Value.string xk, Value.bool xn, Value.string xf, Value.int IntKind.i64 xr, Value.int IntKind.i64 xt, Value.int IntKind.i64 xb, Value.slice ka sk kc] 24)).heap.size = wr.heap.size + 1 := by simp
        have hrec1 := hrec _ hBk
        have HO : Hid (OwnN W0.heap.size l u5 wr) := hO
        clear hrec hT ih hs0 hO hcj hc
        go_wp2_with fail
        refine hrec1.mono ?_
        rintro e w2 ⟨m, v2, rfl, hT2, hb2⟩
        obtain ⟨xa, xc, rfl, _⟩ := hT2.val
        have hO2 := HO.out.next (hBk.trans (hb2.mono hBk.size))
        have hown := hO2.own
        have hlz := fun k (hk : u5.ownBlock = some k) => (World.ownsRow.lt HO.out.own k hk).2
        generalize hmh : mt.h = mh at *
        obtain ⟨yk, yn, yf, yr, yt, yb⟩ := mh
        unfold ndV at *
        simp only at *
        have hzA := hb2.size
        rw [hzk] at hzA
        have hTE : TAt (fun k => wr.heap.size + 1 ≤ k) m mt (ndV mt.h (.slice xa mt.kids.length xc)) w2 := by
          rw [hmh]; unfold ndV; rw [← hzk]; exact hT2
        have hB2 : Below W0.heap.size W0 w2 := below_next hB (hBk.trans (hb2.mono hBk.size))
        have HTE : Hid (TAt (fun k => wr.heap.size + 1 ≤ k) m mt (ndV mt.h (.slice xa mt.kids.length xc)) w2) := hTE
        have HO2 : Hid (OwnN W0.heap.size l u5 w2) := hO2
        have HLZ : Hid (∀ k, u5.ownBlock = some k → k < wr.heap.size) := hlz
        have HMH : Hid (mt.h = ⟨yk, yn, yf, yr, yt, yb⟩) := hmh
        have hB2s := hB2.size
        clear hT2 hTE hO2 hlz hmh HO hrec1 hb2 e0 e1 e2 e3 e4 e5 e6 hln
        generalize mt.kids.length = mk at *
        subst hsh
        go_wp2_with (at_builtin; refine wpList_append_ownq rfl _ _ 22 rfl W0.heap.size 24 i0 _ 7 88 Try.underlying22 hi hz0 hz1 hz2 rfl (by decide) _ _ _ rfl (ownsRow_next hown ((Below.refl _ _).alloc (Nat.le_refl _) _)) ⟨w2.heap.size, 0, none⟩ 1 (cells7 ⟨yk, yn, yf, yr, yt, yb⟩ (.slice xa mk xc)) rfl rfl (fun q u hq => ?_) (fun u hu => ?_) (by unfold maxLen; omega) (by omega) (by simp; omega) ?_)
        · exact cells_new (cells7 ⟨yk, yn, yf, yr, yt, yb⟩ (.slice xa mk xc)) w2 24 q u hq
        · simp only [cells7, List.mem_cons, List.not_mem_nil, or_false] at hu
          rcases hu with rfl | rfl | rfl | rfl | rfl | rfl | rfl <;> rfl
        · intro v' w4 ho hg hk
          have hBz : Below w2.heap.size w2 (w2.alloc (Obj.cells #[Value.string yk, Value.bool yn, Value.string yf, Value.int IntKind.i64 yr, Value.int IntKind.i64 yt, Value.int IntKind.i64 yb, Value.slice xa mk xc] 24)) := (Below.refl _ _).alloc (Nat.le_refl _) _
          have hws := hB.size
          have hN := OwnN.snoc (HO2.out.next hBz) (v' := v') (w' := w4) (t := mt) (kv := .slice xa mk xc) (n := m) (E := wr.heap.size + 1) (by rw [HMH.out]; exact ho) hg (fun k h' => by simpa using hk k h') (by have := HTE.out.next hBz; exact this) (by omega) (fun k h' => by have := HLZ.out k h'; omega)
          have hB4 : Below W0.heap.size W0 w4 := (hB2.trans (hBz.mono hB2.size)).trans ((but_grown hg).below (by simp; omega) (fun k _ h' => (World.ownsRow.lt HO2.out.own k h').1))
          have HEND : Hid ((l ++ [(mt, Value.slice xa mk xc)]).map (·.1) = (subs.take (j + 1)).map (moveN · d)) := by show _ = _; rw [HMV.out, List.map_append, HF.out]; rfl
          have HN : Hid (OwnN W0.heap.size (l ++ [(mt, Value.slice xa mk xc)]) v' w4) := hN
          clear ho hg hk hN hown HO2 HTE
          go_wp2
          exact ⟨⟨j + 1, _, by go_num, by omega, hB4, HEND, HN.out⟩, by simp [intOf]; omega⟩
      · have k1 : ¬ (j : Int) < subs.length := by omega
        obtain ⟨ba', cap', N, hsh, hnil, hcap, hK⟩ := hO.kids
        obtain ⟨b0, b1⟩ := HB.out
        have hPz := HZ.out
        have b0r := (hB.block P (by omega)).trans b0
        have b1r := (hB.block (P + 1) (by omega)).trans b1
        have HL2 : Hid (l.map (·.1) = subs.map (moveN · d)) := by
          show _ = _
          rw [HF.out, List.take_of_length_le (by omega)]
        have c : ∀ o, wr.cell? ⟨P, o, none⟩ = #[Value.string zk, Value.bool zn, Value.string zf, Value.int IntKind.i64 zr, Value.int IntKind.i64 zt, Value.int IntKind.i64 zb, Value.slice ba subs.length bc][o]? := fun o => by simp [World.cell?, b0r]
        have c0 : wr.cell? ⟨P, 0, none⟩ = some (.string zk) := c 0
        have c1 : wr.cell? ⟨P, 1, none⟩ = some (.bool zn) := c 1
        have c2 : wr.cell? ⟨P, 2, none⟩ = some (.string zf) := c 2
        have c3 : wr.cell? ⟨P, 3, none⟩ = some (.int .i64 zr) := c 3
        have c4 : wr.cell? ⟨P, 4, none⟩ = some (.int .i64 zt) := c 4
        have c5 : wr.cell? ⟨P, 5, none⟩ = some (.int .i64 zb) := c 5
        have c6 : wr.cell? ⟨P, 6, none⟩ = some (.slice ba subs.length bc) := c 6
        have f0 : ∀ o, wr.frozen? ⟨P, o, none⟩ = false := fun o => by simp [World.frozen?, b0r]
        have f1 : ∀ o, wr.frozen? ⟨P + 1, o, none⟩ = false := fun o => by simp [World.frozen?, b1r]
        have q0 : wr.cell? ⟨P + 1, 0, none⟩ = some (.string ⟨#[]⟩) := by simp [World.cell?, b1r]
        have q1 : wr.cell? ⟨P + 1, 1, none⟩ = some (.bool false) := by simp [World.cell?, b1r]
        have q2 : wr.cell? ⟨P + 1, 2, none⟩ = some (.string ⟨#[]⟩) := by simp [World.cell?, b1r]
        have q3 : wr.cell? ⟨P + 1, 3, none⟩ = some (.int .i64 0) := by simp [World.cell?, b1r]
        have q4 : wr.cell? ⟨P + 1, 4, none⟩ = some (.int .i64 0) := by simp [World.cell?, b1r]
        have q5 : wr.cell? ⟨P + 1, 5, none⟩ = some (.int .i64 0) := by simp [World.cell?, b1r]
        have q6 : wr.cell? ⟨P + 1, 6, none⟩ = some (.slice none 0 0) := by simp [World.cell?, b1r]
        have HB0 : Hid (wr.heap[P + 1]? = some (.cells #[.string ⟨#[]⟩, .bool false, .string ⟨#[]⟩, .int .i64 0, .int .i64 0, .int .i64 0, .slice none 0 0] 24 (0, 0))) := b1r
        have HOK : Hid (OwnN W0.heap.size l u5 wr) := hO
        clear ih hs0 hO hK b0 b1 b0r b1r c hPz HB HF
        subst hsh
        go_wp2
        obtain ⟨a1, ha1⟩ : ∃ a1, wrap64 (zr + d) = a1 := ⟨_, rfl⟩
        obtain ⟨a2, ha2⟩ : ∃ a2, wrap64 (zt + d) = a2 := ⟨_, rfl⟩
        have hw1 := wrapB (zr + d)
        have hw2 := wrapB (zt + d)
        rw [ha1] at hw1 ⊢
        rw [ha2] at hw2 ⊢
        have hn : P ≠ P + 1 := by omega
        have hh : ((((((((((wr.setCell ⟨P, 3, none⟩ (.int .i64 a1)).setCell ⟨P, 4, none⟩ (.int .i64 a2)).setCell ⟨P, 6, none⟩ (.slice ba' l.length cap')).setCell ⟨P + 1, 0, none⟩ (.string zk)).setCell ⟨P + 1, 1, none⟩ (.bool zn)).setCell ⟨P + 1, 2, none⟩ (.string zf)).setCell ⟨P + 1, 3, none⟩ (.int .i64 a1)).setCell ⟨P + 1, 4, none⟩ (.int .i64 a2)).setCell ⟨P + 1, 5, none⟩ (.int .i64 zb)).setCell ⟨P + 1, 6, none⟩ (.slice ba' l.length cap')).heap[P + 1]? = some (.cells #[.string zk, .bool zn, .string zf, .int .i64 a1, .int .i64 a2, .int .i64 zb, .slice ba' l.length cap'] 24 (0, 0)) :=
          heap_set _ (heap_set _ (heap_set _ (heap_set _ (heap_set _ (heap_set _ (heap_set _ (heap_set_other _ (heap_set_other _ (heap_set_other _ HB0.out hn) hn) hn)))))))
        have hBt : But (fun k => k = P ∨ k = P + 1) wr ((((((((((wr.setCell ⟨P, 3, none⟩ (.int .i64 a1)).setCell ⟨P, 4, none⟩ (.int .i64 a2)).setCell ⟨P, 6, none⟩ (.slice ba' l.length cap')).setCell ⟨P + 1, 0, none⟩ (.string zk)).setCell ⟨P + 1, 1, none⟩ (.bool zn)).setCell ⟨P + 1, 2, none⟩ (.string zf)).setCell ⟨P + 1, 3, none⟩ (.int .i64 a1)).setCell ⟨P + 1, 4, none⟩ (.int .i64 a2)).setCell ⟨P + 1, 5, none⟩ (.int .i64 zb)).setCell ⟨P + 1, 6, none⟩ (.slice ba' l.length cap')) :=
          ((((((((((But.refl _ _).setCell P 3 _ (.inl rfl)).setCell P 4 _ (.inl rfl)).setCell P 6 _ (.inl rfl)).setCell (P + 1) 0 _ (.inr rfl)).setCell (P + 1) 1 _ (.inr rfl)).setCell (P + 1) 2 _ (.inr rfl)).setCell (P + 1) 3 _ (.inr rfl)).setCell (P + 1) 4 _ (.inr rfl)).setCell (P + 1) 5 _ (.inr rfl)).setCell (P + 1) 6 _ (.inr rfl)
        clear c0 c1 c2 c3 c4 c5 c6 f0 f1 q0 q1 q2 q3 q4 q5 q6
        generalize (((((((((wr.setCell ⟨P, 3, none⟩ (.int .i64 a1)).setCell ⟨P, 4, none⟩ (.int .i64 a2)).setCell ⟨P, 6, none⟩ (.slice ba' l.length cap')).setCell ⟨P + 1, 0, none⟩ (.string zk)).setCell ⟨P + 1, 1, none⟩ (.bool zn)).setCell ⟨P + 1, 2, none⟩ (.string zf)).setCell ⟨P + 1, 3, none⟩ (.int .i64 a1)).setCell ⟨P + 1, 4, none⟩ (.int .i64 a2)).setCell ⟨P + 1, 5, none⟩ (.int .i64 zb)).setCell ⟨P + 1, 6, none⟩ (.slice ba' l.length cap') = wf at *
        refine bodyPost_ret (results_cell_row rfl _ _ (P + 1) 24 #[.string zk, .bool zn, .string zf, .int .i64 a1, .int .i64 a2, .int .i64 zb, .slice ba' l.length cap'] (0, 0) _ rfl hh Try.underlying24 rfl (by kernel_rfl)) rfl ?_
        have hZ := HZ.out
        have hOf := HOK.out.but hBt (fun k hk => by omega)
        obtain ⟨ba2, cap2, N2, e2, hnil2, hcap2, hK2⟩ := hOf.kids
        cases e2
        have hsz := hB.size
        have hll2 : l.length = (subs.map (moveN · d)).length := by rw [← HL2.out]; simp
        refine ⟨N2 + 1, _, rfl, ⟨ba', cap', by simp only [ndV, Nd.h, Nd.kids, hll2], ⟨by simpa only [Nd.h, ha1] using hw1, by simpa only [Nd.h, ha2] using hw2, hok.bad, hok.kind, hok.field⟩, hnil2, by simp only [Nd.kids]; omega, by simp only [Nd.kids]; omega, ?_⟩, ?_⟩
        · simp only [Nd.kids]
          rw [← HL2.out]
          exact fun i t' ht => by
            obtain ⟨b, off, ka, kc, e0, e1, e2', e3, e4⟩ := hK2 i t' ht
            exact ⟨b, off, ka, kc, e0, by rw [← HP.out]; omega, e2', e3, e4.imp (fun k _ hk => by rw [← HP.out]; omega)⟩
        · have : Below P w wf := (by rw [HP.out]; exact below_next hB0 hB : Below P w wr).trans (hBt.below (by omega) (fun k _ hk => by omega))
          rw [← HP.out]; exact this
end Go.Proofs.Ythmpnhjlblcgdaa
