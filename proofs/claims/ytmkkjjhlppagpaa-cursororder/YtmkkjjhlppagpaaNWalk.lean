/- The nodes of a tree, each ahead of its kids, as the iterator hands them out. -/
import Derived.Test.YtmkkjjhlppagpaaRSmall
import Derived.Test.YtmkkjjhlppagpaaRangeW
namespace Go.Proofs.Ytmkkjjhlppagpaa
open Go.RowKit Go.Shelf
attribute [local go_sem] Oper.semAt_some

mutual
def preN : Nd → Int → List (Nd × Int)
  | .mk h l, d => (.mk h l, d) :: preL l (d + 1)
def preL : List Nd → Int → List (Nd × Int)
  | [], _ => []
  | t :: l, d => preN t d ++ preL l d
 end
theorem preN_mk (t : Nd) (d : Int) : preN t d = (t, d) :: preL t.kids (d + 1) := by cases t; simp [preN, Nd.kids]
theorem preL_app (a b : List Nd) (d : Int) : preL (a ++ b) d = preL a d ++ preL b d := by
  induction a with
  | nil => simp [preL]
  | cons t l ih => simp only [List.cons_append, preL, ih, List.append_assoc]
theorem preL_take {l : List Nd} {j : Nat} (h : j < l.length) (d : Int) : preL (l.take (j + 1)) d = preL (l.take j) d ++ preN l[j] d := by
  rw [List.take_succ_eq_append_getElem h, preL_app]; simp [preL]
theorem preL_len_of (l : List Nd) (d : Int) (h : ∀ k ∈ l, (preN k d).length = cntN k) : (preL l d).length = cntL l := by
  induction l with
  | nil => simp [preL, cntL]
  | cons t l ih => simp only [preL, cntL, List.length_append]; rw [h t (by simp), ih (fun k hk => h k (by simp [hk]))]
theorem preN_len (t : Nd) : ∀ d, (preN t d).length = cntN t := by
  induction t using nd_ind with
  | h t ih => intro d; rw [preN_mk, cntN_mk, List.length_cons, preL_len_of _ _ (fun k hk => ih k hk _)]
/-- What the iterator hands out: a node, as it lies, and how deep it is. -/
abbrev Al := Nd × Value × Int
def stripA (x : Al) : Nd × Int := (x.1, x.2.2)
def encA (x : Al) : Array Value := #[x.2.1, .int .i64 x.2.2]
def OkA (N : Nat) (L : List (Nd × Int)) (A : Nat → Prop) (pre : List Al) (x : Al) (W : World) : Prop := (∃ n, TAt A n x.1 x.2.1 W) ∧ pre.length < N ∧ 1 ≤ x.2.2 ∧ x.2.2 ≤ N ∧ (pre.map stripA ++ [stripA x]) <+: L
theorem preL_pre (l : List Nd) (j : Nat) (d : Int) : preL (l.take j) d <+: preL l d := by
  conv => rhs; rw [← List.take_append_drop j l, preL_app]
  exact List.prefix_append _ _
theorem yield_any {m m' : Nat} {P : Program} {l : Nat} {args : Array Value} {W : World} {R : Ending → World → Prop} (h : YieldAt Fence.wide m P l args W R) : YieldAt Fence.wide m' P l args W R := by
  obtain ⟨fn, tmps, assign, body, hy, hfn, h2⟩ := h
  exact ⟨fn, tmps, assign, body, hy, hfn, fun c cs _ => h2 c cs (fun d hd => by cases hd)⟩

set_option maxRecDepth 100000 in
set_option maxHeartbeats 4000000 in
theorem walk_in (m l N : Nat) (L : List (Nd × Int)) (hN : N ≤ 100000) (Fx : World → Prop) (J : (Nat → Prop) → List Al → World → Prop) (St : World → Prop) (hF : FeedsW m Try.prog l encA (OkA N L) Fx J St) :
    ∀ (n : Nat) (t : Nd) (v : Value) (A : Nat → Prop) (pre : List Al) (deep : Int) (W : World) (yb wb q : Nat), J A pre W → TAt A n t v W →
      W.cell? ⟨yb, 0, none⟩ = some (.func (.yield l) #[] #[]) → A yb → W.cell? ⟨wb, 0, none⟩ = some (.func (.func 50) #[] #[.pointer (some ⟨yb, 0, none⟩), .pointer (some ⟨wb, 0, none⟩)]) → A wb →
      pre.length + cntN t ≤ N → 1 ≤ deep → deep + cntN t ≤ N + 1 → (pre.map stripA ++ preN t deep) <+: L →
      CallsIn Fence.wide q Try.prog 50 #[v, .int .i64 deep, .pointer (some ⟨yb, 0, none⟩), .pointer (some ⟨wb, 0, none⟩)] W fun e W' =>
        (e = .returned (.bool true) ∧ (∃ xs : List Al, xs.map stripA = preN t deep ∧ J A (pre ++ xs) W') ∧ But (fun k => ¬ A k) W W') ∨ (e = .returned (.bool false) ∧ St W')
  | 0, _, _, _, _, _, _, _, _, _, _, h, _, _, _, _, _, _, _, _ => h.elim
  | n + 1, t, v, A, pre, deep, W, yb, wb, q, hJ, hT, hy, hAy, hw, hAw, hlen, hd1, hd2, hL => by
    have ih := walk_in m l N L hN Fx J St hF n
    have hT0 := hT
    obtain ⟨ba, bc, rfl, hok, _, _, hlb, hsubs0⟩ := hT
    have hsubs : KidsAt A n t.kids ba W := hsubs0
    clear hsubs0
    have hyb := World.block_lt_of_cell? _ _ hy
    have hwb := World.block_lt_of_cell? _ _ hw
    simp only at hyb hwb
    have HPM : Hid (preN t deep = (t, deep) :: preL t.kids (deep + 1)) := preN_mk t deep
    have HLP : Hid ((pre.map stripA ++ (t, deep) :: preL t.kids (deep + 1)) <+: L) := by rw [preN_mk] at hL; exact hL
    clear hL
    have hcm := cntN_mk t
    have HTX : Hid (∀ W', But (fun k => ¬ A k) W W' → TAt A (n + 1) t (ndV t.h (.slice ba t.kids.length bc)) W') := fun W' hb => hT0.but (fun k hk h => h hk) hb
    clear hT0
    obtain ⟨x, hx⟩ : ∃ x : Al, x = (t, ndV t.h (.slice ba t.kids.length bc), deep) := ⟨_, rfl⟩
    have HXS : Hid (stripA x = (t, deep)) := by subst hx; rfl
    have HXO : Hid (∀ W' A', But (fun k => ¬ A k) W W' → (∀ k, A k → A' k) → OkA N L A' pre x W') := fun W' A' hb hi => by
      subst hx
      exact ⟨⟨_, (HTX.out W' hb).imp (fun k _ h => hi k h)⟩, by omega, hd1, by simp only; omega, List.IsPrefix.trans ⟨preL t.kids (deep + 1), by simp [stripA]⟩ HLP.out⟩
    have hxe : encA x = #[ndV t.h (.slice ba t.kids.length bc), .int .i64 deep] := by subst hx; rfl
    clear hx HTX
    generalize preN t deep = PT at *
    generalize cntN t = ct at *
    generalize hsk : t.kids = subs at *
    generalize t.h = hd at *
    obtain ⟨zk, zn, zf, zr, zt, zb⟩ := hd
    unfold ndV at *
    simp only at *
    have hB0 : Below W.heap.size W (W.alloc (Obj.cells #[Value.string zk, Value.bool zn, Value.string zf, Value.int IntKind.i64 zr, Value.int IntKind.i64 zt, Value.int IntKind.i64 zb, Value.slice ba subs.length bc] 24)) := (Below.refl _ _).alloc (Nat.le_refl _) _
    have r7 : Row7 W.heap.size 0 ⟨zk, zn, zf, zr, zt, zb⟩ (.slice ba subs.length bc) (W.alloc (Obj.cells #[Value.string zk, Value.bool zn, Value.string zf, Value.int IntKind.i64 zr, Value.int IntKind.i64 zt, Value.int IntKind.i64 zb, Value.slice ba subs.length bc] 24)) := by refine ⟨?_, ?_, ?_, ?_, ?_, ?_, ?_⟩ <;> simp
    have hz : (W.alloc (Obj.cells #[Value.string zk, Value.bool zn, Value.string zf, Value.int IntKind.i64 zr, Value.int IntKind.i64 zt, Value.int IntKind.i64 zb, Value.slice ba subs.length bc] 24)).heap.size = W.heap.size + 1 := by simp
    refine callsIn_of_wp Try.func50 rfl trivial ?_ rfl
    simp only [Try.ntmps50, List.size_toArray, List.length_cons, List.length_nil, Nat.reduceAdd, Nat.reduceSub, Array.replicate_succ, Array.replicate_zero, List.push_toArray, List.append_toArray, List.nil_append, List.cons_append]
    have y1 := (hB0.cell (p := ⟨yb, 0, none⟩) hyb).trans hy
    have w1 := (hB0.cell (p := ⟨wb, 0, none⟩) hwb).trans hw
    have HJ1 := hF.new _ _ _ _ hJ hB0
    obtain ⟨A1, hA1⟩ : ∃ A1 : Nat → Prop, A1 = (fun k => A k ∨ (W.heap.size ≤ k ∧ k < (W.alloc (Obj.cells #[Value.string zk, Value.bool zn, Value.string zf, Value.int IntKind.i64 zr, Value.int IntKind.i64 zt, Value.int IntKind.i64 zb, Value.slice ba subs.length bc] 24)).heap.size)) := ⟨_, rfl⟩
    rw [← hA1] at HJ1
    have hA1P : A1 W.heap.size := by rw [hA1]; exact .inr ⟨Nat.le_refl _, by rw [hz]; omega⟩
    have hA1i : ∀ k, A k → A1 k := fun k hk => by rw [hA1]; exact .inl hk
    have HBW : Hid (∀ W', But (fun k => ¬ A1 k) (W.alloc (Obj.cells #[Value.string zk, Value.bool zn, Value.string zf, Value.int IntKind.i64 zr, Value.int IntKind.i64 zt, Value.int IntKind.i64 zb, Value.slice ba subs.length bc] 24)) W' → But (fun k => ¬ A k) W W') := fun W' hb => (But.of_next hB0).trans (hb.mono (fun k _ h1 h2 => h1 (hA1i k h2)))
    have HKA : Hid (∀ W', But (fun k => ¬ A1 k) (W.alloc (Obj.cells #[Value.string zk, Value.bool zn, Value.string zf, Value.int IntKind.i64 zr, Value.int IntKind.i64 zt, Value.int IntKind.i64 zb, Value.slice ba subs.length bc] 24)) W' → KidsAt A1 n subs ba W') := fun W' hb => fun i t' ht => by
      have hk := hsubs.but (D := fun k => ¬ A k) (fun k hk h => h hk) (HBW.out W' hb)
      obtain ⟨b, off, ka, kc, e0, e1, e2, e3, e4⟩ := hk i t' ht
      exact ⟨b, off, ka, kc, e0, hA1i _ e1, e2, e3, e4.imp (fun k _ h => hA1i k h)⟩
    have hXO := HXO.out _ A1 (But.of_next hB0) hA1i
    obtain ⟨z0, z1, z2, z3, z4, z5, z6⟩ := r7
    simp only [Nat.zero_add] at z1 z2 z3 z4 z5 z6
    obtain ⟨fn, tmps, assign, body, hyl, hR⟩ := yield_any (m' := q - 1) (hF.yield A1 pre x _ HJ1 hXO)
    rw [hxe] at hyl
    have HAx : Hid (A1 yb ∧ A1 wb ∧ A1 W.heap.size) := ⟨hA1i _ hAy, hA1i _ hAw, hA1P⟩
    have HA1i : Hid (∀ k, A k → A1 k) := hA1i
    have HFF : Hid (FeedsW m Try.prog l encA (OkA N L) Fx J St) := hF
    have HIH : Hid _ := ih
    clear hA1i hF z0 z1 z2 z3 z4 z5 hJ HJ1 hsubs hXO hA1 hxe hsk ih
    gi_wp2
    refine ⟨fun h => (by cases h), hR.mono ?_⟩
    generalize W.alloc (Obj.cells #[Value.string zk, Value.bool zn, Value.string zf, Value.int IntKind.i64 zr, Value.int IntKind.i64 zt, Value.int IntKind.i64 zb, Value.slice ba subs.length bc] 24) = W0 at *
    have hyB : yb < W0.heap.size := by omega
    have hwB : wb < W0.heap.size := by omega
    have hPB : W.heap.size < W0.heap.size := by omega
    obtain ⟨P, HP⟩ : ∃ P, Hid (P = W.heap.size) := ⟨_, rfl⟩
    rw [← HP.out] at z6 hPB HAx ⊢
    rintro e W2 (⟨rfl, hJ2, hB2⟩ | ⟨rfl, hSt⟩)
    · have y2 := (hB2.cell (p := ⟨yb, 0, none⟩) hyB (fun h => h HAx.out.1)).trans y1
      have w2 := (hB2.cell (p := ⟨wb, 0, none⟩) hwB (fun h => h HAx.out.2.1)).trans w1
      have p2 := (hB2.cell (p := ⟨P, 6, none⟩) hPB (fun h => h HAx.out.2.2)).trans z6
      have HJ2 : Hid (J A1 (pre ++ [x]) W2) := hJ2
      have HCM : Hid (ct = cntL subs + 1) := hcm
      have HHL : Hid (pre.length + ct ≤ N ∧ 1 ≤ deep ∧ deep + ct ≤ N + 1) := ⟨hlen, hd1, hd2⟩
      clear hR hyl z6 hJ2 hcm hlen
      gi_wp2
      gi_loopw [17] (fun c wr => ∃ (j : Nat), c = .int .i64 j ∧ j ≤ subs.length ∧ But (fun k => ¬ A1 k) W0 wr ∧ Hid (∃ xs : List Al, xs.map stripA = (t, deep) :: preL (subs.take j) (deep + 1) ∧ J A1 (pre ++ xs) wr)) (fun c _ => subs.length - (intOf c).toNat)
      case atStart => exact ⟨0, rfl, Nat.zero_le _, hB2, ⟨[x], by simp [preL, HXS.out], HJ2.out⟩⟩
      case round =>
        obtain ⟨j, rfl, hj, hB, HF⟩ := hrel
        by_cases hlt : j < subs.length
        · have k1 : (j : Int) < subs.length := by omega
          have y3 := (hB.cell (p := ⟨yb, 0, none⟩) hyB (fun h => h HAx.out.1)).trans y1
          have w3 := (hB.cell (p := ⟨wb, 0, none⟩) hwB (fun h => h HAx.out.2.1)).trans w1
          obtain ⟨b, off, ka, kc, rfl, hAb, hb, ⟨e0, e1, e2, e3, e4, e5, e6⟩, hT⟩ := (HKA.out wr hB) j subs[j] (by simp [hlt])
          have hsum : IntKind.i64.wrap (deep + 1) = deep + 1 := IntWalk.i64_in _ (by omega)
          have hybr : yb < wr.heap.size := Nat.lt_of_lt_of_le hyB hB.size
          have hwbr : wb < wr.heap.size := Nat.lt_of_lt_of_le hwB hB.size
          obtain ⟨xs, hxs, hJx⟩ := HF.out
          have hxl : xs.length = cntL (subs.take j) + 1 := by
            have := congrArg List.length hxs
            rw [List.length_map, List.length_cons, preL_len_of _ _ (fun k _ => preN_len k _)] at this
            exact this
          have hct := cntL_take hlt
          have hcl := cntL_le subs (j + 1)
          obtain ⟨hl1, hl2, hl3⟩ := HHL.out
          have hcm := HCM.out
          have hrec := fun (V : World) (hV : Below wr.heap.size wr V) (q' : Nat) => HIH.out subs[j] _ A1 (pre ++ xs) (deep + 1) V yb wb q' (HFF.out.less _ _ _ _ (HFF.out.new _ _ _ _ hJx hV) (fun k h => .inl h)) (hT.next hV) ((hV.cell (p := ⟨yb, 0, none⟩) hybr).trans y3) HAx.out.1 ((hV.cell (p := ⟨wb, 0, none⟩) hwbr).trans w3) HAx.out.2.1 (by rw [List.length_append]; omega) (by omega) (by omega) (by
            rw [List.map_append, hxs, List.append_assoc, List.cons_append, ← preL_take hlt]
            exact List.IsPrefix.trans ((List.prefix_append_right_inj _).2 ((List.cons_prefix_cons).2 ⟨rfl, preL_pre subs (j + 1) _⟩)) HLP.out)
          have HPT : Hid (preL (subs.take (j + 1)) (deep + 1) = preL (subs.take j) (deep + 1) ++ preN subs[j] (deep + 1)) := preL_take hlt _
          have HXS2 : Hid (xs.map stripA = (t, deep) :: preL (subs.take j) (deep + 1)) := hxs
          generalize preN subs[j] (deep + 1) = PJ at *
          generalize subs[j].h = sh at *
          generalize subs[j].kids.length = sk at *
          obtain ⟨xk, xn, xf, xr, xt, xb⟩ := sh
          unfold ndV at hrec
          simp only at *
          have hBk : Below wr.heap.size wr (wr.alloc (Obj.cells #[Value.string xk, Value.bool xn, Value.string xf, Value.int IntKind.i64 xr, Value.int IntKind.i64 xt, Value.int IntKind.i64 xb, Value.slice ka sk kc] 24)) := (Below.refl _ _).alloc (Nat.le_refl _) _
          have hrec1 := hrec _ hBk (q - 1)
          clear hrec hT hJx HF HIH hxl hct hcl hl1 hl2 hl3 hcm hxs HKA
          gi_wp2
          refine ⟨trivial, fun h => (by cases h), hrec1.mono ?_⟩
          rintro e W5 (⟨rfl, ⟨ys, hys, hJ5⟩, hB5⟩ | ⟨rfl, hSt⟩)
          · have HE : Hid (But (fun k => ¬ A1 k) W0 W5 ∧ ∃ xs : List Al, xs.map stripA = (t, deep) :: preL (subs.take (j + 1)) (deep + 1) ∧ J A1 (pre ++ xs) W5) := ⟨(hB.trans (But.of_next hBk)).trans hB5, xs ++ ys, by rw [List.map_append, HXS2.out, hys, HPT.out]; rfl, by rw [← List.append_assoc]; exact hJ5⟩
            clear hrec1 hJ5 hB5 hys e0 e1 e2 e3 e4 e5 e6
            gi_wp2
            go_roundw
            case rel => exact ⟨j + 1, by go_num, by omega, HE.out.1, HE.out.2⟩
            case measure => simp [intOf]; omega
          · clear hrec1
            gi_wp2
            go_ret
            exact .inr ⟨rfl, hSt⟩
        · have hnl : ¬ (j : Int) < subs.length := by omega
          have HE : Hid ((∃ xs : List Al, xs.map stripA = PT ∧ J A (pre ++ xs) wr) ∧ But (fun k => ¬ A k) W wr) := by
            obtain ⟨xs, hxs, hJx⟩ := HF.out
            refine ⟨⟨xs, ?_, HFF.out.less _ _ _ _ hJx HA1i.out⟩, HBW.out _ hB⟩
            rw [hxs, HPM.out, List.take_of_length_le (by omega)]
          clear HF
          gi_wp2
          go_ret
          exact .inl ⟨rfl, HE.out.1, HE.out.2⟩
    · clear hR hyl z6
      gi_wp2
      go_ret
      exact .inr ⟨rfl, hSt⟩
end Go.Proofs.Ytmkkjjhlppagpaa
