/- The document's Leaves. -/
import Derived.Test.YthmpnhjlblcgdaaRNodes
import Derived.Test.YthmpnhjlblcgdaaPLeaves
namespace Go.Proofs.Ythmpnhjlblcgdaa
open Go.RowKit

def LeafOk (x : Nd × Value) : Prop := x.1.kids = [] ∧ HdOk x.1.h ∧ ∃ ka kc, x.2 = .slice ka 0 kc ∧ (ka = none → kc = 0)
def AllLeaf (l : List (Nd × Value)) : Prop := ∀ x ∈ l, LeafOk x
theorem LeafOk.at {x : Nd × Value} (h : LeafOk x) (A : Nat → Prop) (W : World) : TAt A 1 x.1 (ndV x.1.h x.2) W := by
  obtain ⟨h1, h2, ka, kc, h3, h4⟩ := h
  refine ⟨ka, kc, by rw [h1, h3]; rfl, h2, h4, by rw [h1]; exact Nat.zero_le _, by rw [h1]; exact Nat.zero_le _, fun i t ht => ?_⟩
  rw [h1] at ht
  cases ht
theorem OwnN.of_leaves {B : Nat} {l : List (Nd × Value)} {v : Value} {W : World} (h : W.ownsRow B 24 7 v l.length (rowC l)) (hl : ∀ x ∈ l, LeafOk x) : OwnN B l v W :=
  ⟨h, fun x hx => ⟨1, (hl x hx).at _ W⟩⟩
theorem leaf_ok {t : Nd} (h : t.kids = []) (hk : HdOk t.h) : LeafOk (t, leafV) := ⟨h, hk, none, 0, rfl, fun _ => rfl⟩
theorem leaves_leaf {t x : Nd} (h : x ∈ leavesN t) : x.kids = [] := by
  have := (List.mem_filter.1 h).2
  unfold isLeaf at this
  simpa using this
theorem flat_len (l : List Nd) : (l.flatMap leavesN).length ≤ cntL l := by
  induction l with
  | nil => simp
  | cons t l ih => simp only [List.flatMap_cons, List.length_append, cntL]; have := leaves_len t; omega
theorem rowC_one' {l : List (Nd × Value)} {u : Value} (h : u ∈ rowC l) (hl : ∀ x ∈ l, LeafOk x) : u.oneCell' = true := by
  unfold rowC at h
  obtain ⟨x, hx, hu⟩ := List.mem_flatMap.1 h
  obtain ⟨_, _, ka, kc, h3, _⟩ := hl x hx
  unfold cells7 at hu
  rw [h3] at hu
  simp only [List.mem_cons, List.not_mem_nil, or_false] at hu
  rcases hu with rfl | rfl | rfl | rfl | rfl | rfl | rfl <;> rfl
/-- What stands in a row of one's own. -/
theorem own_cell {W : World} {B n : Nat} {ad : Addr} {c : Nat} {xs : List Value} (h : W.ownsRow B 24 7 (.slice (some ad) n c) n xs) {j : Nat} {u : Value} (hj : xs[j]? = some u) : W.cell? (ad.add j) = some u := by
  rcases h.2 with ⟨h1, _⟩ | ⟨g, cap, cur, h1, _, hg, _, _, hs, ht⟩
  · cases h1
  · cases h1
    rw [add_plain]
    simp only [World.cell?, Nat.zero_add, hg]
    rw [← ht] at hj
    have := List.getElem?_take .. ▸ hj
    split at this
    · simpa using this
    · cases this
theorem own_none {W : World} {B n c : Nat} {ao : Option Addr} {xs : List Value} (h : W.ownsRow B 24 7 (.slice ao n c) n xs) (ha : ao = none) : n = 0 ∧ c = 0 := by
  subst ha
  rcases h.2 with ⟨h1, h2⟩ | ⟨g, cap, cur, h1, _⟩
  · cases h1; exact ⟨rfl, rfl⟩
  · cases h1
theorem own_leaf {W : World} {b B : Nat} (h : Hd) (kv : Value) (hb : W.heap[b]? = some (.cells (cells7 h kv).toArray 24 (0, 0))) (hB : B ≤ b) : W.ownsRow B 24 7 (.slice (some ⟨b, 0, none⟩) 1 1) 1 (cells7 h kv) :=
  ⟨rfl, .inr ⟨b, 1, _, rfl, hB, hb, Nat.le_refl _, by unfold maxLen; decide, rfl, rfl⟩⟩
set_option maxRecDepth 100000 in
set_option maxHeartbeats 4000000 in
theorem rleaves_any {A : Nat → Prop} : ∀ (n : Nat) (t : Nd) (v : Value) (w : World), TAt A n t v w → cntN t ≤ 5000 →
    Calls Try.prog 21 #[v] w fun e w' => ∃ l u, e = .returned u ∧ w'.ownsRow w.heap.size 24 7 u l.length (rowC l) ∧ l.map (·.1) = leavesN t ∧ AllLeaf l ∧ Below w.heap.size w w'
  | 0, _, _, _, h, _ => h.elim
  | n + 1, t, v, w, h, hc => by
    obtain ⟨ba, bc, rfl, hok, hbn, _, hlb, hsubs0⟩ := h
    have hsubs : KidsAt A n t.kids ba w := hsubs0
    clear hsubs0
    have HIH : Hid _ := rleaves_any (A := A) n
    have hcn := cntN_mk t
    have HOK : Hid (HdOk t.h) := hok
    have HV : Hid (leavesN t = if isLeaf t then [t] else t.kids.flatMap leavesN) := leavesN_mk t
    have HL : Hid (isLeaf t = t.kids.isEmpty) := rfl
    have HKL : Hid (t.kids = [] → ∀ ka kc, (ka = none → kc = 0) → LeafOk (t, .slice ka 0 kc)) := fun h1 ka kc h2 => ⟨h1, HOK.out, ka, kc, rfl, h2⟩
    have HH : Hid (∀ kv, cells7 t.h kv = [.string t.h.kind, .bool t.h.named, .string t.h.field, .int .i64 t.h.frm, .int .i64 t.h.to, .int .i64 t.h.bad, kv]) := fun _ => rfl
    generalize leavesN t = LV at *
    generalize isLeaf t = IL at *
    generalize t.kids = subs at *
    have HHD : Hid (∃ hd, t.h = hd) := ⟨_, rfl⟩
    have hB0 : Below w.heap.size w (w.alloc (Obj.cells #[Value.string t.h.kind, Value.bool t.h.named, Value.string t.h.field, Value.int IntKind.i64 t.h.frm, Value.int IntKind.i64 t.h.to, Value.int IntKind.i64 t.h.bad, Value.slice ba subs.length bc] 24)) := (Below.refl _ _).alloc (Nat.le_refl _) _
    unfold ndV
    clear hok HHD
    go_enter Try.func21, Try.ntmps21
    by_cases hl0 : subs = []
    · subst hl0
      have HX : Hid (LV = [t]) := by show _ = _; rw [HV.out, HL.out]; rfl
      clear HIH hsubs HV HL
      simp only [List.length_nil] at *
      go_wp2
      go_ret
      refine ⟨[(t, .slice ba 0 bc)], _, rfl, own_leaf t.h (.slice ba 0 bc) ?_ ?_, by rw [HX.out]; rfl, fun x hx => ?_, ?_⟩
      · rw [HH.out, show w.heap.size + 1 = (w.alloc (Obj.cells #[Value.string t.h.kind, Value.bool t.h.named, Value.string t.h.field, Value.int IntKind.i64 t.h.frm, Value.int IntKind.i64 t.h.to, Value.int IntKind.i64 t.h.bad, Value.slice ba 0 bc] 24)).heap.size by simp]
        exact World.alloc_heap_new _ _
      · simp
      · simp only [List.mem_singleton] at hx
        subst hx
        exact HKL.out trivial ba bc hbn
      · exact hB0.trans ((Below.refl _ _).alloc (by simp) _)
    · have HX : Hid (LV = subs.flatMap leavesN) := by
        show _ = _
        rw [HV.out, HL.out]
        cases subs with
        | nil => exact absurd rfl hl0
        | cons a l => rfl
      have k0 : ¬ (subs.length : Int) = 0 := fun h => hl0 (List.eq_nil_of_length_eq_zero (by omega))
      have k0b : ((subs.length : Int) == 0) = false := by simpa using k0
      have hc6 : (w.alloc (Obj.cells #[Value.string t.h.kind, Value.bool t.h.named, Value.string t.h.field, Value.int IntKind.i64 t.h.frm, Value.int IntKind.i64 t.h.to, Value.int IntKind.i64 t.h.bad, Value.slice ba subs.length bc] 24)).cell? ⟨w.heap.size, 6, none⟩ = some (.slice ba subs.length bc) := by simp
      have HZ : Hid ((w.alloc (Obj.cells #[Value.string t.h.kind, Value.bool t.h.named, Value.string t.h.field, Value.int IntKind.i64 t.h.frm, Value.int IntKind.i64 t.h.to, Value.int IntKind.i64 t.h.bad, Value.slice ba subs.length bc] 24)).heap.size = w.heap.size + 1) := by show _ = _; simp
      have HS0 : Hid (KidsAt A n subs ba (w.alloc (Obj.cells #[Value.string t.h.kind, Value.bool t.h.named, Value.string t.h.field, Value.int IntKind.i64 t.h.frm, Value.int IntKind.i64 t.h.to, Value.int IntKind.i64 t.h.bad, Value.slice ba subs.length bc] 24))) := hsubs.next hB0
      have HCN : Hid (cntN t = cntL subs + 1) := hcn
      obtain ⟨i0, hi, hz0, hz1, hz2⟩ := info_parts infoNd
      clear HV HL HKL HH HOK hsubs hcn hl0
      go_wp2
      generalize w.alloc (Obj.cells #[Value.string t.h.kind, Value.bool t.h.named, Value.string t.h.field, Value.int IntKind.i64 t.h.frm, Value.int IntKind.i64 t.h.to, Value.int IntKind.i64 t.h.bad, Value.slice ba subs.length bc] 24) = W0 at *
      go_loopw [3, 4] (fun l c wr => ∃ (j : Nat) (ll : List (Nd × Value)), c = .int .i64 j ∧ j ≤ subs.length ∧ wr.ownsRow W0.heap.size 24 7 l ll.length (rowC ll) ∧ Hid (ll.map (·.1) = (subs.take j).flatMap leavesN) ∧ Hid (AllLeaf ll) ∧ Below W0.heap.size W0 wr) (fun _ c _ => subs.length - (intOf c).toNat)
      case atStart => exact ⟨0, [], rfl, Nat.zero_le _, World.ownsRow_nil _ _ _ _, rfl, (fun x hx => nomatch hx), Below.refl _ _⟩
      case round =>
        obtain ⟨j, ll, rfl, hj, hown, HM, HK, hB⟩ := hrel
        have d2 := (hB.cell (p := ⟨w.heap.size, 6, none⟩) (by rw [HZ.out]; exact Nat.lt_succ_self _)).trans hc6
        have hBw : Below w.heap.size w wr := hB0.trans (hB.mono (by rw [HZ.out]; exact Nat.le_succ _))
        have hll : ll.length ≤ 5000 := by
          have h1 := congrArg List.length HM.out
          rw [List.length_map] at h1
          have h2 := flat_len (subs.take j)
          have h3 := cntL_le subs j
          have h4 := HCN.out
          omega
        obtain ⟨la, lc, rfl, hlc, _⟩ := own_form hown
        by_cases hlt : j < subs.length
        · have k1 : (j : Int) < subs.length := by omega
          obtain ⟨b, off, ka, kc, rfl, _, hb, ⟨e0, e1, e2, e3, e4, e5, e6⟩, hT⟩ := HS0.out.at hB hlt
          have hcj : cntN subs[j] ≤ 5000 := by have := cntL_at hlt; have := HCN.out; omega
          have hrec := HIH.out _ _ wr hT hcj
          have HM2 : Hid (∀ l2 : List (Nd × Value), l2.map (·.1) = leavesN subs[j] → (ll ++ l2).map (·.1) = (subs.take (j + 1)).flatMap leavesN) := fun l2 h => by
            rw [List.take_succ_eq_append_getElem hlt, List.flatMap_append, List.map_append, HM.out, h]
            simp
          have HL2 : Hid (∀ l2 : List (Nd × Value), l2.map (·.1) = leavesN subs[j] → l2.length ≤ 5000) := fun l2 h => by
            have h1 := congrArg List.length h
            rw [List.length_map] at h1
            have := leaves_len subs[j]
            omega
          generalize leavesN subs[j] = lj at *
          generalize subs[j].h = sh at *
          generalize subs[j].kids.length = skl at *
          obtain ⟨gk, gn, gf, gfr, gto, gbd⟩ := sh
          unfold ndV at hrec
          simp only at *
          clear HM HS0 hT HIH hcj HX
          go_wp2_with fail
          refine hrec.mono ?_
          rintro e w2 ⟨l2, u2, rfl, ho2, hm2, hk2, hb2⟩
          have hown2 := ownsRow_next hown hb2
          have hl2 := HL2.out l2 hm2
          have HM3 := HM2.out l2 hm2
          have HK3 : Hid (AllLeaf (ll ++ l2)) := fun x hx => (List.mem_append.1 hx).elim (HK.out x) (hk2 x)
          have HM4 : Hid _ := HM3
          obtain ⟨ua, uc, rfl, _, _⟩ := own_form ho2
          have HO2 : Hid _ := ho2
          have HK2 : Hid _ := hk2
          have hB2 : Below W0.heap.size W0 w2 := below_next hB hb2
          have hs2 := hB2.size
          clear hrec hown HM2 HM3 HL2 HK hm2 hk2 ho2 e0 e1 e2 e3 e4 e5 e6
          go_wp2_with (at_builtin; refine wpList_append_any rfl _ _ 22 rfl W0.heap.size 24 i0 _ 7 88 Try.underlying22 hi hz0 hz1 hz2 rfl (by decide) _ _ _ rfl hown2 ua l2.length uc (rowC l2) rfl (own_none HO2.out) (rowC_len l2) (fun ad ea q u hq => ?_) (fun u hu => rowC_one' hu HK2.out) (by unfold maxLen; omega) (by omega) hs2 ?_)
          · subst ea
            exact own_cell HO2.out hq
          · intro v' w4 ho hg
            have hB4 : Below W0.heap.size W0 w4 := hB2.trans ((but_grown hg).below hs2 (fun k _ h' => by have := (World.ownsRow.lt hown2 k h').1; omega))
            have HO4 : Hid (w4.ownsRow W0.heap.size 24 7 v' (ll ++ l2).length (rowC (ll ++ l2))) := by
              show World.ownsRow _ _ _ _ _ _ _
              rw [List.length_append, rowC_app]
              exact ho
            clear ho hg hown2 HO2 HK2
            go_wp2_with fail
            exact ⟨⟨j + 1, ll ++ l2, by go_num, by omega, HO4.out, HM4, HK3, hB4⟩, by simp [intOf]; omega⟩
        · have k1 : ¬ (j : Int) < subs.length := by omega
          have HM2 : Hid (ll.map (·.1) = LV) := by
            show _ = _
            rw [HX.out, HM.out, List.take_of_length_le (by omega)]
          have HO4 : Hid (wr.ownsRow w.heap.size 24 7 (.slice la ll.length lc) ll.length (rowC ll)) := own_down hown (by have := HZ.out; omega)
          clear HM HS0 HIH HX hown
          go_wp2
          go_ret
          exact ⟨ll, _, rfl, HO4.out, HM2.out, HK.out, hBw⟩
end Go.Proofs.Ythmpnhjlblcgdaa
