/- Tables of a plain grammar: as a function; and sets by their keys. Lists. -/
import Derived.Test.YtbilbgjojdlobaaGreatDoorJ01
import Derived.Test.YtbilbgjojdlobaaGreatDoorJ03
import Derived.Test.YtbilbgjojdlobaaGreatDoorJ04
import Derived.Lib.UnsafeStr
import Derived.Shelf.RegionOpenPlain
namespace Go.Proofs.YtbilbgjojdlobaaGreatDoor

/-- Items whose Dot is behind all, ahead of a terminal: the productions; and whether the whole is one. -/
def redL (f : Fl) (l : List Ir) (t : Int) : List Int := (l.filter fun x => decide (nextI f x = none ∧ x.2.2 = t ∧ 0 ≤ x.1)).map (·.1)
def accL (f : Fl) (l : List Ir) (t : Int) : Bool := l.any fun x => decide (nextI f x = none ∧ x.2.2 = t ∧ x.1 < 0)
def endL (f : Fl) (l : List Ir) (t : Int) : Bool := l.any fun x => decide (nextI f x = none ∧ x.2.2 = t)
/-- Where it goes. -/
noncomputable def toF (f : Fl) (R : List (List Ir)) (l : List Ir) (s : Nat) : Option Int := if movedL f l (s : Int) = [] then none else some (findI R (gotoF f l s) : Int)
noncomputable def goRow (f : Fl) (R : List (List Ir)) (l : List Ir) : List (Int × Int) := (List.range f.n).filterMap fun s => (toF f R l s).map fun (t : Int) => ((s : Int), t)
noncomputable def actAt (f : Fl) (R : List (List Ir)) (l : List Ir) (t : Nat) : Ac := ⟨t, if t < f.terms.length then (toF f R l t).getD (-1) else -1, redL f l t, accL f l t⟩
def someA (a : Ac) : Bool := decide (0 ≤ a.to ∨ a.acc = true ∨ a.red ≠ [])
noncomputable def actRow (f : Fl) (R : List (List Ir)) (l : List Ir) : List Ac := ((List.range (f.terms.length + 1)).map (actAt f R l)).filter someA
noncomputable def rowT (f : Fl) (R : List (List Ir)) (l : List Ir) : Rw := ⟨actRow f R l, goRow f R l⟩
noncomputable def tabF (f : Fl) : Option (List Rw) := (allF f).map fun R => R.map (rowT f R)

theorem redL_append (f : Fl) (l m : List Ir) (t : Int) : redL f (l ++ m) t = redL f l t ++ redL f m t := by simp [redL]
theorem accL_append (f : Fl) (l m : List Ir) (t : Int) : accL f (l ++ m) t = (accL f l t || accL f m t) := by simp [accL]
theorem endL_append (f : Fl) (l m : List Ir) (t : Int) : endL f (l ++ m) t = (endL f l t || endL f m t) := by simp [endL]
theorem movedL_append (f : Fl) (l m : List Ir) (s : Int) : movedL f (l ++ m) s = movedL f l s ++ movedL f m s := by simp [movedL]
/-- There is an end just where something is reduced, or taken. -/
theorem endL_iff (f : Fl) (l : List Ir) (t : Int) : endL f l t = true ↔ redL f l t ≠ [] ∨ accL f l t = true := by
  simp only [endL, accL, redL, List.any_eq_true, decide_eq_true_eq, ne_eq, List.map_eq_nil_iff, List.filter_eq_nil_iff, Classical.not_forall]
  constructor
  · rintro ⟨x, hx, h1, h2⟩
    rcases (by omega : x.1 < 0 ∨ 0 ≤ x.1) with h | h
    · exact .inr ⟨x, hx, h1, h2, h⟩
    · exact .inl ⟨x, hx, fun hn => hn ⟨h1, h2, h⟩⟩
  · rintro (⟨x, hx, h⟩ | ⟨x, hx, h1, h2, _⟩)
    · simp only [Classical.not_not] at h
      exact ⟨x, hx, h.1, h.2.1⟩
    · exact ⟨x, hx, h1, h2⟩
theorem endL_look {f : Fl} {l : List Ir} (hl : ∀ x ∈ l, fitI f x = true) {t : Int} (h : endL f l t = true) : 0 ≤ t ∧ t ≤ f.terms.length := by
  simp only [endL, List.any_eq_true, decide_eq_true_eq] at h
  obtain ⟨x, hx, _, rfl⟩ := h
  have := fitI_iff.1 (hl x hx)
  omega

/-- A number as two bytes, as a writer writes it. -/
def enc2 (n : Int) : List UInt8 := [UInt8.ofNat ((n / 256) % 256).toNat, UInt8.ofNat (n % 256).toNat]
def encN (l : List Int) : List UInt8 := l.flatMap enc2
def badN (l : List Int) : Bool := l.any fun n => decide (n < 0 ∨ n > 65535)
/-- An item as six bytes. -/
def encT (x : Ir) : List UInt8 := encN [x.1 + 1, x.2.1, x.2.2]
def keyT (K : List Ir) : List UInt8 := K.flatMap encT
theorem encT_len (x : Ir) : (encT x).length = 6 := rfl
theorem keyT_len : ∀ K : List Ir, (keyT K).length = 6 * K.length
  | [] => rfl
  | x :: K => by
    have := keyT_len K
    unfold keyT at this ⊢
    rw [List.flatMap_cons, List.length_append, this, encT_len, List.length_cons]
    omega
theorem keyT_nil {K : List Ir} : keyT K = [] ↔ K = [] := by
  constructor
  · intro h
    have := keyT_len K
    rw [h] at this
    exact List.length_eq_zero_iff.1 (by simp at this; omega)
  · rintro rfl; rfl
theorem keyT_append (K M : List Ir) : keyT (K ++ M) = keyT K ++ keyT M := by simp [keyT]
theorem enc2_inj {a b : Int} (ha : 0 ≤ a ∧ a ≤ 65535) (hb : 0 ≤ b ∧ b ≤ 65535) (h : enc2 a = enc2 b) : a = b := by
  simp only [enc2, List.cons.injEq, and_true] at h
  obtain ⟨h1, h2⟩ := h
  have e1 := congrArg UInt8.toNat h1
  have e2 := congrArg UInt8.toNat h2
  simp only [UInt8.toNat_ofNat'] at e1 e2
  omega
def FitT (x : Ir) : Prop := 0 ≤ x.1 + 1 ∧ x.1 + 1 ≤ 65535 ∧ 0 ≤ x.2.1 ∧ x.2.1 ≤ 65535 ∧ 0 ≤ x.2.2 ∧ x.2.2 ≤ 65535
theorem encT_inj {x y : Ir} (hx : FitT x) (hy : FitT y) (h : encT x = encT y) : x = y := by
  unfold FitT at hx hy
  unfold encT encN at h
  simp only [List.flatMap_cons, List.flatMap_nil, List.append_nil] at h
  have l2 : ∀ n : Int, (enc2 n).length = 2 := fun _ => rfl
  obtain ⟨h1, h'⟩ := List.append_inj h (by rw [l2, l2])
  obtain ⟨h2, h3⟩ := List.append_inj h' (by rw [l2, l2])
  have e1 := enc2_inj ⟨hx.1, hx.2.1⟩ ⟨hy.1, hy.2.1⟩ h1
  have e2 := enc2_inj ⟨hx.2.2.1, hx.2.2.2.1⟩ ⟨hy.2.2.1, hy.2.2.2.1⟩ h2
  have e3 := enc2_inj ⟨hx.2.2.2.2.1, hx.2.2.2.2.2⟩ ⟨hy.2.2.2.2.1, hy.2.2.2.2.2⟩ h3
  exact ir_ext (by omega) e2 e3
theorem keyT_inj : ∀ {K M : List Ir}, (∀ x ∈ K, FitT x) → (∀ x ∈ M, FitT x) → keyT K = keyT M → K = M
  | [], M, _, _, h => (keyT_nil.1 h.symm).symm
  | x :: K, [], _, _, h => keyT_nil.1 h
  | x :: K, y :: M, hK, hM, h => by
    unfold keyT at h
    rw [List.flatMap_cons, List.flatMap_cons] at h
    obtain ⟨h1, h2⟩ := List.append_inj h (by rw [encT_len, encT_len])
    rw [encT_inj (hK x (by simp)) (hM y (by simp)) h1, keyT_inj (fun z hz => hK z (by simp [hz])) (fun z hz => hM z (by simp [hz])) h2]
theorem fitT_of {f : Fl} (hp : FitP f) {x : Ir} (h : fitI f x = true) : FitT x := by
  have h1 := fitI_iff.1 h
  have h2 := rightI_le hp x.1
  have h3 := hp.prods
  have h4 : f.terms.length + f.nons.length ≤ 600 := hp.size
  unfold FitT
  omega
/-- A set's items whose Dot is not ahead of all. -/
def dotL (l : List Ir) : List Ir := l.filter fun x => decide (0 < x.2.1)
theorem dotL_append (l m : List Ir) : dotL (l ++ m) = dotL l ++ dotL m := by simp [dotL]
theorem dotL_kern {f : Fl} (hp : FitP f) {K : List Ir} (h : Kern f K) : dotL (closF f K) = K := by
  refine risingI_ext ?_ h.rise (fun x => ?_)
  · exact List.Pairwise.filter _ (closF_spec hp K).1
  · rw [h.mem hp x]
    simp [dotL]
theorem dotL_beg {f : Fl} (hp : FitP f) : dotL (closF f (begL f)) = [] := by
  refine List.eq_nil_iff_forall_not_mem.2 (fun x hx => ?_)
  simp only [dotL, List.mem_filter, decide_eq_true_eq] at hx
  rw [(closF_spec hp _).2 x] at hx
  rcases cl_dot hx.1 with h2 | h2
  · simp [begL] at h2; subst h2; exact absurd hx.2 (by simp)
  · omega

theorem sets_of_run {f : Fl} (hp : FitP f) : ∀ (m i : Nat) (T R : List (List Ir)), m = 601 - i → Met f T → T.Nodup → T.length + 1 ≤ 600 → i ≤ T.length + 1 → runA f (601 - i) i (setsOf f T) = some R → ∃ T', R = setsOf f T' ∧ Met f T' ∧ T'.Nodup ∧ T'.length + 1 ≤ 600
  | 0, i, T, R, hm, _, _, hl, hi, _ => by omega
  | m + 1, i, T, R, hm, hT, hn, hl, hi, h => by
    by_cases he : i = T.length + 1
    · rw [run_end he (by omega)] at h
      exact ⟨T, (Option.some.inj h).symm, hT, hn, hl⟩
    · have hlt : i < (begL f :: T).length := by rw [List.length_cons]; omega
      have hK : (begL f :: T)[i]? = some (begL f :: T)[i] := List.getElem?_eq_getElem hlt
      rw [run_step hp hT hl (by omega) hK] at h
      cases hr : rowK (kernsL f (closF f (begL f :: T)[i])) T with
      | none => rw [hr] at h; cases h
      | some T' =>
        rw [hr] at h
        obtain ⟨k1, k2, k3, k4⟩ := rowK_met _ T T' (kernsL_kern (closF_spec hp _).1) hT hn hl hr
        have := k4.length_le
        exact sets_of_run hp m (i + 1) T' R (by omega) k1 k2 k3 (by omega) (by rw [show 601 - (i + 1) = 600 - i by omega]; exact h)
theorem all_sets {f : Fl} (hp : FitP f) {R : List (List Ir)} (h : allF f = some R) : ∃ T, R = setsOf f T ∧ Met f T ∧ T.Nodup ∧ T.length + 1 ≤ 600 :=
  sets_of_run hp 601 0 [] R rfl (fun K hK => by cases hK) List.nodup_nil (by simp) (by simp) (by rw [← run_start]; exact h)
/-- What a set leads to is one of the sets; its place is that of its kernel. -/
theorem goto_place {f : Fl} (hp : FitP f) {R : List (List Ir)} (h : allF f = some R) {i : Nat} {l : List Ir} (hl : R[i]? = some l) {s : Nat} (hs : s < f.n) (hne : movedL f l (s : Int) ≠ []) :
    ∃ j, ∃ hj : j < R.length, dotL R[j] = movedL f l (s : Int) ∧ findI R (gotoF f l s) = j := by
  obtain ⟨T, rfl, hT, hn, hlen⟩ := all_sets hp h
  obtain ⟨h0, hnd, hcl⟩ := all_facts h
  have hrise : RisingI l := by
    have hm := List.mem_of_getElem? hl
    unfold setsOf at hm
    rcases List.mem_cons.1 hm with rfl | hm
    · exact (closF_spec hp _).1
    · obtain ⟨K, _, rfl⟩ := List.mem_map.1 hm
      exact (closF_spec hp _).1
  have hK := movedL_kern hrise hne
  have hg : gotoF f l s = closF f (movedL f l (s : Int)) := rfl
  have hm := hcl i l hl s hs (by rw [hg]; exact closF_ne hp hK)
  obtain ⟨j, hj, e⟩ := List.getElem_of_mem hm
  refine ⟨j, hj, ?_, by rw [← e]; exact findI_nodup hnd hj⟩
  rw [e, hg]; exact dotL_kern hp hK
/-- Sets have keys of their own. -/
theorem keys_apart {f : Fl} (hp : FitP f) {R : List (List Ir)} (h : allF f = some R) {i j : Nat} (hi : i < R.length) (hj : j < R.length) (e : keyT (dotL R[i]) = keyT (dotL R[j])) : i = j := by
  obtain ⟨T, rfl, hT, hn, hlen⟩ := all_sets hp h
  have hd : ∀ (i : Nat) (hi : i < (setsOf f T).length), (i = 0 ∧ dotL (setsOf f T)[i] = []) ∨ ∃ k, ∃ hk : k < T.length, i = k + 1 ∧ dotL (setsOf f T)[i] = T[k] := fun i hi => by
    rcases i with _ | k
    · exact .inl ⟨rfl, dotL_beg hp⟩
    · have hk : k < T.length := by simp [setsOf] at hi; omega
      exact .inr ⟨k, hk, rfl, by simp only [setsOf, List.getElem_cons_succ, List.getElem_map]; exact dotL_kern hp (hT _ (List.getElem_mem hk))⟩
  have hf : ∀ (k : Nat) (hk : k < T.length), ∀ x ∈ T[k], FitT x := fun k hk x hx => fitT_of hp ((hT _ (List.getElem_mem hk)).fit x hx)
  rcases hd i hi with ⟨rfl, ei⟩ | ⟨a, ha, rfl, ei⟩
  · rcases hd j hj with ⟨rfl, _⟩ | ⟨b, hb, rfl, ej⟩
    · rfl
    · rw [ei, ej] at e
      exact absurd (keyT_nil.1 e.symm) (hT _ (List.getElem_mem hb)).ne
  · rcases hd j hj with ⟨rfl, ej⟩ | ⟨b, hb, rfl, ej⟩
    · rw [ei, ej] at e
      exact absurd (keyT_nil.1 e) (hT _ (List.getElem_mem ha)).ne
    · rw [ei, ej] at e
      have := keyT_inj (hf a ha) (hf b hb) e
      rw [(List.getElem_inj hn).1 this]
theorem sets_fit {f : Fl} (hp : FitP f) {R : List (List Ir)} (h : allF f = some R) {l : List Ir} (hl : l ∈ R) : RisingI l ∧ ∀ x ∈ l, fitI f x = true := by
  obtain ⟨T, rfl, hT, hn, hlen⟩ := all_sets hp h
  unfold setsOf at hl
  rcases List.mem_cons.1 hl with rfl | hm
  · exact ⟨(closF_spec hp _).1, fun x hx => cl_fit (((closF_spec hp _).2 x).1 hx)⟩
  · obtain ⟨K, _, rfl⟩ := List.mem_map.1 hm
    exact ⟨(closF_spec hp _).1, fun x hx => cl_fit (((closF_spec hp _).2 x).1 hx)⟩
end Go.Proofs.YtbilbgjojdlobaaGreatDoor
/- numbers of a writer. -/
namespace Go.Proofs.YtbilbgjojdlobaaGreatDoor
open Go.RowKit

theorem encN_take {l : List Int} {j : Nat} (h : j < l.length) : encN (l.take (j + 1)) = encN (l.take j) ++ enc2 l[j] := by
  unfold encN
  rw [List.take_succ_eq_append_getElem h, List.flatMap_append]
  simp
theorem badN_take {l : List Int} {j : Nat} (h : j < l.length) : badN (l.take (j + 1)) = (badN (l.take j) || decide (l[j] < 0 ∨ l[j] > 65535)) := by
  unfold badN
  rw [List.take_succ_eq_append_getElem h, List.any_append]
  simp
theorem encN_len : ∀ (l : List Int), (encN l).length = 2 * l.length
  | [] => rfl
  | x :: l => by
    have := encN_len l
    unfold encN at this ⊢
    rw [List.flatMap_cons, List.length_append, this, List.length_cons]
    show 2 + _ = _
    omega
theorem u8_wrap {q : Int} : IntKind.u8.wrap q = ((UInt8.ofNat (q % 256).toNat).toNat : Int) := by
  simp [IntKind.wrap, IntKind.bits, IntKind.signed]
  omega

set_option maxRecDepth 100000 in
set_option maxHeartbeats 2000000 in
theorem numbers_any {B g i : Nat} {L : List Wr} {x : Wr} (l : List Int) (v : Value) (w : World) (hl : SlI l v w) (h : WsAt B g L w) (hx : L[i]? = some x) (hap : ∀ ad n c, v = .slice (some ad) n c → l ≠ [] → ¬ inW g w ad.block) (hll : l.length ≤ 1000000) (hbl : x.bs.length ≤ 100000000) (hBw : B ≤ w.heap.size) :
    Calls Tryz.prog 85 #[.pointer (some ⟨g, i * 3, none⟩), v] w fun e w' => e = .returned (.tuple #[]) ∧ WsAt B g (L.set i ⟨x.bs ++ encN l, x.bad || badN l⟩) w' ∧ Wrote g w w' := by
  have HB : Hid (∀ (u : UInt8) (L' : List Wr) (y : Wr) W, WsAt B g L' W → L'[i]? = some y → y.bs.length ≤ 1000000000 → B ≤ W.heap.size → Calls Tryz.prog 117 #[.pointer (some ⟨g, i * 3, none⟩), .int .u8 u.toNat] W fun e w' => e = .returned .nilIface ∧ WsAt B g (L'.set i ⟨y.bs ++ [u], y.bad⟩) w' ∧ Wrote g W w') := fun u L' y W h1 h2 h3 h4 => byte_any u W h1 h2 h3 h4
  have hlt0 : i < L.length := (List.getElem?_eq_some_iff.1 hx).1
  have HL : Hid (∀ W, Wrote g w W → SlI l v W) := fun W hW => by
    obtain ⟨la, lc, rfl, hr, h1, h2, h3⟩ := hl
    refine ⟨la, lc, rfl, fun k y hk => ?_, h1, h2, h3⟩
    obtain ⟨b, off, e0, hb, hc⟩ := hr k y hk
    refine ⟨b, off, e0, Nat.lt_of_lt_of_le hb hW.1.size, ?_⟩
    rw [← hc]
    exact hW.1.cell (p := ⟨b, off + k, none⟩) hb (hap ⟨b, off, none⟩ _ _ (by rw [e0]) (by rintro rfl; simp at hk))
  obtain ⟨la, lc, rfl, _⟩ := hl
  obtain ⟨o, ho⟩ : ∃ o, i * 3 = o := ⟨_, rfl⟩
  have HW0 : Hid (WsAt B g (L.set i ⟨x.bs ++ encN (l.take 0), x.bad || badN (l.take 0)⟩) w) := by
    show WsAt _ _ _ _
    have e : L.set i ⟨x.bs ++ encN (l.take 0), x.bad || badN (l.take 0)⟩ = L := by
      have : (⟨x.bs ++ encN (l.take 0), x.bad || badN (l.take 0)⟩ : Wr) = x := by simp [encN, badN]
      rw [this]
      obtain ⟨hi', e⟩ := List.getElem?_eq_some_iff.1 hx
      rw [← e]; exact List.set_getElem_self _
    rw [e]; exact h
  clear h hap
  rw [ho] at HB ⊢
  go_enter Tryz.func85, Tryz.ntmps85
  go_wp2_with fail
  go_loopw [8] (fun iv wr => ∃ (j : Nat), iv = .int .i64 j ∧ j ≤ l.length ∧ WsAt B g (L.set i ⟨x.bs ++ encN (l.take j), x.bad || badN (l.take j)⟩) wr ∧ Wrote g w wr) (fun i _ => l.length - (intOf i).toNat)
  case atStart => exact ⟨0, rfl, Nat.zero_le _, HW0.out, Wrote.refl _ _⟩
  case round =>
  clear HW0
  obtain ⟨j, rfl, hj, hW, hw⟩ := hrel
  by_cases hlt : j < l.length
  case neg =>
    obtain rfl : j = l.length := by omega
    rw [List.take_of_length_le (Nat.le_refl _)] at hW
    have HR : Hid (WsAt B g (L.set i ⟨x.bs ++ encN l, x.bad || badN l⟩) wr ∧ Wrote g w wr) := ⟨hW, hw⟩
    clear hW hw HL HB
    go_wp2_with fail
    go_end0
    exact ⟨rfl, HR.out⟩
  obtain ⟨_, _, e0, hrl, _⟩ := HL.out _ hw
  cases e0
  obtain ⟨b2, o2, rfl, hb2, p0⟩ := hrl.at (Below.refl _ _) hlt
  unfold encI at p0
  have hek := encN_take hlt
  have hbk := badN_take hlt
  have hel : (encN (l.take j)).length ≤ 2000000 := by rw [encN_len, List.length_take]; omega
  have hsz := hw.1.size
  generalize l[j] = p at *
  generalize encN (l.take j) = E at *
  generalize badN (l.take j) = Bd at *
  have HEK : Hid (encN (l.take (j + 1)) = E ++ enc2 p) := hek
  have HBK : Hid (badN (l.take (j + 1)) = (Bd || decide (p < 0 ∨ p > 65535))) := hbk
  have HW : Hid (WsAt B g (L.set i ⟨x.bs ++ E, x.bad || Bd⟩) wr ∧ Wrote g w wr) := ⟨hW, hw⟩
  have hset : ∀ y, (L.set i y)[i]? = some y := fun y => by rw [List.getElem?_set_self hlt0]
  have HST : Hid (∀ y, (L.set i y)[i]? = some y) := hset
  obtain ⟨cs, hc, hs⟩ := hW.blk
  have hf2 : wr.frozen? ⟨g, o + 2, none⟩ = false := Lib.frozen_of_heap hc _
  have hcb := hW.bad i _ (hset _)
  rw [ho] at hcb
  obtain ⟨u1, hu1⟩ : ∃ u, UInt8.ofNat ((p / 256) % 256).toNat = u := ⟨_, rfl⟩
  obtain ⟨u2, hu2⟩ : ∃ u, UInt8.ofNat (p % 256).toNat = u := ⟨_, rfl⟩
  have hwb1 : IntKind.u8.wrap (p / 256) = (u1.toNat : Int) := by rw [← hu1]; exact u8_wrap
  have hwb2 : IntKind.u8.wrap p = (u2.toNat : Int) := by rw [← hu2]; exact u8_wrap
  have HU : Hid (enc2 p = [u1, u2]) := by show _ = _; rw [← hu1, ← hu2]; rfl
  clear hu1 hu2
  by_cases hbad : p < 0 ∨ p > 65535
  · obtain ⟨BD, hBD⟩ : ∃ BD : Bool, true = BD := ⟨_, rfl⟩
    have HBD : Hid (((x.bad || Bd) || decide (p < 0 ∨ p > 65535)) = BD) := by show _ = _; rw [decide_eq_true hbad, ← hBD]; simp
    have HS := hW.setBad true (hset _)
    rw [ho] at HS
    have HW1 : Hid (WsAt B g (L.set i ⟨x.bs ++ E, BD⟩) (wr.setCell ⟨g, o + 2, none⟩ (.bool true)) ∧ Wrote g w (wr.setCell ⟨g, o + 2, none⟩ (.bool true))) := by
      refine ⟨?_, hw.trans HS.2⟩
      have := HS.1
      rw [List.set_set] at this
      rw [← hBD]
      exact this
    clear HS hW hw HW hc hs hset hBD hek hbk hrl
    by_cases hneg : p < 0
    · have hd1 : decide (p < 0) = true := decide_eq_true hneg
      go_upto_region 5 with fail
      generalize wr.setCell ⟨g, o + 2, none⟩ (.bool true) = W1 at *
      obtain ⟨hW1, hw1⟩ := HW1.out
      have hsz1 := hw1.1.size
      have HC1 : Hid (Calls Tryz.prog 117 #[.pointer (some ⟨g, o, none⟩), .int .u8 u1.toNat] W1 fun e w' => e = .returned .nilIface ∧ WsAt B g ((L.set i ⟨x.bs ++ E, BD⟩).set i ⟨x.bs ++ E ++ [u1], BD⟩) w' ∧ Wrote g W1 w') := HB.out _ _ ⟨x.bs ++ E, BD⟩ W1 hW1 (HST.out _) (by simp; omega) (Nat.le_trans hBw hsz1)
      have HW9 : Hid (Wrote g w W1) := hw1
      clear hW1 HW1 hw1 hf2 hcb
      go_wp2_with fail
      refine HC1.out.mono ?_
      rintro e w2 ⟨rfl, hW2, hw2⟩
      rw [List.set_set] at hW2
      have hsz2 := hw2.1.size
      have HC2 : Hid (Calls Tryz.prog 117 #[.pointer (some ⟨g, o, none⟩), .int .u8 u2.toNat] w2 fun e w' => e = .returned .nilIface ∧ WsAt B g ((L.set i ⟨x.bs ++ E ++ [u1], BD⟩).set i ⟨x.bs ++ E ++ [u1] ++ [u2], BD⟩) w' ∧ Wrote g w2 w') := HB.out _ _ ⟨x.bs ++ E ++ [u1], BD⟩ w2 hW2 (HST.out _) (by simp; omega) (Nat.le_trans hBw (Nat.le_trans hsz1 hsz2))
      have HW8 : Hid (Wrote g w w2) := HW9.out.trans hw2
      clear hW2 hw2 HC1 HW9
      go_wp2_with fail
      refine HC2.out.mono ?_
      rintro e w3 ⟨rfl, hW3, hw3⟩
      rw [List.set_set] at hW3
      have HF : Hid (WsAt B g (L.set i ⟨x.bs ++ encN (l.take (j + 1)), x.bad || badN (l.take (j + 1))⟩) w3 ∧ Wrote g w w3) := by
        refine ⟨?_, HW8.out.trans hw3⟩
        rw [HEK.out, HBK.out]
        have e1 : (⟨x.bs ++ (E ++ enc2 p), x.bad || (Bd || decide (p < 0 ∨ p > 65535))⟩ : Wr) = ⟨x.bs ++ E ++ [u1] ++ [u2], BD⟩ := by
          rw [← HBD.out, ← Bool.or_assoc]
          rw [HU.out]; simp
        rw [e1]; exact hW3
      clear hW3 hw3 HC2 HW8 HEK HBK HB HL hwb1 hwb2
      go_wp2_with fail
      exact ⟨⟨j + 1, by go_num, by omega, HF.out⟩, by simp [intOf]; omega⟩
    · have hd1 : decide (p < 0) = false := decide_eq_false hneg
      have hgt : p > 65535 := hbad.resolve_left hneg
      have hd2 : decide (p > 65535) = true := decide_eq_true hgt
      go_upto_region 5 with fail
      generalize wr.setCell ⟨g, o + 2, none⟩ (.bool true) = W1 at *
      obtain ⟨hW1, hw1⟩ := HW1.out
      have hsz1 := hw1.1.size
      have HC1 : Hid (Calls Tryz.prog 117 #[.pointer (some ⟨g, o, none⟩), .int .u8 u1.toNat] W1 fun e w' => e = .returned .nilIface ∧ WsAt B g ((L.set i ⟨x.bs ++ E, BD⟩).set i ⟨x.bs ++ E ++ [u1], BD⟩) w' ∧ Wrote g W1 w') := HB.out _ _ ⟨x.bs ++ E, BD⟩ W1 hW1 (HST.out _) (by simp; omega) (Nat.le_trans hBw hsz1)
      have HW9 : Hid (Wrote g w W1) := hw1
      clear hW1 HW1 hw1 hf2 hcb
      go_wp2_with fail
      refine HC1.out.mono ?_
      rintro e w2 ⟨rfl, hW2, hw2⟩
      rw [List.set_set] at hW2
      have hsz2 := hw2.1.size
      have HC2 : Hid (Calls Tryz.prog 117 #[.pointer (some ⟨g, o, none⟩), .int .u8 u2.toNat] w2 fun e w' => e = .returned .nilIface ∧ WsAt B g ((L.set i ⟨x.bs ++ E ++ [u1], BD⟩).set i ⟨x.bs ++ E ++ [u1] ++ [u2], BD⟩) w' ∧ Wrote g w2 w') := HB.out _ _ ⟨x.bs ++ E ++ [u1], BD⟩ w2 hW2 (HST.out _) (by simp; omega) (Nat.le_trans hBw (Nat.le_trans hsz1 hsz2))
      have HW8 : Hid (Wrote g w w2) := HW9.out.trans hw2
      clear hW2 hw2 HC1 HW9
      go_wp2_with fail
      refine HC2.out.mono ?_
      rintro e w3 ⟨rfl, hW3, hw3⟩
      rw [List.set_set] at hW3
      have HF : Hid (WsAt B g (L.set i ⟨x.bs ++ encN (l.take (j + 1)), x.bad || badN (l.take (j + 1))⟩) w3 ∧ Wrote g w w3) := by
        refine ⟨?_, HW8.out.trans hw3⟩
        rw [HEK.out, HBK.out]
        have e1 : (⟨x.bs ++ (E ++ enc2 p), x.bad || (Bd || decide (p < 0 ∨ p > 65535))⟩ : Wr) = ⟨x.bs ++ E ++ [u1] ++ [u2], BD⟩ := by
          rw [← HBD.out, ← Bool.or_assoc]
          rw [HU.out]; simp
        rw [e1]; exact hW3
      clear hW3 hw3 HC2 HW8 HEK HBK HB HL hwb1 hwb2
      go_wp2_with fail
      exact ⟨⟨j + 1, by go_num, by omega, HF.out⟩, by simp [intOf]; omega⟩
  · have hneg : ¬ p < 0 := fun h => hbad (.inl h)
    have hgt : ¬ p > 65535 := fun h => hbad (.inr h)
    have hd1 : decide (p < 0) = false := decide_eq_false hneg
    have hd2 : decide (p > 65535) = false := decide_eq_false hgt
    obtain ⟨BD, hBD⟩ : ∃ BD : Bool, (x.bad || Bd) = BD := ⟨_, rfl⟩
    have HBD : Hid (((x.bad || Bd) || decide (p < 0 ∨ p > 65535)) = BD) := by show _ = _; rw [decide_eq_false hbad, ← hBD]; simp
    have HW1 : Hid (WsAt B g (L.set i ⟨x.bs ++ E, BD⟩) wr ∧ Wrote g w wr) := by rw [hBD] at HW; exact HW.out
    clear hW hw HW hc hs hset hBD hek hbk hrl
    go_upto_region 5 with fail
    generalize hWR : wr = W1 at *
    clear hWR
    obtain ⟨hW1, hw1⟩ := HW1.out
    have hsz1 := hw1.1.size
    have HC1 : Hid (Calls Tryz.prog 117 #[.pointer (some ⟨g, o, none⟩), .int .u8 u1.toNat] W1 fun e w' => e = .returned .nilIface ∧ WsAt B g ((L.set i ⟨x.bs ++ E, BD⟩).set i ⟨x.bs ++ E ++ [u1], BD⟩) w' ∧ Wrote g W1 w') := HB.out _ _ ⟨x.bs ++ E, BD⟩ W1 hW1 (HST.out _) (by simp; omega) (Nat.le_trans hBw hsz1)
    have HW9 : Hid (Wrote g w W1) := hw1
    clear hW1 HW1 hw1 hf2 hcb
    go_wp2_with fail
    refine HC1.out.mono ?_
    rintro e w2 ⟨rfl, hW2, hw2⟩
    rw [List.set_set] at hW2
    have hsz2 := hw2.1.size
    have HC2 : Hid (Calls Tryz.prog 117 #[.pointer (some ⟨g, o, none⟩), .int .u8 u2.toNat] w2 fun e w' => e = .returned .nilIface ∧ WsAt B g ((L.set i ⟨x.bs ++ E ++ [u1], BD⟩).set i ⟨x.bs ++ E ++ [u1] ++ [u2], BD⟩) w' ∧ Wrote g w2 w') := HB.out _ _ ⟨x.bs ++ E ++ [u1], BD⟩ w2 hW2 (HST.out _) (by simp; omega) (Nat.le_trans hBw (Nat.le_trans hsz1 hsz2))
    have HW8 : Hid (Wrote g w w2) := HW9.out.trans hw2
    clear hW2 hw2 HC1 HW9
    go_wp2_with fail
    refine HC2.out.mono ?_
    rintro e w3 ⟨rfl, hW3, hw3⟩
    rw [List.set_set] at hW3
    have HF : Hid (WsAt B g (L.set i ⟨x.bs ++ encN (l.take (j + 1)), x.bad || badN (l.take (j + 1))⟩) w3 ∧ Wrote g w w3) := by
      refine ⟨?_, HW8.out.trans hw3⟩
      rw [HEK.out, HBK.out]
      have e1 : (⟨x.bs ++ (E ++ enc2 p), x.bad || (Bd || decide (p < 0 ∨ p > 65535))⟩ : Wr) = ⟨x.bs ++ E ++ [u1] ++ [u2], BD⟩ := by
        rw [← HBD.out, ← Bool.or_assoc]
        rw [HU.out]; simp
      rw [e1]; exact hW3
    clear hW3 hw3 HC2 HW8 HEK HBK HB HL hwb1 hwb2
    go_wp2_with fail
    exact ⟨⟨j + 1, by go_num, by omega, HF.out⟩, by simp [intOf]; omega⟩
end Go.Proofs.YtbilbgjojdlobaaGreatDoor
/- String, Len of a writer's builder. -/
namespace Go.Proofs.YtbilbgjojdlobaaGreatDoor
open Go.RowKit

theorem ptrU8 : Tryz.prog.underlying 145 = some (.pointer 5) := by kernel_rfl
theorem cellsU8 : Tryz.prog.cellsOf 5 = 1 := by kernel_rfl
theorem but_freeze {D : Nat → Prop} (w : World) (p : Addr) (n : Nat) (h : D p.block) : But D w (w.freeze p n) := by
  unfold World.freeze
  split
  · exact But.refl _ _
  · exact ⟨rfl, rfl, rfl, by simp, fun k hk hd => by
      have : p.block ≠ k := fun e => hd (e ▸ h)
      simp [Array.getElem?_modify, this]⟩

set_option maxHeartbeats 2000000 in
set_option maxRecDepth 100000 in
theorem string_any (B g o : Nat) (l : List UInt8) (v : Value) (w : World) (hv : w.cell? ⟨g, o + 1, none⟩ = some v) (hown : OwnB B l v w) (hnil : l = [] → v = .slice none 0 0) (hl : l.length ≤ 1000000000) :
    Calls Tryz.prog 53 #[.pointer (some ⟨g, o, none⟩)] w fun e w' => e = .returned (.string ⟨l.toArray⟩) ∧ But (fun k => v.ownBlock = some k) w w' := by
  by_cases hn : l = []
  · obtain rfl := hnil hn
    subst hn
    have c1 : w.drew.cell? ⟨g, o + 1, none⟩ = some (.slice none 0 0) := hv
    have hSD : (Builtin.unsafeSliceData_ #[98] 145 #[.slice none 0 0]).run Tryz.prog w.drew = .ok (.pointer none) w.drew := rfl
    have hUS := Lib.run_unsafeString_none (P := Tryz.prog) w.drew 145 3 9 none
    clear hown hnil hl
    have mixed : Tryz.prog.follows Departure.mixedOrders = true := by kernel_rfl
    go_enter Tryz.func53, Tryz.ntmps53
    go_wp2
    go_region_o
    all_goals (go_wp2; go_ret; exact ⟨rfl, (But.refl _ w).drew⟩)
  · have hlp : 0 < l.length := List.length_pos_iff.2 hn
    rcases hown.2 with ⟨rfl, h0⟩ | ⟨b, cap, cur, rfl, hB, hg, hle, hmx, hcs, htk⟩
    · omega
    have hlen : (l.map encU8).length = l.length := by simp
    have c1 : w.drew.cell? ⟨g, o + 1, none⟩ = some (.slice (some ⟨b, 0, none⟩) l.length cap) := hv
    have hg' : w.drew.heap[b]? = some (.cells cur 5 (0, 0)) := hg
    have hSD : (Builtin.unsafeSliceData_ #[98] 145 #[.slice (some ⟨b, 0, none⟩) l.length cap]).run Tryz.prog w.drew = .ok (.pointer (some ⟨b, 0, none⟩)) w.drew :=
      Lib.run_unsafeSliceData_row _ _ _ _ _ _ (by omega)
    have hUS : (Builtin.unsafeString_ #[145, 3] 9 #[.pointer (some ⟨b, 0, none⟩), .int .i64 l.length]).run Tryz.prog w.drew = .ok (.string ⟨l.toArray⟩) (w.drew.freeze ⟨b, 0, none⟩ l.length) :=
      Lib.run_unsafeString_row w.drew _ _ _ 5 ptrU8 cellsU8 b cur.size (by simp [World.shape?, hg']) l hn (by omega) (by omega) (fun j x hx => by
        rw [add_plain, Nat.zero_add, Lib.cell_of_heap hg']
        have hj : j < l.length := (List.getElem?_eq_some_iff.1 hx).1
        have e1 : (cur.toList.take (l.length * 1))[j]? = some (encU8 x) := by rw [htk, List.getElem?_map, hx]; rfl
        rw [List.getElem?_take, if_pos (by omega)] at e1
        rw [← Array.getElem?_toList]; exact e1)
    have BF : But (fun k => (Value.slice (some ⟨b, 0, none⟩) l.length cap).ownBlock = some k) w (w.drew.freeze ⟨b, 0, none⟩ l.length) := (But.refl _ w).drew.trans (but_freeze w.drew ⟨b, 0, none⟩ l.length rfl)
    generalize w.drew.freeze ⟨b, 0, none⟩ l.length = wz at *
    clear hown hnil hg hg' hcs htk hn
    generalize l.length = n at *
    have mixed : Tryz.prog.follows Departure.mixedOrders = true := by kernel_rfl
    go_enter Tryz.func53, Tryz.ntmps53
    go_wp2
    go_region_o
    all_goals (go_wp2; go_ret; exact ⟨rfl, BF⟩)

set_option maxRecDepth 100000 in
theorem len_any (g o n c : Nat) (a : Option Addr) (w : World) (hv : w.cell? ⟨g, o + 1, none⟩ = some (.slice a n c)) :
    Calls Tryz.prog 64 #[.pointer (some ⟨g, o, none⟩)] w fun e w' => e = .returned (.int .i64 n) ∧ w' = w := by
  go_enter Tryz.func64, Tryz.ntmps64
  go_wp2_with fail
  go_ret
  exact ⟨rfl, rfl⟩
end Go.Proofs.YtbilbgjojdlobaaGreatDoor
/- item of a writer; keyOf of table. -/
namespace Go.Proofs.YtbilbgjojdlobaaGreatDoor
open Go.RowKit

set_option maxRecDepth 100000 in
set_option maxHeartbeats 1000000 in
theorem wItem_any {B g i : Nat} {L : List Wr} {y : Wr} (x : Ir) (w : World) (h : WsAt B g L w) (hy : L[i]? = some y) (hx : FitT x) (hbl : y.bs.length ≤ 100000000) (hBw : B ≤ w.heap.size) :
    Calls Tryz.prog 63 #[.pointer (some ⟨g, i * 3, none⟩), valR x] w fun e w' => e = .returned (.tuple #[]) ∧ WsAt B g (L.set i ⟨y.bs ++ encT x, y.bad⟩) w' ∧ Wrote g w w' := by
  obtain ⟨x0, x1, x2⟩ := x
  unfold FitT at hx
  unfold valR
  simp only at *
  obtain ⟨o, ho⟩ : ∃ o, i * 3 = o := ⟨_, rfl⟩
  have Bx : Below w.heap.size w ((w.alloc (Obj.cells #[.int .i64 x0, .int .i64 x1, .int .i64 x2] 77)).alloc (Obj.cells #[.int .i64 (x0 + 1), .int .i64 x1, .int .i64 x2] 3)) := ((Below.refl _ _).alloc (Nat.le_refl _) _).alloc (by simp) _
  have HS : Hid (SlI [x0 + 1, x1, x2] (.slice (some ⟨w.heap.size + 1, 0, none⟩) 3 3) ((w.alloc (Obj.cells #[.int .i64 x0, .int .i64 x1, .int .i64 x2] 77)).alloc (Obj.cells #[.int .i64 (x0 + 1), .int .i64 x1, .int .i64 x2] 3))) := by
    refine ⟨_, _, rfl, fun k u hk => ⟨_, _, rfl, by simp, ?_⟩, fun h => (by cases h), (by simp), fun u hu => ?_⟩
    · rcases k with _ | _ | _ | k <;> simp at hk <;> subst hk <;> simp [encI]
    · simp at hu
      unfold i64B
      rcases hu with rfl | rfl | rfl <;> omega
  have HC := numbers_any (B := B) (g := g) (i := i) (L := L) (x := y) [x0 + 1, x1, x2] _ _ HS.out (h.next Bx) hy (fun ad n c e _ hin => by
    injection e with e1
    injection e1 with e1
    subst e1
    have := (inW_same (Bx.block g h.lt) _).1 hin
    have := (h.inLt this).2
    simp only at this
    omega) (by simp) hbl (Nat.le_trans hBw Bx.size)
  have HC2 : Hid (Calls Tryz.prog 85 #[.pointer (some ⟨g, o, none⟩), .slice (some ⟨w.heap.size + 1, 0, none⟩) 3 3] ((w.alloc (Obj.cells #[.int .i64 x0, .int .i64 x1, .int .i64 x2] 77)).alloc (Obj.cells #[.int .i64 (x0 + 1), .int .i64 x1, .int .i64 x2] 3)) fun e w' => e = .returned (.tuple #[]) ∧ WsAt B g (L.set i ⟨y.bs ++ encT (x0, x1, x2), y.bad⟩) w' ∧ Wrote g w w') := by
    rw [ho] at HC
    refine HC.mono ?_
    rintro e w' ⟨rfl, h1, h2⟩
    have eb : badN [x0 + 1, x1, x2] = false := by
      simp [badN]; omega
    rw [eb, Bool.or_false] at h1
    exact ⟨rfl, h1, (h.wrote Bx).trans h2⟩
  have hw1 : IntKind.i64.wrap (x0 + 1) = x0 + 1 := by rw [IntKind.wrap_i64]; omega
  rw [ho]
  clear HC h HS Bx
  go_enter Tryz.func63, Tryz.ntmps63
  go_wp2_with fail
  refine HC2.out.mono ?_
  rintro e w1 ⟨rfl, h1, h2⟩
  have HR : Hid (WsAt B g (L.set i ⟨y.bs ++ encT (x0, x1, x2), y.bad⟩) w1 ∧ Wrote g w w1) := ⟨h1, h2⟩
  clear h1 h2 HC2
  go_wp2_with fail
  go_end0
  exact ⟨rfl, HR.out⟩
theorem dotL_take {l : List Ir} {j : Nat} (h : j < l.length) : keyT (dotL (l.take (j + 1))) = keyT (dotL (l.take j)) ++ (if 0 < l[j].2.1 then encT l[j] else []) := by
  rw [List.take_succ_eq_append_getElem h, dotL_append, keyT_append]
  congr 1
  by_cases h' : 0 < l[j].2.1 <;> simp [dotL, h', keyT]
theorem dotL_len (l : List Ir) : (dotL l).length ≤ l.length := List.length_filter_le _ _
def strT (l : List Ir) : Value := .string ⟨(keyT l).toArray⟩

set_option maxRecDepth 100000 in
set_option maxHeartbeats 2000000 in
theorem keyOfT_any (l : List Ir) (v : Value) (w : World) (hl : SlL l v w) (hf : ∀ x ∈ l, FitT x) (hll : l.length ≤ 16000000) :
    Calls Tryz.prog 60 #[v] w fun e w' => e = .returned (strT (dotL l)) ∧ Below w.heap.size w w' := by
  have HIT : Hid (∀ (x : Ir) (bs : List UInt8) W, WsAt w.heap.size w.heap.size [⟨bs, false⟩] W → FitT x → bs.length ≤ 100000000 → w.heap.size ≤ W.heap.size → Calls Tryz.prog 63 #[.pointer (some ⟨w.heap.size, 0, none⟩), valR x] W fun e w' => e = .returned (.tuple #[]) ∧ WsAt w.heap.size w.heap.size [⟨bs ++ encT x, false⟩] w' ∧ Wrote w.heap.size W w') := fun x bs W h1 h2 h3 h4 => by
    have := wItem_any (i := 0) (y := ⟨bs, false⟩) x W h1 rfl h2 h3 h4
    simpa using this
  have HL : Hid (∀ W, Below w.heap.size w W → SlL l v W) := fun W hW => hl.next hW
  have HF : Hid (∀ x ∈ l, FitT x) := hf
  obtain ⟨la, lc, rfl, _⟩ := hl
  have W0 := WsAt.one w (Nat.le_refl w.heap.size)
  have B0 : Below w.heap.size w (w.alloc (.cells #[.pointer none, .slice none 0 0, .bool false] 102)) := (Below.refl _ _).alloc (Nat.le_refl _) _
  clear hf
  go_enter Tryz.func60, Tryz.ntmps60
  go_wp2_with fail
  generalize w.alloc (.cells #[.pointer none, .slice none 0 0, .bool false] 102) = w0 at *
  go_loopw [8] (fun iv wr => ∃ (j : Nat), iv = .int .i64 j ∧ j ≤ l.length ∧ WsAt w.heap.size w.heap.size [⟨keyT (dotL (l.take j)), false⟩] wr ∧ Below w.heap.size w wr) (fun i _ => l.length - (intOf i).toNat)
  case atStart => exact ⟨0, rfl, Nat.zero_le _, by simpa [keyT, dotL] using W0, B0⟩
  case round =>
  clear W0 B0
  obtain ⟨j, rfl, hj, hW, BW⟩ := hrel
  have hsz := BW.size
  have hkl : (keyT (dotL (l.take j))).length ≤ 100000000 := by
    rw [keyT_len]
    have h1 := dotL_len (l.take j)
    have h2 : (l.take j).length ≤ l.length := by rw [List.length_take]; omega
    omega
  by_cases hlt : j < l.length
  case neg =>
    obtain rfl : j = l.length := by omega
    rw [List.take_of_length_le (Nat.le_refl _)] at hW hkl
    obtain ⟨bv, hbv, hob⟩ := hW.buf 0 _ rfl
    have hnl := hW.nil 0 _ bv rfl
    simp only [Nat.zero_mul] at hbv hob hnl
    have HST := string_any w.heap.size w.heap.size 0 (keyT (dotL l)) bv wr hbv hob (fun e => hnl e hbv) (by omega)
    have HBB : Hid (∀ k, bv.ownBlock = some k → w.heap.size ≤ k) := fun k hk => (World.ownsRow.lt hob k hk).1
    clear HL HIT hW hob hnl hbv
    go_wp2_with fail
    refine HST.mono ?_
    rintro e w1 ⟨rfl, b1⟩
    have B9 : Below w.heap.size w w1 := BW.trans (b1.below hsz HBB.out)
    clear HST b1 HBB
    go_wp2_with fail
    go_ret
    exact ⟨rfl, B9⟩
  obtain ⟨_, _, e0, hrl, _⟩ := HL.out _ BW
  cases e0
  obtain ⟨b2, o2, rfl, hb2, c0, c1, c2, hok⟩ := hrl.at (Below.refl _ _) hlt
  have hfx := HF.out l[j] (List.getElem_mem hlt)
  have HT : Hid (keyT (dotL (l.take (j + 1))) = keyT (dotL (l.take j)) ++ (if 0 < l[j].2.1 then encT l[j] else [])) := dotL_take hlt
  generalize l[j] = x at *
  generalize keyT (dotL (l.take j)) = E at *
  obtain ⟨x0, x1, x2⟩ := x
  simp only at c0 c1 c2 HT
  have Bx : Below wr.heap.size wr (wr.alloc (Obj.cells #[.int .i64 x0, .int .i64 x1, .int .i64 x2] 77)) := (Below.refl _ _).alloc (Nat.le_refl _) _
  have hWx := hW.next Bx
  have BWx : Below w.heap.size w (wr.alloc (Obj.cells #[.int .i64 x0, .int .i64 x1, .int .i64 x2] 77)) := BW.trans (Bx.mono hsz)
  have X0 := RBox.new (x0, x1, x2) 77 wr
  have HC := HIT.out (x0, x1, x2) E _ hWx hfx hkl (Nat.le_trans hsz Bx.size)
  unfold valR at HC
  have HW : Hid (WsAt w.heap.size w.heap.size [⟨E, false⟩] (wr.alloc (Obj.cells #[.int .i64 x0, .int .i64 x1, .int .i64 x2] 77))) := hWx
  clear hWx hW hrl HL HIT
  go_upto_region 5 with fail
  generalize wr.alloc (Obj.cells #[.int .i64 x0, .int .i64 x1, .int .i64 x2] 77) = wa at *
  obtain ⟨hxl, y0, y1, y2⟩ := X0
  simp only at y0 y1 y2
  clear c0 c1 c2
  by_cases hd : 0 < x1
  · have hgt : x1 > 0 := hd
    have hdd : decide (x1 > 0) = true := decide_eq_true hd
    rw [if_pos hd] at HT
    have HCH : Hid (Calls Tryz.prog 63 #[.pointer (some ⟨w.heap.size, 0, none⟩), .agg #[.int .i64 x0, .int .i64 x1, .int .i64 x2]] wa fun e w' => e = .returned (.tuple #[]) ∧ WsAt w.heap.size w.heap.size [⟨E ++ encT (x0, x1, x2), false⟩] w' ∧ Wrote w.heap.size wa w') := HC
    clear HC
    go_wp2_with fail
    refine HCH.out.mono ?_
    rintro e w1 ⟨rfl, h1, h2⟩
    have HR : Hid (WsAt w.heap.size w.heap.size [⟨keyT (dotL (l.take (j + 1))), false⟩] w1 ∧ Below w.heap.size w w1) := ⟨by rw [HT.out]; exact h1, BWx.trans (HW.out.below h2 BWx.size)⟩
    clear h1 h2 HCH HW HT
    go_wp2_with fail
    exact ⟨⟨j + 1, by go_num, by omega, HR.out⟩, by simp [intOf]; omega⟩
  · have hgt : ¬ x1 > 0 := hd
    have hdd : decide (x1 > 0) = false := decide_eq_false hd
    rw [if_neg hd, List.append_nil] at HT
    have HR : Hid (WsAt w.heap.size w.heap.size [⟨keyT (dotL (l.take (j + 1))), false⟩] wa ∧ Below w.heap.size w wa) := ⟨by rw [HT.out]; exact HW.out, BWx⟩
    clear HC HW HT
    go_wp2_with fail
    exact ⟨⟨j + 1, by go_num, by omega, HR.out⟩, by simp [intOf]; omega⟩
end Go.Proofs.YtbilbgjojdlobaaGreatDoor
/- A row: what is gathered, item by item, symbol by symbol. Functions and lists. -/
namespace Go.Proofs.YtbilbgjojdlobaaGreatDoor

def gEnd (f : Fl) (l : List Ir) : Int → Option Ac := fun t => if endL f l t then some ⟨t, -1, redL f l t, accL f l t⟩ else none
theorem gEnd_cur (f : Fl) (l : List Ir) (t : Int) : curA (gEnd f l) t = ⟨t, -1, redL f l t, accL f l t⟩ := by
  unfold curA gEnd
  cases he : endL f l t with
  | true => rfl
  | false =>
    have h : ¬ (redL f l t ≠ [] ∨ accL f l t = true) := fun h => by rw [(endL_iff f l t).2 h] at he; cases he
    have h1 : redL f l t = [] := Classical.not_not.1 (fun h' => h (.inl h'))
    have h2 : accL f l t = false := by cases e : accL f l t with
      | false => rfl
      | true => exact absurd (.inr e) h
    rw [h1, h2]; rfl
theorem gEnd_nil (f : Fl) : gEnd f [] = fun _ => none := by funext t; simp [gEnd, endL]
theorem gEnd_end {f : Fl} {l : List Ir} {x : Ir} (hx : fitI f x = true) (hn : nextI f x = none) : gEnd f (l ++ [x]) = updG (gEnd f l) x.2.2 (endA (curA (gEnd f l) x.2.2) x.1) := by
  have hp := (fitI_iff.1 hx).1
  funext t
  unfold updG
  by_cases ht : t = x.2.2
  · rw [if_pos ht, gEnd_cur]
    subst ht
    have e1 : endL f (l ++ [x]) x.2.2 = true := by rw [endL_append]; simp [endL, hn]
    unfold gEnd endA
    rw [if_pos e1, redL_append, accL_append]
    by_cases hm : x.1 = -1
    · rw [if_pos hm]; simp [redL, accL, hm, hn]
    · rw [if_neg hm]
      have h1 : 0 ≤ x.1 := by omega
      have h2 : ¬ x.1 < 0 := by omega
      simp [redL, accL, hn, h1, h2]
  · rw [if_neg ht]
    have h' : ¬ x.2.2 = t := fun e => ht e.symm
    have e1 : endL f [x] t = false := by simp [endL, h']
    have e2 : redL f [x] t = [] := by simp [redL, h']
    have e3 : accL f [x] t = false := by simp [accL, h']
    unfold gEnd
    rw [endL_append, redL_append, accL_append, e1, e2, e3, Bool.or_false, Bool.or_false, List.append_nil]
theorem gEnd_next {f : Fl} {l : List Ir} {x : Ir} {s : Int} (hn : nextI f x = some s) : gEnd f (l ++ [x]) = gEnd f l := by
  funext t
  have e1 : endL f [x] t = false := by simp [endL, hn]
  have e2 : redL f [x] t = [] := by simp [redL, hn]
  have e3 : accL f [x] t = false := by simp [accL, hn]
  unfold gEnd
  rw [endL_append, redL_append, accL_append, e1, e2, e3, Bool.or_false, Bool.or_false, List.append_nil]
def wL (f : Fl) (l : List Ir) : List Wr := (List.range f.n).map fun (s : Nat) => ⟨keyT (movedL f l (s : Int)), false⟩
theorem wL_len (f : Fl) (l : List Ir) : (wL f l).length = f.n := by simp [wL]
theorem wL_get {f : Fl} {l : List Ir} {s : Nat} (h : s < f.n) : (wL f l)[s]? = some ⟨keyT (movedL f l (s : Int)), false⟩ := by simp [wL, h]
theorem moved_one {f : Fl} {x : Ir} {s t : Int} (hn : nextI f x = some s) : movedL f [x] t = if t = s then [(x.1, x.2.1 + 1, x.2.2)] else [] := by
  unfold movedL
  by_cases h : t = s
  · subst h; simp [hn]
  · have : ¬ s = t := fun e => h e.symm
    simp [hn, h, this]
theorem wL_next {f : Fl} {l : List Ir} {x : Ir} {s : Nat} (hn : nextI f x = some (s : Int)) : wL f (l ++ [x]) = (wL f l).set s ⟨keyT (movedL f l (s : Int)) ++ encT (x.1, x.2.1 + 1, x.2.2), false⟩ := by
  refine List.ext_getElem? (fun i => ?_)
  rw [List.getElem?_set]
  by_cases hi : i < f.n
  · rw [wL_get hi, wL_len]
    by_cases h : s = i
    · subst h
      rw [if_pos rfl, if_pos hi, movedL_append, moved_one hn, if_pos rfl, keyT_append]
      simp [keyT]
    · rw [if_neg h, wL_get hi, movedL_append, moved_one hn, if_neg (by omega), List.append_nil]
  · have h1 : (wL f (l ++ [x]))[i]? = none := List.getElem?_eq_none (by rw [wL_len]; omega)
    have h2 : (wL f l)[i]? = none := List.getElem?_eq_none (by rw [wL_len]; omega)
    rw [h1, h2, wL_len]
    split
    · rw [if_neg (by omega)]
    · rfl
theorem wL_end {f : Fl} {l : List Ir} {x : Ir} (hn : nextI f x = none) : wL f (l ++ [x]) = wL f l := by
  unfold wL
  refine List.map_congr_left (fun s _ => ?_)
  rw [movedL_append]
  simp [movedL, hn]
theorem moved_len (f : Fl) (l : List Ir) (s : Int) : (movedL f l s).length ≤ l.length := by
  unfold movedL
  rw [List.length_map]
  exact List.length_filter_le _ _
theorem redL_len (f : Fl) (l : List Ir) (t : Int) : (redL f l t).length ≤ l.length := by
  unfold redL
  rw [List.length_map]
  exact List.length_filter_le _ _
/-- Behind the shifts of the symbols below s. -/
noncomputable def gS (f : Fl) (R : List (List Ir)) (l : List Ir) (s : Nat) : Int → Option Ac := fun t => if 0 ≤ t ∧ t < (s : Int) ∧ t < (f.terms.length : Int) ∧ movedL f l t ≠ [] then some ⟨t, (findI R (gotoF f l t) : Int), redL f l t, accL f l t⟩ else gEnd f l t
theorem gS_zero (f : Fl) (R : List (List Ir)) (l : List Ir) : gS f R l 0 = gEnd f l := by
  funext t; unfold gS; rw [if_neg (by omega)]
theorem gS_cur (f : Fl) (R : List (List Ir)) (l : List Ir) (s : Nat) : curA (gS f R l s) s = ⟨s, -1, redL f l s, accL f l s⟩ := by
  have : gS f R l s s = gEnd f l s := by unfold gS; rw [if_neg (by omega)]
  rw [← gEnd_cur]; unfold curA; rw [this]
theorem gS_shift {f : Fl} {R : List (List Ir)} {l : List Ir} {s : Nat} (h1 : s < f.terms.length) (h2 : movedL f l (s : Int) ≠ []) :
    updG (gS f R l s) s ⟨(curA (gS f R l s) s).look, (findI R (gotoF f l s) : Int), (curA (gS f R l s) s).red, (curA (gS f R l s) s).acc⟩ = gS f R l (s + 1) := by
  rw [gS_cur]
  funext t
  unfold updG
  by_cases ht : t = (s : Int)
  · rw [if_pos ht]
    subst ht
    unfold gS
    rw [if_pos ⟨by omega, by omega, by omega, h2⟩]
  · rw [if_neg ht]
    unfold gS
    by_cases hc : 0 ≤ t ∧ t < (s : Int) ∧ t < (f.terms.length : Int) ∧ movedL f l t ≠ []
    · rw [if_pos hc, if_pos ⟨hc.1, by omega, hc.2.2⟩]
    · rw [if_neg hc, if_neg (fun h => hc ⟨h.1, by omega, h.2.2⟩)]
theorem gS_skip {f : Fl} {R : List (List Ir)} {l : List Ir} {s : Nat} (h : ¬ s < f.terms.length ∨ movedL f l (s : Int) = []) : gS f R l (s + 1) = gS f R l s := by
  funext t
  unfold gS
  by_cases hc : 0 ≤ t ∧ t < (s : Int) ∧ t < (f.terms.length : Int) ∧ movedL f l t ≠ []
  · rw [if_pos hc, if_pos ⟨hc.1, by omega, hc.2.2⟩]
  · rw [if_neg hc, if_neg (fun h' => ?_)]
    by_cases ht : t = (s : Int)
    · subst ht
      rcases h with h | h
      · omega
      · exact h'.2.2.2 h
    · exact hc ⟨h'.1, by omega, h'.2.2⟩
noncomputable def goUp (f : Fl) (R : List (List Ir)) (l : List Ir) (s : Nat) : List (Int × Int) := (List.range s).filterMap fun s => (toF f R l s).map fun (t : Int) => ((s : Int), t)
theorem goUp_succ {f : Fl} {R : List (List Ir)} {l : List Ir} {s : Nat} : goUp f R l (s + 1) = goUp f R l s ++ (if movedL f l (s : Int) = [] then [] else [((s : Int), (findI R (gotoF f l s) : Int))]) := by
  unfold goUp
  rw [List.range_succ, List.filterMap_append]
  congr 1
  unfold toF
  by_cases h : movedL f l (s : Int) = [] <;> simp [h]
theorem goUp_len (f : Fl) (R : List (List Ir)) (l : List Ir) (s : Nat) : (goUp f R l s).length ≤ s := by
  unfold goUp
  have := List.length_filterMap_le (fun s => (toF f R l s).map fun (t : Int) => ((s : Int), t)) (List.range s)
  simpa using this
theorem risingZ_ext {a b : List Int} (ha : a.Pairwise (· < ·)) (hb : b.Pairwise (· < ·)) (h : ∀ x, x ∈ a ↔ x ∈ b) : a = b := by
  have na : a.Nodup := ha.imp (fun {x y} h e => by omega)
  have nb : b.Nodup := hb.imp (fun {x y} h e => by omega)
  exact List.Perm.eq_of_pairwise (le := (· < ·)) (fun x y _ _ h1 h2 => by omega) ha hb ((List.perm_ext_iff_of_nodup na nb).2 h)
theorem someA_iff {f : Fl} {R : List (List Ir)} {l : List Ir} {n : Nat} (hn : f.terms.length ≤ n) {t : Nat} (ht : t ≤ f.terms.length) : someA (actAt f R l t) = true ↔ (gS f R l n t).isSome = true := by
  unfold someA actAt gS toF
  simp only [decide_eq_true_eq]
  by_cases h1 : t < f.terms.length
  · rw [if_pos h1]
    by_cases h2 : movedL f l (t : Int) = []
    · rw [if_pos h2, if_neg (by simp [h2])]
      unfold gEnd
      simp only [Option.getD_none]
      rw [← Bool.cond_eq_ite]
      cases he : endL f l t with
      | true =>
        have := (endL_iff f l t).1 he
        simp; rcases this with h | h
        · exact .inr h
        · exact .inl h
      | false =>
        have : ¬ (redL f l t ≠ [] ∨ accL f l t = true) := fun h => by rw [(endL_iff f l t).2 h] at he; cases he
        simp only [cond_false, Option.isSome_none, Bool.false_eq_true, iff_false]
        rintro (h | h | h)
        · omega
        · exact this (.inr h)
        · exact this (.inl h)
    · rw [if_neg h2, if_pos ⟨by omega, by omega, by omega, h2⟩]
      simp
  · rw [if_neg h1, if_neg (by omega)]
    unfold gEnd
    cases he : endL f l t with
    | true =>
      have := (endL_iff f l t).1 he
      simp; rcases this with h | h
      · exact .inr h
      · exact .inl h
    | false =>
      have : ¬ (redL f l t ≠ [] ∨ accL f l t = true) := fun h => by rw [(endL_iff f l t).2 h] at he; cases he
      simp only [Bool.false_eq_true, if_false, Option.isSome_none, iff_false]
      rintro (h | h | h)
      · omega
      · exact this (.inr h)
      · exact this (.inl h)
theorem gS_act {f : Fl} {R : List (List Ir)} {l : List Ir} {n : Nat} (hn : f.terms.length ≤ n) (t : Nat) : curA (gS f R l n) t = actAt f R l t := by
  unfold actAt toF
  by_cases h1 : t < f.terms.length
  · by_cases h2 : movedL f l (t : Int) = []
    · have : gS f R l n t = gEnd f l t := by unfold gS; rw [if_neg (by simp [h2])]
      have e : curA (gS f R l n) t = curA (gEnd f l) t := by unfold curA; rw [this]
      rw [e, gEnd_cur, if_pos h1, if_pos h2]; rfl
    · have : gS f R l n t = some ⟨t, (findI R (gotoF f l t) : Int), redL f l t, accL f l t⟩ := by unfold gS; rw [if_pos ⟨by omega, by omega, by omega, h2⟩]
      unfold curA
      rw [this, if_pos h1, if_neg h2]; rfl
  · have : gS f R l n t = gEnd f l t := by unfold gS; rw [if_neg (by omega)]
    have e : curA (gS f R l n) t = curA (gEnd f l) t := by unfold curA; rw [this]
    rw [e, gEnd_cur, if_neg h1]
theorem gS_look {f : Fl} {R : List (List Ir)} {l : List Ir} {n : Nat} (hl : ∀ x ∈ l, fitI f x = true) {t : Int} (h : (gS f R l n t).isSome = true) : 0 ≤ t ∧ t ≤ f.terms.length := by
  unfold gS at h
  split at h
  · rename_i hc; omega
  · unfold gEnd at h
    split at h
    · rename_i he; exact endL_look hl he
    · cases h
theorem acts_eq {f : Fl} {R : List (List Ir)} {l : List Ir} {n : Nat} (hl : ∀ x ∈ l, fitI f x = true) (hn : f.terms.length ≤ n) {S : List Int} (hS : S.Pairwise (· < ·)) (hm : ∀ t, t ∈ S ↔ (gS f R l n t).isSome = true) : S.map (curA (gS f R l n)) = actRow f R l := by
  have e : S = ((List.range (f.terms.length + 1)).filter fun t => someA (actAt f R l t)).map fun (t : Nat) => (t : Int) := by
    refine risingZ_ext hS ?_ (fun x => ?_)
    · rw [List.pairwise_map]
      refine (List.pairwise_lt_range.filter _).imp (fun {a b} h => by omega)
    · rw [hm, List.mem_map]
      constructor
      · intro h
        have hr := gS_look hl h
        refine ⟨x.toNat, ?_, by omega⟩
        rw [List.mem_filter, List.mem_range]
        refine ⟨by omega, ?_⟩
        rw [someA_iff hn (by omega)]
        have : ((x.toNat : Nat) : Int) = x := by omega
        rw [this]; exact h
      · rintro ⟨t, ht, rfl⟩
        rw [List.mem_filter, List.mem_range] at ht
        exact (someA_iff hn (by omega)).1 ht.2
  rw [e, List.map_map]
  unfold actRow
  rw [List.filter_map]
  refine List.map_congr_left (fun t _ => ?_)
  exact gS_act hn t
end Go.Proofs.YtbilbgjojdlobaaGreatDoor
/- Same of the program: slices.Equal at numbers and at Go, sameAct. -/
namespace Go.Proofs.YtbilbgjojdlobaaGreatDoor
open Go.RowKit

end Go.Proofs.YtbilbgjojdlobaaGreatDoor
/- Same of the program. -/
namespace Go.Proofs.YtbilbgjojdlobaaGreatDoor
open Go.RowKit

end Go.Proofs.YtbilbgjojdlobaaGreatDoor
/- slices.EqualFunc at acts and at rows, and Same. -/
namespace Go.Proofs.YtbilbgjojdlobaaGreatDoor
open Go.RowKit

end Go.Proofs.YtbilbgjojdlobaaGreatDoor
/- Small parts of the program's Fit: doesSomething, fitPlace, and what rises is told by. -/
namespace Go.Proofs.YtbilbgjojdlobaaGreatDoor
open Go.RowKit

def doesF (a : Ac) : Bool := decide (a.to ≠ -1 ∨ 0 < a.red.length ∨ a.acc = true)

set_option maxRecDepth 100000 in
theorem does_any (a : Ac) (u : Value) (w : World) (hu : SlI a.red u w) :
    Calls Tryz.prog 74 #[.agg #[.int .i64 a.look, .int .i64 a.to, u, .bool a.acc]] w fun e w' => e = .returned (.bool (doesF a)) ∧ Below w.heap.size w w' := by
  obtain ⟨ua, uc, rfl, _⟩ := hu
  obtain ⟨a0, a1, ar, a3⟩ := a
  simp only at *
  have HD : Hid (doesF ⟨a0, a1, ar, a3⟩ = decide (a1 ≠ -1 ∨ 0 < ar.length ∨ a3 = true)) := rfl
  have B0 : Below w.heap.size w (w.alloc (Obj.cells #[.int .i64 a0, .int .i64 a1, .slice ua ar.length uc, .bool a3] 45)) := (Below.refl _ _).alloc (Nat.le_refl _) _
  generalize ar.length = N at *
  go_enter Tryz.func74, Tryz.ntmps74
  by_cases ht : a1 = -1
  · subst ht
    by_cases hr : N = 0
    · subst hr
      have HE : Hid (doesF ⟨a0, -1, ar, a3⟩ = a3) := HD.out.trans (by cases a3 <;> simp)
      clear HD
      go_wp2_with fail
      go_ret
      exact ⟨by rw [HE.out]; rfl, B0⟩
    · have hr' : (N : Int) > 0 := by omega
      have hd : decide ((N : Int) > 0) = true := decide_eq_true hr'
      have HE : Hid (doesF ⟨a0, -1, ar, a3⟩ = true) := HD.out.trans (decide_eq_true (.inr (.inl (by omega))))
      clear HD
      go_wp2_with fail
      go_ret
      exact ⟨by rw [HE.out]; rfl, B0⟩
  · have ht2 : (a1 != -1) = true := by simpa using ht
    have HE : Hid (doesF ⟨a0, a1, ar, a3⟩ = true) := HD.out.trans (decide_eq_true (.inl ht))
    clear HD
    go_wp2_with fail
    go_ret
    exact ⟨by rw [HE.out]; rfl, B0⟩

set_option maxRecDepth 100000 in
theorem byLook_any (a : Ac) (u : Value) (w : World) (hu : SlI a.red u w) :
    Calls Tryz.prog 76 #[.agg #[.int .i64 a.look, .int .i64 a.to, u, .bool a.acc]] w fun e w' => e = .returned (.int .i64 a.look) ∧ Below w.heap.size w w' := by
  obtain ⟨ua, uc, rfl, _⟩ := hu
  have B0 : Below w.heap.size w (w.alloc (Obj.cells #[.int .i64 a.look, .int .i64 a.to, .slice ua a.red.length uc, .bool a.acc] 45)) := (Below.refl _ _).alloc (Nat.le_refl _) _
  go_enter Tryz.func76, Tryz.ntmps76
  go_wp2_with fail
  go_ret
  exact ⟨rfl, B0⟩
set_option maxRecDepth 100000 in
theorem bySym_any (a b : Int) (w : World) :
    Calls Tryz.prog 79 #[.agg #[.int .i64 a, .int .i64 b]] w fun e w' => e = .returned (.int .i64 a) ∧ Below w.heap.size w w' := by
  have B0 : Below w.heap.size w (w.alloc (Obj.cells #[.int .i64 a, .int .i64 b] 75)) := (Below.refl _ _).alloc (Nat.le_refl _) _
  go_enter Tryz.func79, Tryz.ntmps79
  go_wp2_with fail
  go_ret
  exact ⟨rfl, B0⟩
set_option maxRecDepth 100000 in
theorem byProd_any (a : Int) (w : World) :
    Calls Tryz.prog 110 #[.int .i64 a] w fun e w' => e = .returned (.int .i64 a) ∧ w' = w := by
  go_enter Tryz.func110, Tryz.ntmps110
  go_wp2_with fail
  go_ret
  exact ⟨rfl, rfl⟩
end Go.Proofs.YtbilbgjojdlobaaGreatDoor
/- rises, at numbers. -/
namespace Go.Proofs.YtbilbgjojdlobaaGreatDoor
open Go.RowKit

/-- Each is greater than the one ahead of it. -/
def risesB : List Int → Bool
  | [] => true
  | [_] => true
  | a :: b :: l => decide (a < b) && risesB (b :: l)
theorem risesB_iff : ∀ l : List Int, risesB l = true ↔ ∀ k, (h : k + 1 < l.length) → l[k] < l[k + 1]
  | [] => by simp [risesB]
  | [_] => by simp [risesB]
  | a :: b :: l => by
    rw [risesB, Bool.and_eq_true, decide_eq_true_eq, risesB_iff (b :: l)]
    constructor
    · rintro ⟨h1, h2⟩ k hk
      rcases k with _ | k
      · exact h1
      · exact h2 k (by simpa using hk)
    · intro h
      exact ⟨h 0 (by simp), fun k hk => h (k + 1) (by simpa using hk)⟩

set_option maxRecDepth 100000 in
set_option maxHeartbeats 1600000 in
theorem risesI_any (l : List Int) (v : Value) (w : World) (hl : SlI l v w) (hb : l.length ≤ 140737488351232) :
    Calls Tryz.prog 109 #[v, .func (.func 110) #[] #[]] w fun e w' => e = .returned (.bool (risesB l)) ∧ ∃ n, w' = w.drewN n := by
  have HBP : Hid (∀ (a : Int) W, Calls Tryz.prog 110 #[.int .i64 a] W fun e w' => e = .returned (.int .i64 a) ∧ w' = W) := fun a W => byProd_any a W
  have HL : Hid (∀ n, SlI l v (w.drewN n)) := fun n => hl.next (below_drewN (Below.refl _ _) n)
  have HEQ : Hid ((∀ k, (h : k + 1 < l.length) → l[k] < l[k + 1]) → risesB l = true) := (risesB_iff l).2
  have HNE : Hid (∀ k, (h : k + 1 < l.length) → ¬ l[k] < l[k + 1] → risesB l = false) := fun k h hn => by
    cases e : risesB l
    · rfl
    · exact absurd ((risesB_iff l).1 e k h) hn
  obtain ⟨la, lc, rfl, _⟩ := hl
  go_enter Tryz.func109, Tryz.ntmps109
  go_wp2_with fail
  go_loopw [5] (fun iv wr => ∃ (i n : Nat), iv = .int .i64 i ∧ 1 ≤ i ∧ i ≤ l.length + 1 ∧ (∀ k, (h : k + 1 < l.length) → k + 1 < i → l[k] < l[k + 1]) ∧ wr = w.drewN n) (fun i _ => l.length + 1 - (intOf i).toNat)
  case atStart => exact ⟨1, 0, rfl, Nat.le_refl _, by omega, fun k _ hk => by omega, rfl⟩
  case round =>
  obtain ⟨i, n, rfl, h1i, hi, hall, rfl⟩ := hrel
  have HAL : Hid (∀ k, (h : k + 1 < l.length) → k + 1 < i → l[k] < l[k + 1]) := hall
  clear hall
  by_cases hlt : i < l.length
  case neg =>
    have HE : Hid (risesB l = true) := HEQ.out (fun k h => HAL.out k h (by omega))
    clear HEQ HNE HAL
    go_wp2_with fail
    go_ret
    exact ⟨by rw [HE.out]; rfl, n, rfl⟩
  have hlt1 : i - 1 < l.length := by omega
  obtain ⟨_, _, e0, hrl, _⟩ := HL.out n
  cases e0
  obtain ⟨b2, o2, rfl, hb2, p0⟩ := hrl.at (Below.refl _ (w.drewN n)).drew hlt1
  obtain ⟨_, _, e1, _, q0⟩ := hrl.at (Below.refl _ (w.drewN n)).drew hlt
  cases e1
  unfold encI at p0 q0
  have HAN : Hid (l[i - 1] < l[i] → ∀ k, (h : k + 1 < l.length) → k + 1 < i + 1 → l[k] < l[k + 1]) := fun hh k h hk => by
    rcases Nat.lt_or_ge (k + 1) i with h' | h'
    · exact HAL.out k h h'
    · obtain rfl : i = k + 1 := by omega
      exact hh
  have HNN : Hid (¬ l[i - 1] < l[i] → risesB l = false) := fun hh => HNE.out (i - 1) (by omega) (by
    have e : i - 1 + 1 = i := by omega
    simp only [e]; omega)
  generalize l[i - 1] = p at *
  generalize l[i] = q at *
  have hS0 : (fun W : World => (W.cell? ⟨b2, o2 + (i - 1), none⟩ = some (.int .i64 p) ∧ W.cell? ⟨b2, o2 + i, none⟩ = some (.int .i64 q))) (w.drewN n).drew := ⟨p0, q0⟩
  have HDR : Hid (∃ k, (w.drewN n).drew = w.drewN k) := ⟨n + 1, by rw [← World.drewN_drewN]; rfl⟩
  have hw1 : IntKind.i64.wrap ((i : Int) - 1) = ((i - 1 : Nat) : Int) := by rw [IntKind.wrap_i64]; omega
  have HP1 := HBP.out p (w.drewN n).drew
  have HQ1 := HBP.out q (w.drewN n).drew
  clear hrl HL p0 q0 HAL HEQ HNE
  go_wp2_with fail
  refine wp_region_L (fun W => W.cell? ⟨b2, o2 + (i - 1), none⟩ = some (.int .i64 p) ∧ W.cell? ⟨b2, o2 + i, none⟩ = some (.int .i64 q)) 14 (by kernel_rfl) 14 rfl ?_
  refine tk (i := 0) (v := ?_) (oi := ⟨some 12, .move (.tmp 1), 167, "fit.go:13", #[], none⟩) hS0 ?_ ?_
  rotate_left
  · intro W hSW
    go_simp
    try with_reducible rfl
  simp only [Act.put, sA, s0, sS]
  refine tk (i := 1) (v := ?_) (oi := ⟨some 13, .move (.tmp 0), 43, "fit.go:13", #[], none⟩) hS0 ?_ ?_
  rotate_left
  · intro W hSW
    go_simp
    try with_reducible rfl
  simp only [Act.put, sA, s0, sS]
  refine tk (i := 2) (v := ?_) (oi := ⟨some 14, .move (.tmp 5), 3, "fit.go:13", #[], none⟩) hS0 ?_ ?_
  rotate_left
  · intro W hSW
    go_simp
    try with_reducible rfl
  simp only [Act.put, sA, s0, sS]
  refine tk (i := 3) (v := ?_) (oi := ⟨some 15, .binOp .sub 3 (.tmp 14) (.const (.int .i64 1)) 3, 3, "fit.go:13", #[⟨2, .data⟩], none⟩) hS0 ?_ ?_
  rotate_left
  · intro W hSW
    go_simp
    try with_reducible rfl
  simp only [Act.put, sA, s0, sS]
  try simp only [hw1]
  refine tk (i := 4) (v := ?_) (oi := ⟨some 16, .indexAddr 43 (.tmp 13) (.tmp 15), 0, "fit.go:13", #[⟨1, .data⟩, ⟨3, .data⟩], none⟩) hS0 ?_ ?_
  rotate_left
  · intro W hSW
    go_simp
    try with_reducible rfl
  simp only [Act.put, sA, s0, sS]
  refine tk (i := 5) (v := ?_) (oi := ⟨some 17, .load 3 (.tmp 16), 3, "fit.go:13", #[⟨4, .data⟩], none⟩) hS0 ?_ ?_
  rotate_left
  · intro W hSW
    go_simp
    try with_reducible rfl
  simp only [Act.put, sA, s0, sS]
  refine tk (i := 7) (v := ?_) (oi := ⟨some 19, .move (.tmp 1), 167, "fit.go:13", #[], none⟩) hS0 ?_ ?_
  rotate_left
  · intro W hSW
    go_simp
    try with_reducible rfl
  simp only [Act.put, sA, s0, sS]
  refine tk (i := 8) (v := ?_) (oi := ⟨some 20, .move (.tmp 0), 43, "fit.go:13", #[], none⟩) hS0 ?_ ?_
  rotate_left
  · intro W hSW
    go_simp
    try with_reducible rfl
  simp only [Act.put, sA, s0, sS]
  refine tk (i := 9) (v := ?_) (oi := ⟨some 21, .move (.tmp 5), 3, "fit.go:13", #[], none⟩) hS0 ?_ ?_
  rotate_left
  · intro W hSW
    go_simp
    try with_reducible rfl
  simp only [Act.put, sA, s0, sS]
  refine tk (i := 10) (v := ?_) (oi := ⟨some 22, .indexAddr 43 (.tmp 20) (.tmp 21), 0, "fit.go:13", #[⟨8, .data⟩, ⟨9, .data⟩], none⟩) hS0 ?_ ?_
  rotate_left
  · intro W hSW
    go_simp
    try with_reducible rfl
  simp only [Act.put, sA, s0, sS]
  refine tk (i := 11) (v := ?_) (oi := ⟨some 23, .load 3 (.tmp 22), 3, "fit.go:13", #[⟨10, .data⟩], none⟩) hS0 ?_ ?_
  rotate_left
  · intro W hSW
    go_simp
    try with_reducible rfl
  simp only [Act.put, sA, s0, sS]
  refine wpAnyL_one' (i := 6) (o := ⟨some 18, .call ⟨.value (.tmp 12), #[.tmp 17], #[3]⟩, 3, "fit.go:13", #[⟨0, .data⟩, ⟨5, .data⟩], none⟩) (by kernel_rfl) rfl rfl (fun KQ hK => ?_)
  go_simp
  refine HP1.mono ?_
  rintro e w6 ⟨rfl, rfl⟩
  refine hK.out _ _ (fun _ => hS0) ?_
  clear hK
  refine wpAnyL_one' (i := 12) (o := ⟨some 24, .call ⟨.value (.tmp 19), #[.tmp 23], #[3]⟩, 3, "fit.go:13", #[⟨7, .data⟩, ⟨11, .data⟩, ⟨6, .chain⟩], none⟩) (by kernel_rfl) rfl rfl (fun KQ hK => ?_)
  go_simp
  refine HQ1.mono ?_
  rintro e w6 ⟨rfl, rfl⟩
  refine hK.out _ _ (fun _ => hS0) ?_
  clear hK
  refine tk (i := 13) (v := ?_) (oi := ⟨some 25, .binOp .geq 3 (.tmp 18) (.tmp 24) 3, 4, "fit.go:13", #[⟨6, .data⟩, ⟨12, .data⟩], none⟩) hS0 ?_ ?_
  rotate_left
  · intro W hSW
    go_simp
    try with_reducible rfl
  simp only [Act.put, sA, s0, sS]
  refine wpAnyL_done (by kernel_rfl) ?_ _
  clear hS0 HP1 HQ1 hw1
  by_cases hpq : p < q
  · have hge : decide (p ≥ q) = false := decide_eq_false (by omega)
    have hge' : ¬ p ≥ q := by omega
    have HA2 : Hid (∀ k, (h : k + 1 < l.length) → k + 1 < i + 1 → l[k] < l[k + 1]) := HAN.out hpq
    clear HAN HNN
    go_wp2_with fail
    exact ⟨⟨i + 1, _, by go_num, by omega, by omega, HA2.out, HDR.out.choose_spec⟩, by simp [intOf]; omega⟩
  · have hge : decide (p ≥ q) = true := decide_eq_true (by omega)
    have hge' : p ≥ q := by omega
    have HE : Hid (risesB l = false) := HNN.out (by omega)
    clear HAN HNN
    go_wp2_with fail
    go_ret
    exact ⟨by rw [HE.out]; rfl, HDR.out⟩
end Go.Proofs.YtbilbgjojdlobaaGreatDoor
/- rises, at Go. -/
namespace Go.Proofs.YtbilbgjojdlobaaGreatDoor
open Go.RowKit

theorem risesB_map {α : Type} (g : α → Int) (l : List α) : risesB (l.map g) = true ↔ ∀ k, (h : k + 1 < l.length) → g l[k] < g l[k + 1] := by
  rw [risesB_iff]
  constructor
  · intro h k hk
    have h1 := h k (by rw [List.length_map]; exact hk)
    rw [List.getElem_map, List.getElem_map] at h1
    exact h1
  · intro h k hk
    rw [List.getElem_map, List.getElem_map]
    exact h k (by rw [List.length_map] at hk; exact hk)

set_option maxRecDepth 100000 in
set_option maxHeartbeats 1600000 in
theorem risesG_any (l : List (Int × Int)) (v : Value) (w : World) (hl : SlG l v w) :
    Calls Tryz.prog 78 #[v, .func (.func 79) #[] #[]] w fun e w' => e = .returned (.bool (risesB (l.map Prod.fst))) ∧ Below w.heap.size w w' := by
  have HBP : Hid (∀ (a b : Int) W, Calls Tryz.prog 79 #[.agg #[.int .i64 a, .int .i64 b]] W fun e w' => e = .returned (.int .i64 a) ∧ Below W.heap.size W w') := fun a b W => bySym_any a b W
  have HL : Hid (∀ W, Below w.heap.size w W → SlG l v W) := fun W hb => hl.next hb
  have HEQ : Hid ((∀ k, (h : k + 1 < l.length) → l[k].1 < l[k + 1].1) → risesB (l.map Prod.fst) = true) := (risesB_map _ l).2
  have HNE : Hid (∀ k, (h : k + 1 < l.length) → ¬ l[k].1 < l[k + 1].1 → risesB (l.map Prod.fst) = false) := fun k h hn => by
    cases e : risesB (l.map Prod.fst)
    · rfl
    · exact absurd ((risesB_map _ l).1 e k h) hn
  have hb : l.length ≤ 140737488351232 := by obtain ⟨_, _, _, _, _, _, h⟩ := hl; exact h
  obtain ⟨la, lc, rfl, _⟩ := hl
  generalize risesB (l.map Prod.fst) = RB at *
  go_enter Tryz.func78, Tryz.ntmps78
  go_wp2_with fail
  go_loopw [5] (fun iv wr => ∃ (i : Nat), iv = .int .i64 i ∧ 1 ≤ i ∧ i ≤ l.length + 1 ∧ (∀ k, (h : k + 1 < l.length) → k + 1 < i → l[k].1 < l[k + 1].1) ∧ Below w.heap.size w wr) (fun i _ => l.length + 1 - (intOf i).toNat)
  case atStart => exact ⟨1, rfl, Nat.le_refl _, by omega, fun k _ hk => by omega, Below.refl _ _⟩
  case round =>
  obtain ⟨i, rfl, h1i, hi, hall, B1⟩ := hrel
  have HAL : Hid (∀ k, (h : k + 1 < l.length) → k + 1 < i → l[k].1 < l[k + 1].1) := hall
  clear hall
  by_cases hlt : i < l.length
  case neg =>
    have HE : Hid (RB = true) := HEQ.out (fun k h => HAL.out k h (by omega))
    clear HEQ HNE HAL
    go_wp2_with fail
    go_ret
    exact ⟨by rw [HE.out]; rfl, B1⟩
  have hlt1 : i - 1 < l.length := by omega
  obtain ⟨_, _, e0, hrl, _⟩ := HL.out _ B1
  cases e0
  obtain ⟨b2, o2, rfl, hb2, p0, p1, _⟩ := hrl.at (Below.refl _ wr).drew hlt1
  obtain ⟨_, _, e1, _, q0, q1, _⟩ := hrl.at (Below.refl _ wr).drew hlt
  cases e1
  have HAN : Hid (l[i - 1].1 < l[i].1 → ∀ k, (h : k + 1 < l.length) → k + 1 < i + 1 → l[k].1 < l[k + 1].1) := fun hh k h hk => by
    rcases Nat.lt_or_ge (k + 1) i with h' | h'
    · exact HAL.out k h h'
    · obtain rfl : i = k + 1 := by omega
      exact hh
  have HNN : Hid (¬ l[i - 1].1 < l[i].1 → RB = false) := fun hh => HNE.out (i - 1) (by omega) (by
    have e : i - 1 + 1 = i := by omega
    simp only [e]; omega)
  generalize l[i - 1].1 = P0 at *
  generalize l[i - 1].2 = P1 at *
  generalize l[i].1 = Q0 at *
  generalize l[i].2 = Q1 at *
  have HPC := HBP.out P0 P1 wr.drew
  have HQC : Hid (∀ W, Below wr.heap.size wr W → Calls Tryz.prog 79 #[.agg #[.int .i64 Q0, .int .i64 Q1]] W fun e w' => e = .returned (.int .i64 Q0) ∧ Below W.heap.size W w') := fun W _ => HBP.out Q0 Q1 W
  have hS0 : (fun W : World => (W.cell? ⟨b2, o2 + (i - 1) * 2, none⟩ = some (.int .i64 P0) ∧ W.cell? ⟨b2, o2 + (i - 1) * 2 + 1, none⟩ = some (.int .i64 P1) ∧ W.cell? ⟨b2, o2 + i * 2, none⟩ = some (.int .i64 Q0) ∧ W.cell? ⟨b2, o2 + i * 2 + 1, none⟩ = some (.int .i64 Q1))) wr.drew := ⟨p0, p1, q0, q1⟩
  have HSK : Hid (∀ W, Below wr.heap.size wr.drew W → (fun W : World => (W.cell? ⟨b2, o2 + (i - 1) * 2, none⟩ = some (.int .i64 P0) ∧ W.cell? ⟨b2, o2 + (i - 1) * 2 + 1, none⟩ = some (.int .i64 P1) ∧ W.cell? ⟨b2, o2 + i * 2, none⟩ = some (.int .i64 Q0) ∧ W.cell? ⟨b2, o2 + i * 2 + 1, none⟩ = some (.int .i64 Q1))) W) := fun W b5 => by
    have h0 := hS0
    exact ⟨(b5.cell (p := ⟨b2, o2 + (i - 1) * 2, none⟩) (show b2 < wr.drew.heap.size from hb2)).trans h0.1, (b5.cell (p := ⟨b2, o2 + (i - 1) * 2 + 1, none⟩) (show b2 < wr.drew.heap.size from hb2)).trans h0.2.1, (b5.cell (p := ⟨b2, o2 + i * 2, none⟩) (show b2 < wr.drew.heap.size from hb2)).trans h0.2.2.1, (b5.cell (p := ⟨b2, o2 + i * 2 + 1, none⟩) (show b2 < wr.drew.heap.size from hb2)).trans h0.2.2.2⟩
  have hw1 : IntKind.i64.wrap ((i : Int) - 1) = ((i - 1 : Nat) : Int) := by rw [IntKind.wrap_i64]; omega
  clear hrl HL p0 p1 q0 q1 HAL HEQ HNE HBP
  go_wp2_with fail
  refine wp_region_L (fun W => W.cell? ⟨b2, o2 + (i - 1) * 2, none⟩ = some (.int .i64 P0) ∧ W.cell? ⟨b2, o2 + (i - 1) * 2 + 1, none⟩ = some (.int .i64 P1) ∧ W.cell? ⟨b2, o2 + i * 2, none⟩ = some (.int .i64 Q0) ∧ W.cell? ⟨b2, o2 + i * 2 + 1, none⟩ = some (.int .i64 Q1)) 14 (by kernel_rfl) 14 rfl ?_
  refine tk (i := 0) (v := ?_) (oi := ⟨some 12, .move (.tmp 1), 135, "fit.go:13", #[], none⟩) hS0 ?_ ?_
  rotate_left
  · intro W hSW
    go_simp
    try with_reducible rfl
  simp only [Act.put, sA, s0, sS]
  refine tk (i := 1) (v := ?_) (oi := ⟨some 13, .move (.tmp 0), 66, "fit.go:13", #[], none⟩) hS0 ?_ ?_
  rotate_left
  · intro W hSW
    go_simp
    try with_reducible rfl
  simp only [Act.put, sA, s0, sS]
  refine tk (i := 2) (v := ?_) (oi := ⟨some 14, .move (.tmp 5), 3, "fit.go:13", #[], none⟩) hS0 ?_ ?_
  rotate_left
  · intro W hSW
    go_simp
    try with_reducible rfl
  simp only [Act.put, sA, s0, sS]
  refine tk (i := 3) (v := ?_) (oi := ⟨some 15, .binOp .sub 3 (.tmp 14) (.const (.int .i64 1)) 3, 3, "fit.go:13", #[⟨2, .data⟩], none⟩) hS0 ?_ ?_
  rotate_left
  · intro W hSW
    go_simp
    try with_reducible rfl
  simp only [Act.put, sA, s0, sS]
  try simp only [hw1]
  refine tk (i := 4) (v := ?_) (oi := ⟨some 16, .indexAddr 66 (.tmp 13) (.tmp 15), 0, "fit.go:13", #[⟨1, .data⟩, ⟨3, .data⟩], none⟩) hS0 ?_ ?_
  rotate_left
  · intro W hSW
    go_simp
    try with_reducible rfl
  simp only [Act.put, sA, s0, sS]
  refine tk (i := 5) (v := ?_) (oi := ⟨some 17, .load 75 (.tmp 16), 75, "fit.go:13", #[⟨4, .data⟩], none⟩) hS0 ?_ ?_
  rotate_left
  · intro W hSW
    go_simp
    try with_reducible rfl
  simp only [Act.put, sA, s0, sS]
  refine tk (i := 7) (v := ?_) (oi := ⟨some 19, .move (.tmp 1), 135, "fit.go:13", #[], none⟩) hS0 ?_ ?_
  rotate_left
  · intro W hSW
    go_simp
    try with_reducible rfl
  simp only [Act.put, sA, s0, sS]
  refine tk (i := 8) (v := ?_) (oi := ⟨some 20, .move (.tmp 0), 66, "fit.go:13", #[], none⟩) hS0 ?_ ?_
  rotate_left
  · intro W hSW
    go_simp
    try with_reducible rfl
  simp only [Act.put, sA, s0, sS]
  refine tk (i := 9) (v := ?_) (oi := ⟨some 21, .move (.tmp 5), 3, "fit.go:13", #[], none⟩) hS0 ?_ ?_
  rotate_left
  · intro W hSW
    go_simp
    try with_reducible rfl
  simp only [Act.put, sA, s0, sS]
  refine tk (i := 10) (v := ?_) (oi := ⟨some 22, .indexAddr 66 (.tmp 20) (.tmp 21), 0, "fit.go:13", #[⟨8, .data⟩, ⟨9, .data⟩], none⟩) hS0 ?_ ?_
  rotate_left
  · intro W hSW
    go_simp
    try with_reducible rfl
  simp only [Act.put, sA, s0, sS]
  refine tk (i := 11) (v := ?_) (oi := ⟨some 23, .load 75 (.tmp 22), 75, "fit.go:13", #[⟨10, .data⟩], none⟩) hS0 ?_ ?_
  rotate_left
  · intro W hSW
    go_simp
    try with_reducible rfl
  simp only [Act.put, sA, s0, sS]
  refine wpAnyL_one' (i := 6) (o := ⟨some 18, .call ⟨.value (.tmp 12), #[.tmp 17], #[75]⟩, 3, "fit.go:13", #[⟨0, .data⟩, ⟨5, .data⟩], none⟩) (by kernel_rfl) rfl rfl (fun KQ hK => ?_)
  go_simp
  refine HPC.mono ?_
  rintro e w6 ⟨rfl, b6⟩
  refine hK.out _ _ (fun _ => HSK.out w6 b6) ?_
  have hS1 := HSK.out w6 b6
  clear hK
  refine wpAnyL_one' (i := 12) (o := ⟨some 24, .call ⟨.value (.tmp 19), #[.tmp 23], #[75]⟩, 3, "fit.go:13", #[⟨7, .data⟩, ⟨11, .data⟩, ⟨6, .chain⟩], none⟩) (by kernel_rfl) rfl rfl (fun KQ hK => ?_)
  go_simp
  refine (HQC.out w6 ((Below.refl _ wr).drew.trans b6)).mono ?_
  rintro e w7 ⟨rfl, b7⟩
  refine hK.out _ _ (fun _ => HSK.out w7 (b6.trans (b7.mono b6.size))) ?_
  have hS2 := HSK.out w7 (b6.trans (b7.mono b6.size))
  clear hK
  refine tk (i := 13) (v := ?_) (oi := ⟨some 25, .binOp .geq 3 (.tmp 18) (.tmp 24) 3, 4, "fit.go:13", #[⟨6, .data⟩, ⟨12, .data⟩], none⟩) hS2 ?_ ?_
  rotate_left
  · intro W hSW
    go_simp
    try with_reducible rfl
  simp only [Act.put, sA, s0, sS]
  refine wpAnyL_done (by kernel_rfl) ?_ _
  have B7 : Below w.heap.size w w7 := (B1.drew.trans (b6.mono (show w.heap.size ≤ wr.drew.heap.size from B1.size))).trans (b7.mono (Nat.le_trans (show w.heap.size ≤ wr.drew.heap.size from B1.size) b6.size))
  clear hS0 hS1 hS2 HPC HQC hw1 HSK b6 b7
  by_cases hpq : P0 < Q0
  · have hge : decide (P0 ≥ Q0) = false := decide_eq_false (by omega)
    have hge' : ¬ P0 ≥ Q0 := by omega
    have HA2 : Hid (∀ k, (h : k + 1 < l.length) → k + 1 < i + 1 → l[k].1 < l[k + 1].1) := HAN.out hpq
    clear HAN HNN
    go_wp2_with fail
    exact ⟨⟨i + 1, by go_num, by omega, by omega, HA2.out, B7⟩, by simp [intOf]; omega⟩
  · have hge : decide (P0 ≥ Q0) = true := decide_eq_true (by omega)
    have hge' : P0 ≥ Q0 := by omega
    have HE : Hid (RB = false) := HNN.out (by omega)
    clear HAN HNN
    go_wp2_with fail
    go_ret
    exact ⟨by rw [HE.out]; rfl, B7⟩
end Go.Proofs.YtbilbgjojdlobaaGreatDoor
/- rises, at Act. -/
namespace Go.Proofs.YtbilbgjojdlobaaGreatDoor
open Go.RowKit

set_option maxRecDepth 100000 in
set_option maxHeartbeats 1600000 in
theorem risesA_any (l : List (Ac)) (v : Value) (w : World) (hl : SlA l v w) :
    Calls Tryz.prog 75 #[v, .func (.func 76) #[] #[]] w fun e w' => e = .returned (.bool (risesB (l.map Ac.look))) ∧ Below w.heap.size w w' := by
  have HBP : Hid (∀ (a : Ac) (u : Value) W, SlI a.red u W → Calls Tryz.prog 76 #[.agg #[.int .i64 a.look, .int .i64 a.to, u, .bool a.acc]] W fun e w' => e = .returned (.int .i64 a.look) ∧ Below W.heap.size W w') := fun a u W hu => byLook_any a u W hu
  have HL : Hid (∀ W, Below w.heap.size w W → SlA l v W) := fun W hb => hl.next hb
  have HEQ : Hid ((∀ k, (h : k + 1 < l.length) → l[k].look < l[k + 1].look) → risesB (l.map Ac.look) = true) := (risesB_map _ l).2
  have HNE : Hid (∀ k, (h : k + 1 < l.length) → ¬ l[k].look < l[k + 1].look → risesB (l.map Ac.look) = false) := fun k h hn => by
    cases e : risesB (l.map Ac.look)
    · rfl
    · exact absurd ((risesB_map _ l).1 e k h) hn
  have hb : l.length ≤ 140737488351232 := by obtain ⟨_, _, _, _, _, _, h⟩ := hl; exact h
  obtain ⟨la, lc, rfl, _⟩ := hl
  generalize risesB (l.map Ac.look) = RB at *
  go_enter Tryz.func75, Tryz.ntmps75
  go_wp2_with fail
  go_loopw [5] (fun iv wr => ∃ (i : Nat), iv = .int .i64 i ∧ 1 ≤ i ∧ i ≤ l.length + 1 ∧ (∀ k, (h : k + 1 < l.length) → k + 1 < i → l[k].look < l[k + 1].look) ∧ Below w.heap.size w wr) (fun i _ => l.length + 1 - (intOf i).toNat)
  case atStart => exact ⟨1, rfl, Nat.le_refl _, by omega, fun k _ hk => by omega, Below.refl _ _⟩
  case round =>
  obtain ⟨i, rfl, h1i, hi, hall, B1⟩ := hrel
  have HAL : Hid (∀ k, (h : k + 1 < l.length) → k + 1 < i → l[k].look < l[k + 1].look) := hall
  clear hall
  by_cases hlt : i < l.length
  case neg =>
    have HE : Hid (RB = true) := HEQ.out (fun k h => HAL.out k h (by omega))
    clear HEQ HNE HAL
    go_wp2_with fail
    go_ret
    exact ⟨by rw [HE.out]; rfl, B1⟩
  have hlt1 : i - 1 < l.length := by omega
  obtain ⟨_, _, e0, hrl, _⟩ := HL.out _ B1
  cases e0
  obtain ⟨b2, o2, pv, rfl, hb2, p0, p1, p2, p3, hpr, _⟩ := hrl.at (Below.refl _ wr).drew hlt1
  obtain ⟨_, _, qv, e1, _, q0, q1, q2, q3, hqr, _⟩ := hrl.at (Below.refl _ wr).drew hlt
  cases e1
  have HPC := HBP.out l[i - 1] pv _ hpr
  have HQC : Hid (∀ W, Below wr.heap.size wr W → Calls Tryz.prog 76 #[.agg #[.int .i64 l[i].look, .int .i64 l[i].to, qv, .bool l[i].acc]] W fun e w' => e = .returned (.int .i64 l[i].look) ∧ Below W.heap.size W w') := fun W hW => HBP.out l[i] qv W (hqr.next (show Below wr.drew.heap.size wr.drew W from ⟨hW.os, hW.tape, hW.output, hW.size, hW.block⟩))
  obtain ⟨pa, pc, rfl, _⟩ := hpr
  obtain ⟨qa, qc, rfl, _⟩ := hqr
  have HAN : Hid (l[i - 1].look < l[i].look → ∀ k, (h : k + 1 < l.length) → k + 1 < i + 1 → l[k].look < l[k + 1].look) := fun hh k h hk => by
    rcases Nat.lt_or_ge (k + 1) i with h' | h'
    · exact HAL.out k h h'
    · obtain rfl : i = k + 1 := by omega
      exact hh
  have HNN : Hid (¬ l[i - 1].look < l[i].look → RB = false) := fun hh => HNE.out (i - 1) (by omega) (by
    have e : i - 1 + 1 = i := by omega
    simp only [e]; omega)
  generalize l[i - 1].look = P0 at *
  generalize l[i - 1].to = P1 at *
  generalize l[i - 1].red.length = pn at *
  generalize l[i - 1].acc = P3 at *
  generalize l[i].look = Q0 at *
  generalize l[i].to = Q1 at *
  generalize l[i].red.length = qn at *
  generalize l[i].acc = Q3 at *
  have hS0 : (fun W : World => (W.cell? ⟨b2, o2 + (i - 1) * 4, none⟩ = some (.int .i64 P0) ∧ W.cell? ⟨b2, o2 + (i - 1) * 4 + 1, none⟩ = some (.int .i64 P1) ∧ W.cell? ⟨b2, o2 + (i - 1) * 4 + 2, none⟩ = some (.slice pa pn pc) ∧ W.cell? ⟨b2, o2 + (i - 1) * 4 + 3, none⟩ = some (.bool P3) ∧ W.cell? ⟨b2, o2 + i * 4, none⟩ = some (.int .i64 Q0) ∧ W.cell? ⟨b2, o2 + i * 4 + 1, none⟩ = some (.int .i64 Q1) ∧ W.cell? ⟨b2, o2 + i * 4 + 2, none⟩ = some (.slice qa qn qc) ∧ W.cell? ⟨b2, o2 + i * 4 + 3, none⟩ = some (.bool Q3))) wr.drew := ⟨p0, p1, p2, p3, q0, q1, q2, q3⟩
  have HSK : Hid (∀ W, Below wr.heap.size wr.drew W → (fun W : World => (W.cell? ⟨b2, o2 + (i - 1) * 4, none⟩ = some (.int .i64 P0) ∧ W.cell? ⟨b2, o2 + (i - 1) * 4 + 1, none⟩ = some (.int .i64 P1) ∧ W.cell? ⟨b2, o2 + (i - 1) * 4 + 2, none⟩ = some (.slice pa pn pc) ∧ W.cell? ⟨b2, o2 + (i - 1) * 4 + 3, none⟩ = some (.bool P3) ∧ W.cell? ⟨b2, o2 + i * 4, none⟩ = some (.int .i64 Q0) ∧ W.cell? ⟨b2, o2 + i * 4 + 1, none⟩ = some (.int .i64 Q1) ∧ W.cell? ⟨b2, o2 + i * 4 + 2, none⟩ = some (.slice qa qn qc) ∧ W.cell? ⟨b2, o2 + i * 4 + 3, none⟩ = some (.bool Q3))) W) := fun W b5 => by
    have h0 := hS0
    exact ⟨(b5.cell (p := ⟨b2, o2 + (i - 1) * 4, none⟩) (show b2 < wr.drew.heap.size from hb2)).trans h0.1, (b5.cell (p := ⟨b2, o2 + (i - 1) * 4 + 1, none⟩) (show b2 < wr.drew.heap.size from hb2)).trans h0.2.1, (b5.cell (p := ⟨b2, o2 + (i - 1) * 4 + 2, none⟩) (show b2 < wr.drew.heap.size from hb2)).trans h0.2.2.1, (b5.cell (p := ⟨b2, o2 + (i - 1) * 4 + 3, none⟩) (show b2 < wr.drew.heap.size from hb2)).trans h0.2.2.2.1, (b5.cell (p := ⟨b2, o2 + i * 4, none⟩) (show b2 < wr.drew.heap.size from hb2)).trans h0.2.2.2.2.1, (b5.cell (p := ⟨b2, o2 + i * 4 + 1, none⟩) (show b2 < wr.drew.heap.size from hb2)).trans h0.2.2.2.2.2.1, (b5.cell (p := ⟨b2, o2 + i * 4 + 2, none⟩) (show b2 < wr.drew.heap.size from hb2)).trans h0.2.2.2.2.2.2.1, (b5.cell (p := ⟨b2, o2 + i * 4 + 3, none⟩) (show b2 < wr.drew.heap.size from hb2)).trans h0.2.2.2.2.2.2.2⟩
  have hw1 : IntKind.i64.wrap ((i : Int) - 1) = ((i - 1 : Nat) : Int) := by rw [IntKind.wrap_i64]; omega
  clear hrl HL p0 p1 p2 p3 q0 q1 q2 q3 HAL HEQ HNE HBP
  go_wp2_with fail
  refine wp_region_L (fun W => W.cell? ⟨b2, o2 + (i - 1) * 4, none⟩ = some (.int .i64 P0) ∧ W.cell? ⟨b2, o2 + (i - 1) * 4 + 1, none⟩ = some (.int .i64 P1) ∧ W.cell? ⟨b2, o2 + (i - 1) * 4 + 2, none⟩ = some (.slice pa pn pc) ∧ W.cell? ⟨b2, o2 + (i - 1) * 4 + 3, none⟩ = some (.bool P3) ∧ W.cell? ⟨b2, o2 + i * 4, none⟩ = some (.int .i64 Q0) ∧ W.cell? ⟨b2, o2 + i * 4 + 1, none⟩ = some (.int .i64 Q1) ∧ W.cell? ⟨b2, o2 + i * 4 + 2, none⟩ = some (.slice qa qn qc) ∧ W.cell? ⟨b2, o2 + i * 4 + 3, none⟩ = some (.bool Q3)) 14 (by kernel_rfl) 14 rfl ?_
  refine tk (i := 0) (v := ?_) (oi := ⟨some 12, .move (.tmp 1), 132, "fit.go:13", #[], none⟩) hS0 ?_ ?_
  rotate_left
  · intro W hSW
    go_simp
    try with_reducible rfl
  simp only [Act.put, sA, s0, sS]
  refine tk (i := 1) (v := ?_) (oi := ⟨some 13, .move (.tmp 0), 65, "fit.go:13", #[], none⟩) hS0 ?_ ?_
  rotate_left
  · intro W hSW
    go_simp
    try with_reducible rfl
  simp only [Act.put, sA, s0, sS]
  refine tk (i := 2) (v := ?_) (oi := ⟨some 14, .move (.tmp 5), 3, "fit.go:13", #[], none⟩) hS0 ?_ ?_
  rotate_left
  · intro W hSW
    go_simp
    try with_reducible rfl
  simp only [Act.put, sA, s0, sS]
  refine tk (i := 3) (v := ?_) (oi := ⟨some 15, .binOp .sub 3 (.tmp 14) (.const (.int .i64 1)) 3, 3, "fit.go:13", #[⟨2, .data⟩], none⟩) hS0 ?_ ?_
  rotate_left
  · intro W hSW
    go_simp
    try with_reducible rfl
  simp only [Act.put, sA, s0, sS]
  try simp only [hw1]
  refine tk (i := 4) (v := ?_) (oi := ⟨some 16, .indexAddr 65 (.tmp 13) (.tmp 15), 0, "fit.go:13", #[⟨1, .data⟩, ⟨3, .data⟩], none⟩) hS0 ?_ ?_
  rotate_left
  · intro W hSW
    go_simp
    try with_reducible rfl
  simp only [Act.put, sA, s0, sS]
  refine tk (i := 5) (v := ?_) (oi := ⟨some 17, .load 45 (.tmp 16), 45, "fit.go:13", #[⟨4, .data⟩], none⟩) hS0 ?_ ?_
  rotate_left
  · intro W hSW
    go_simp
    try with_reducible rfl
  simp only [Act.put, sA, s0, sS]
  refine tk (i := 7) (v := ?_) (oi := ⟨some 19, .move (.tmp 1), 132, "fit.go:13", #[], none⟩) hS0 ?_ ?_
  rotate_left
  · intro W hSW
    go_simp
    try with_reducible rfl
  simp only [Act.put, sA, s0, sS]
  refine tk (i := 8) (v := ?_) (oi := ⟨some 20, .move (.tmp 0), 65, "fit.go:13", #[], none⟩) hS0 ?_ ?_
  rotate_left
  · intro W hSW
    go_simp
    try with_reducible rfl
  simp only [Act.put, sA, s0, sS]
  refine tk (i := 9) (v := ?_) (oi := ⟨some 21, .move (.tmp 5), 3, "fit.go:13", #[], none⟩) hS0 ?_ ?_
  rotate_left
  · intro W hSW
    go_simp
    try with_reducible rfl
  simp only [Act.put, sA, s0, sS]
  refine tk (i := 10) (v := ?_) (oi := ⟨some 22, .indexAddr 65 (.tmp 20) (.tmp 21), 0, "fit.go:13", #[⟨8, .data⟩, ⟨9, .data⟩], none⟩) hS0 ?_ ?_
  rotate_left
  · intro W hSW
    go_simp
    try with_reducible rfl
  simp only [Act.put, sA, s0, sS]
  refine tk (i := 11) (v := ?_) (oi := ⟨some 23, .load 45 (.tmp 22), 45, "fit.go:13", #[⟨10, .data⟩], none⟩) hS0 ?_ ?_
  rotate_left
  · intro W hSW
    go_simp
    try with_reducible rfl
  simp only [Act.put, sA, s0, sS]
  refine wpAnyL_one' (i := 6) (o := ⟨some 18, .call ⟨.value (.tmp 12), #[.tmp 17], #[45]⟩, 3, "fit.go:13", #[⟨0, .data⟩, ⟨5, .data⟩], none⟩) (by kernel_rfl) rfl rfl (fun KQ hK => ?_)
  go_simp
  refine HPC.mono ?_
  rintro e w6 ⟨rfl, b6⟩
  refine hK.out _ _ (fun _ => HSK.out w6 b6) ?_
  have hS1 := HSK.out w6 b6
  clear hK
  refine wpAnyL_one' (i := 12) (o := ⟨some 24, .call ⟨.value (.tmp 19), #[.tmp 23], #[45]⟩, 3, "fit.go:13", #[⟨7, .data⟩, ⟨11, .data⟩, ⟨6, .chain⟩], none⟩) (by kernel_rfl) rfl rfl (fun KQ hK => ?_)
  go_simp
  refine (HQC.out w6 ((Below.refl _ wr).drew.trans b6)).mono ?_
  rintro e w7 ⟨rfl, b7⟩
  refine hK.out _ _ (fun _ => HSK.out w7 (b6.trans (b7.mono b6.size))) ?_
  have hS2 := HSK.out w7 (b6.trans (b7.mono b6.size))
  clear hK
  refine tk (i := 13) (v := ?_) (oi := ⟨some 25, .binOp .geq 3 (.tmp 18) (.tmp 24) 3, 4, "fit.go:13", #[⟨6, .data⟩, ⟨12, .data⟩], none⟩) hS2 ?_ ?_
  rotate_left
  · intro W hSW
    go_simp
    try with_reducible rfl
  simp only [Act.put, sA, s0, sS]
  refine wpAnyL_done (by kernel_rfl) ?_ _
  have B7 : Below w.heap.size w w7 := (B1.drew.trans (b6.mono (show w.heap.size ≤ wr.drew.heap.size from B1.size))).trans (b7.mono (Nat.le_trans (show w.heap.size ≤ wr.drew.heap.size from B1.size) b6.size))
  clear hS0 hS1 hS2 HPC HQC hw1 HSK b6 b7
  by_cases hpq : P0 < Q0
  · have hge : decide (P0 ≥ Q0) = false := decide_eq_false (by omega)
    have hge' : ¬ P0 ≥ Q0 := by omega
    have HA2 : Hid (∀ k, (h : k + 1 < l.length) → k + 1 < i + 1 → l[k].look < l[k + 1].look) := HAN.out hpq
    clear HAN HNN
    go_wp2_with fail
    exact ⟨⟨i + 1, by go_num, by omega, by omega, HA2.out, B7⟩, by simp [intOf]; omega⟩
  · have hge : decide (P0 ≥ Q0) = true := decide_eq_true (by omega)
    have hge' : P0 ≥ Q0 := by omega
    have HE : Hid (RB = false) := HNN.out (by omega)
    clear HAN HNN
    go_wp2_with fail
    go_ret
    exact ⟨by rw [HE.out]; rfl, B7⟩
end Go.Proofs.YtbilbgjojdlobaaGreatDoor
/- fitReduce of the program. -/
namespace Go.Proofs.YtbilbgjojdlobaaGreatDoor
open Go.RowKit

def redB (n : Nat) (l : List Int) : Bool := l.all (fun x => decide (0 ≤ x ∧ x < n)) && risesB l

set_option maxRecDepth 100000 in
set_option maxHeartbeats 1600000 in
theorem fitReduce_any (f : Fl) (a : FlA) (l : List Int) (v : Value) (w : World) (hl : SlI l v w) (hb : l.length ≤ 140737488351232) :
    Calls Tryz.prog 73 #[a.val f, v] w fun e w' => e = .returned (.bool (redB f.prods.length l)) ∧ Below w.heap.size w w' := by
  have HIB : Hid (∀ (n m : Int) W, Calls Tryz.prog 77 #[.int .i64 n, .int .i64 m] W fun e w' => e = .returned (.bool (decide (0 ≤ n ∧ n < m))) ∧ w' = W) := fun n m W => isBelow_any n m W
  obtain ⟨ta, tc, na, nc, pa, pc⟩ := a
  have X0 := FBox.new f ⟨ta, tc, na, nc, pa, pc⟩ 25 w
  have B0 : Below w.heap.size w (w.alloc (fobj f ⟨ta, tc, na, nc, pa, pc⟩ 25)) := (Below.refl _ _).alloc (Nat.le_refl _) _
  have HRS := risesI_any l v _ (hl.next B0) hb
  have hl0 := hl.next B0
  obtain ⟨la, lc, rfl, _⟩ := hl
  unfold fobj at X0 B0 HRS hl0
  unfold FlA.val
  simp only at *
  obtain ⟨_, d0, d1, d2⟩ := X0
  simp only at d0 d1 d2
  have HEQ : Hid ((∀ k, (h : k < l.length) → decide (0 ≤ l[k] ∧ l[k] < (f.prods.length : Int)) = true) → redB f.prods.length l = risesB l) := fun h => by
    unfold redB
    rw [List.all_eq_true.2 (fun x hx => by
      obtain ⟨k, hk, rfl⟩ := List.getElem_of_mem hx
      exact h k hk)]
    rfl
  have HNE : Hid (∀ k, (h : k < l.length) → decide (0 ≤ l[k] ∧ l[k] < (f.prods.length : Int)) = false → redB f.prods.length l = false) := fun k h hn => by
    unfold redB
    have : (l.all (fun x => decide (0 ≤ x ∧ x < (f.prods.length : Int)))) = false := by
      rw [List.all_eq_false]
      exact ⟨l[k], List.getElem_mem h, by rw [hn]; simp⟩
    rw [this]; rfl
  go_enter Tryz.func73, Tryz.ntmps73
  go_wp2_with fail
  generalize w.alloc (Obj.cells #[.slice ta f.terms.length tc, .slice na f.nons.length nc, .slice pa f.prods.length pc] 25) = w0 at *
  go_loopw [9] (fun iv wr => ∃ (i : Nat), iv = .int .i64 i ∧ i ≤ l.length ∧ (∀ k, (h : k < l.length) → k < i → decide (0 ≤ l[k] ∧ l[k] < (f.prods.length : Int)) = true) ∧ wr = w0) (fun i _ => l.length - (intOf i).toNat)
  case atStart => exact ⟨0, rfl, Nat.zero_le _, fun k _ hk => by omega, rfl⟩
  case round =>
  obtain ⟨i, rfl, hi, hall, rfl⟩ := hrel
  have HAL : Hid (∀ k, (h : k < l.length) → k < i → decide (0 ≤ l[k] ∧ l[k] < (f.prods.length : Int)) = true) := hall
  clear hall
  by_cases hlt : i < l.length
  case neg =>
    have HE : Hid (redB f.prods.length l = risesB l) := HEQ.out (fun k h => HAL.out k h (by omega))
    clear HEQ HNE HAL
    go_wp2_with fail
    refine HRS.mono ?_
    rintro e w1 ⟨rfl, n, rfl⟩
    have B1 := below_drewN B0 n
    clear HRS
    go_wp2_with fail
    go_ret
    exact ⟨by rw [HE.out]; rfl, B1⟩
  obtain ⟨_, _, e0, hrl, _⟩ := id hl0
  cases e0
  obtain ⟨b2, o2, rfl, hb2, p0⟩ := hrl.at (Below.refl _ _) hlt
  unfold encI at p0
  have HAN : Hid (decide (0 ≤ l[i] ∧ l[i] < (f.prods.length : Int)) = true → ∀ k, (h : k < l.length) → k < i + 1 → decide (0 ≤ l[k] ∧ l[k] < (f.prods.length : Int)) = true) := fun hh k h hk => by
    rcases Nat.lt_or_ge k i with h' | h'
    · exact HAL.out k h h'
    · obtain rfl : k = i := by omega
      exact hh
  have HNN : Hid (decide (0 ≤ l[i] ∧ l[i] < (f.prods.length : Int)) = false → redB f.prods.length l = false) := fun hh => HNE.out i hlt hh
  generalize l[i] = p at *
  have HI1 := HIB.out p f.prods.length wr
  clear hrl HAL HEQ HNE HRS hl0
  go_wp2_with fail
  refine HI1.mono ?_
  rintro e w1 ⟨rfl, rfl⟩
  clear HI1
  cases hd : decide (0 ≤ p ∧ p < (f.prods.length : Int)) with
  | true =>
    have HA2 := HAN.out hd
    have HA3 : Hid (∀ k, (h : k < l.length) → k < i + 1 → decide (0 ≤ l[k] ∧ l[k] < (f.prods.length : Int)) = true) := HA2
    clear HAN HNN hd HA2
    go_wp2_with fail
    exact ⟨⟨i + 1, by go_num, by omega, HA3.out, trivial⟩, by simp [intOf]; omega⟩
  | false =>
    have HE : Hid (redB f.prods.length l = false) := HNN.out hd
    clear HAN HNN hd
    go_wp2_with fail
    go_ret
    exact ⟨by rw [HE.out]; rfl, B0⟩
end Go.Proofs.YtbilbgjojdlobaaGreatDoor
/- fitPlace of the program. -/
namespace Go.Proofs.YtbilbgjojdlobaaGreatDoor
open Go.RowKit

def placeB (t : Nat) (n : Int) (a : Ac) : Bool :=
  if a.look = (t : Int) then a.to == -1 else decide (0 ≤ a.look ∧ a.look < (t : Int)) && (!a.acc && (a.to == -1 || decide (0 ≤ a.to ∧ a.to < n)))

set_option maxRecDepth 100000 in
set_option maxHeartbeats 1600000 in
theorem fitPlace_any (f : Fl) (fa : FlA) (n : Int) (a : Ac) (u : Value) (w : World) (hu : SlI a.red u w) :
    Calls Tryz.prog 72 #[fa.val f, .int .i64 n, .agg #[.int .i64 a.look, .int .i64 a.to, u, .bool a.acc]] w fun e w' => e = .returned (.bool (placeB f.terms.length n a)) ∧ Below w.heap.size w w' := by
  have HIB : Hid (∀ (n m : Int) W, Calls Tryz.prog 77 #[.int .i64 n, .int .i64 m] W fun e w' => e = .returned (.bool (decide (0 ≤ n ∧ n < m))) ∧ w' = W) := fun n m W => isBelow_any n m W
  obtain ⟨ua, uc, rfl, _⟩ := hu
  obtain ⟨ta, tc, na, nc, pa, pc⟩ := fa
  obtain ⟨a0, a1, ar, a3⟩ := a
  unfold FlA.val
  simp only at *
  have B0 : Below w.heap.size w ((w.alloc (Obj.cells #[.slice ta f.terms.length tc, .slice na f.nons.length nc, .slice pa f.prods.length pc] 25)).alloc (Obj.cells #[.int .i64 a0, .int .i64 a1, .slice ua ar.length uc, .bool a3] 45)) := ((Below.refl _ _).alloc (Nat.le_refl _) _).alloc (by simp) _
  have d0 : ((w.alloc (Obj.cells #[.slice ta f.terms.length tc, .slice na f.nons.length nc, .slice pa f.prods.length pc] 25)).alloc (Obj.cells #[.int .i64 a0, .int .i64 a1, .slice ua ar.length uc, .bool a3] 45)).cell? ⟨w.heap.size, 0, none⟩ = some (.slice ta f.terms.length tc) := by simp
  have x0 : ((w.alloc (Obj.cells #[.slice ta f.terms.length tc, .slice na f.nons.length nc, .slice pa f.prods.length pc] 25)).alloc (Obj.cells #[.int .i64 a0, .int .i64 a1, .slice ua ar.length uc, .bool a3] 45)).cell? ⟨w.heap.size + 1, 0, none⟩ = some (.int .i64 a0) := by simp
  have x1 : ((w.alloc (Obj.cells #[.slice ta f.terms.length tc, .slice na f.nons.length nc, .slice pa f.prods.length pc] 25)).alloc (Obj.cells #[.int .i64 a0, .int .i64 a1, .slice ua ar.length uc, .bool a3] 45)).cell? ⟨w.heap.size + 1, 1, none⟩ = some (.int .i64 a1) := by simp
  have x3 : ((w.alloc (Obj.cells #[.slice ta f.terms.length tc, .slice na f.nons.length nc, .slice pa f.prods.length pc] 25)).alloc (Obj.cells #[.int .i64 a0, .int .i64 a1, .slice ua ar.length uc, .bool a3] 45)).cell? ⟨w.heap.size + 1, 3, none⟩ = some (.bool a3) := by simp
  have HP : Hid (placeB f.terms.length n ⟨a0, a1, ar, a3⟩ = if a0 = (f.terms.length : Int) then a1 == -1 else decide (0 ≤ a0 ∧ a0 < (f.terms.length : Int)) && (!a3 && (a1 == -1 || decide (0 ≤ a1 ∧ a1 < n)))) := rfl
  generalize placeB f.terms.length n ⟨a0, a1, ar, a3⟩ = R at *
  go_enter Tryz.func72, Tryz.ntmps72
  go_upto_region 1 with fail
  generalize (w.alloc (Obj.cells #[.slice ta f.terms.length tc, .slice na f.nons.length nc, .slice pa f.prods.length pc] 25)).alloc (Obj.cells #[.int .i64 a0, .int .i64 a1, .slice ua ar.length uc, .bool a3] 45) = w0 at *
  generalize f.terms.length = T at *
  by_cases e0 : a0 = (T : Int)
  · have HE : Hid (R = (a1 == -1)) := HP.out.trans (if_pos e0)
    have e0' : (a0 == (T : Int)) = true := by simpa using e0
    clear HP
    subst e0
    go_wp2_with fail
    go_ret
    exact ⟨by rw [HE.out]; rfl, B0⟩
  have e0' : (a0 == (T : Int)) = false := by simpa using e0
  have HP2 : Hid (R = (decide (0 ≤ a0 ∧ a0 < (T : Int)) && (!a3 && (a1 == -1 || decide (0 ≤ a1 ∧ a1 < n))))) := HP.out.trans (if_neg e0)
  have HI1 := HIB.out a0 T w0
  clear HP
  go_wp2_with fail
  refine HI1.mono ?_
  rintro e w1 ⟨rfl, rfl⟩
  clear HI1 e0 e0'
  cases hd : decide (0 ≤ a0 ∧ a0 < (T : Int)) with
  | false =>
    have HE : Hid (R = false) := by rw [hd] at HP2; exact HP2.out
    clear HP2 hd
    go_wp2_with fail
    go_ret
    exact ⟨by rw [HE.out]; rfl, B0⟩
  | true =>
  have HP3 : Hid (R = (!a3 && (a1 == -1 || decide (0 ≤ a1 ∧ a1 < n)))) := by rw [hd] at HP2; exact HP2.out
  clear HP2 hd
  cases a3 with
  | true =>
    have HE : Hid (R = false) := HP3.out
    clear HP3
    go_wp2_with fail
    go_ret
    exact ⟨by rw [HE.out]; rfl, B0⟩
  | false =>
  have HP4 : Hid (R = (a1 == -1 || decide (0 ≤ a1 ∧ a1 < n))) := HP3.out
  clear HP3
  by_cases h1 : a1 = -1
  · have HE : Hid (R = true) := by
      show R = true
      rw [HP4.out, h1]; rfl
    clear HP4
    subst h1
    go_wp2_with fail
    go_ret
    exact ⟨by rw [HE.out]; rfl, B0⟩
  · have h1' : (a1 == -1) = false := by simpa using h1
    have HE : Hid (R = (decide (0 ≤ a1) && decide (a1 < n))) := by
      show R = _
      rw [HP4.out, h1', Bool.decide_and]; rfl
    have HI2 := HIB.out a1 n w1
    clear HP4
    go_wp2_with fail
    refine HI2.mono ?_
    rintro e w2 ⟨rfl, rfl⟩
    clear HI2
    go_wp2_with fail
    go_ret
    exact ⟨by rw [HE.out]; rfl, B0⟩
end Go.Proofs.YtbilbgjojdlobaaGreatDoor
/- fitActs and fitGoes of the program. -/
namespace Go.Proofs.YtbilbgjojdlobaaGreatDoor
open Go.RowKit

def actB (t p : Nat) (n : Int) (a : Ac) : Bool := placeB t n a && redB p a.red && doesF a
def actsB (t p : Nat) (n : Int) (l : List Ac) : Bool := l.all (actB t p n) && risesB (l.map Ac.look)
def goB (s : Nat) (n : Int) (g : Int × Int) : Bool := decide (0 ≤ g.1 ∧ g.1 < (s : Int)) && decide (0 ≤ g.2 ∧ g.2 < n)
def goesB (s : Nat) (n : Int) (l : List (Int × Int)) : Bool := l.all (goB s n) && risesB (l.map Prod.fst)
theorem all_and_eq {α : Type} {l : List α} {p : α → Bool} {b : Bool} (h : ∀ k, (h : k < l.length) → p l[k] = true) : (l.all p && b) = b := by
  rw [List.all_eq_true.2 (fun x hx => by
    obtain ⟨k, hk, rfl⟩ := List.getElem_of_mem hx
    exact h k hk)]
  rfl
theorem all_and_ne {α : Type} {l : List α} {p : α → Bool} {b : Bool} {k : Nat} (h : k < l.length) (hn : p l[k] = false) : (l.all p && b) = false := by
  have : l.all p = false := by
    rw [List.all_eq_false]
    exact ⟨l[k], List.getElem_mem h, by rw [hn]; simp⟩
  rw [this]; rfl

set_option maxRecDepth 100000 in
set_option maxHeartbeats 1600000 in
theorem fitActs_any (f : Fl) (a : FlA) (n : Int) (l : List Ac) (v : Value) (w : World) (hl : SlA l v w) :
    Calls Tryz.prog 40 #[a.val f, .int .i64 n, v] w fun e w' => e = .returned (.bool (actsB f.terms.length f.prods.length n l)) ∧ Below w.heap.size w w' := by
  have HPL : Hid (∀ (x : Ac) (u : Value) W, SlI x.red u W → Calls Tryz.prog 72 #[a.val f, .int .i64 n, .agg #[.int .i64 x.look, .int .i64 x.to, u, .bool x.acc]] W fun e w' => e = .returned (.bool (placeB f.terms.length n x)) ∧ Below W.heap.size W w') := fun x u W hu => fitPlace_any f a n x u W hu
  have HRD : Hid (∀ (x : List Int) (u : Value) W, SlI x u W → x.length ≤ 140737488351232 → Calls Tryz.prog 73 #[a.val f, u] W fun e w' => e = .returned (.bool (redB f.prods.length x)) ∧ Below W.heap.size W w') := fun x u W hu hb => fitReduce_any f a x u W hu hb
  have HDO : Hid (∀ (x : Ac) (u : Value) W, SlI x.red u W → Calls Tryz.prog 74 #[.agg #[.int .i64 x.look, .int .i64 x.to, u, .bool x.acc]] W fun e w' => e = .returned (.bool (doesF x)) ∧ Below W.heap.size W w') := fun x u W hu => does_any x u W hu
  have HRS : Hid (∀ W, Below w.heap.size w W → Calls Tryz.prog 75 #[v, .func (.func 76) #[] #[]] W fun e w' => e = .returned (.bool (risesB (l.map Ac.look))) ∧ Below W.heap.size W w') := fun W hW => risesA_any l v W (hl.next hW)
  have HL : Hid (∀ W, Below w.heap.size w W → SlA l v W) := fun W hb => hl.next hb
  have hb : l.length ≤ 140737488351232 := by obtain ⟨_, _, _, _, _, _, h⟩ := hl; exact h
  obtain ⟨la, lc, rfl, _⟩ := hl
  have HEQ : Hid ((∀ k, (h : k < l.length) → actB f.terms.length f.prods.length n l[k] = true) → actsB f.terms.length f.prods.length n l = risesB (l.map Ac.look)) := fun h => all_and_eq h
  have HNE : Hid (∀ k, (h : k < l.length) → actB f.terms.length f.prods.length n l[k] = false → actsB f.terms.length f.prods.length n l = false) := fun k h hn => all_and_ne h hn
  have B0 := (Below.refl w.heap.size w).alloc (Nat.le_refl _) (fobj f a 25)
  have X0 := FBox.new f a 25 w
  obtain ⟨ta, tc, na, nc, pa, pc⟩ := a
  unfold fobj at X0 B0
  unfold FlA.val at HPL HRD ⊢
  simp only at *
  obtain ⟨hxl, d0, d1, d2⟩ := X0
  simp only at d0 d1 d2 hxl
  generalize hAB : actsB f.terms.length f.prods.length n l = R at *
  go_enter Tryz.func40, Tryz.ntmps40
  go_wp2_with fail
  generalize w.alloc (Obj.cells #[.slice ta f.terms.length tc, .slice na f.nons.length nc, .slice pa f.prods.length pc] 25) = w0 at *
  have HD : Hid (∀ W, Below w0.heap.size w0 W → W.cell? ⟨w.heap.size, 0, none⟩ = some (.slice ta f.terms.length tc) ∧ W.cell? ⟨w.heap.size, 1, none⟩ = some (.slice na f.nons.length nc) ∧ W.cell? ⟨w.heap.size, 2, none⟩ = some (.slice pa f.prods.length pc)) := fun W hW => ⟨(hW.cell (p := ⟨w.heap.size, 0, none⟩) hxl).trans d0, (hW.cell (p := ⟨w.heap.size, 1, none⟩) hxl).trans d1, (hW.cell (p := ⟨w.heap.size, 2, none⟩) hxl).trans d2⟩
  have HT : Hid (∀ W, Below w0.heap.size w0 W → Below w.heap.size w W) := fun W hb => B0.trans (hb.mono B0.size)
  clear d0 d1 d2 hAB
  go_loopw [11] (fun iv wr => ∃ (i : Nat), iv = .int .i64 i ∧ i ≤ l.length ∧ (∀ k, (h : k < l.length) → k < i → actB f.terms.length f.prods.length n l[k] = true) ∧ Below w0.heap.size w0 wr) (fun i _ => l.length - (intOf i).toNat)
  case atStart => exact ⟨0, rfl, Nat.zero_le _, fun k _ hk => by omega, Below.refl _ _⟩
  case round =>
  obtain ⟨i, rfl, hi, hall, BR⟩ := hrel
  have HAL : Hid (∀ k, (h : k < l.length) → k < i → actB f.terms.length f.prods.length n l[k] = true) := hall
  clear hall
  have BW := HT.out _ BR
  by_cases hlt : i < l.length
  case neg =>
    have HE : Hid (R = risesB (l.map Ac.look)) := HEQ.out (fun k h => HAL.out k h (by omega))
    have HRC := HRS.out wr BW
    clear HEQ HNE HAL HRS HPL HRD HDO
    go_wp2_with fail
    refine HRC.mono ?_
    rintro e w1 ⟨rfl, b1⟩
    have B9 : Below w.heap.size w w1 := BW.trans (b1.mono BW.size)
    clear HRC
    go_wp2_with fail
    go_ret
    exact ⟨by rw [HE.out]; rfl, B9⟩
  obtain ⟨_, _, e0, hacs, _⟩ := HL.out _ BW
  cases e0
  obtain ⟨b2, o2, u, rfl, hb2, a0, a1, a2, a3, hred, _, _, hrb⟩ := hacs.at (Below.refl _ _) hlt
  have HAN : Hid (actB f.terms.length f.prods.length n l[i] = true → ∀ k, (h : k < l.length) → k < i + 1 → actB f.terms.length f.prods.length n l[k] = true) := fun hh k h hk => by
    rcases Nat.lt_or_ge k i with h' | h'
    · exact HAL.out k h h'
    · obtain rfl : k = i := by omega
      exact hh
  have HNN : Hid (actB f.terms.length f.prods.length n l[i] = false → R = false) := fun hh => HNE.out i hlt hh
  have HAC : Hid (actB f.terms.length f.prods.length n l[i] = (placeB f.terms.length n l[i] && redB f.prods.length l[i].red && doesF l[i])) := rfl
  have hP0 := HPL.out l[i] u
  have hR0 := HRD.out l[i].red u
  have hD0 := HDO.out l[i] u
  have HRED : Hid (∀ W, Below wr.heap.size wr W → SlI l[i].red u W) := fun W hW => hred.next hW
  obtain ⟨ua, uc, rfl, _⟩ := hred
  generalize actB f.terms.length f.prods.length n l[i] = AB at *
  generalize placeB f.terms.length n l[i] = PB at *
  generalize redB f.prods.length l[i].red = RB at *
  generalize doesF l[i] = DB at *
  have HP1 : Hid (∀ W, Below wr.heap.size wr W → Calls Tryz.prog 72 #[.agg #[.slice ta f.terms.length tc, .slice na f.nons.length nc, .slice pa f.prods.length pc], .int .i64 n, .agg #[.int .i64 l[i].look, .int .i64 l[i].to, .slice ua l[i].red.length uc, .bool l[i].acc]] W fun e w' => e = .returned (.bool PB) ∧ Below W.heap.size W w') := fun W hW => hP0 W (HRED.out W hW)
  have HR1 : Hid (∀ W, Below wr.heap.size wr W → Calls Tryz.prog 73 #[.agg #[.slice ta f.terms.length tc, .slice na f.nons.length nc, .slice pa f.prods.length pc], .slice ua l[i].red.length uc] W fun e w' => e = .returned (.bool RB) ∧ Below W.heap.size W w') := fun W hW => hR0 W (HRED.out W hW) hrb
  have HD1 : Hid (∀ W, Below wr.heap.size wr W → Calls Tryz.prog 74 #[.agg #[.int .i64 l[i].look, .int .i64 l[i].to, .slice ua l[i].red.length uc, .bool l[i].acc]] W fun e w' => e = .returned (.bool DB) ∧ Below W.heap.size W w') := fun W hW => hD0 W (HRED.out W hW)
  generalize l[i].red.length = rn at *
  generalize l[i].look = x0 at *
  generalize l[i].to = x1 at *
  generalize l[i].acc = x3 at *
  clear hP0 hR0 hD0 HRED hacs HPL HRD HDO HRS HL HAL HEQ HNE
  have BA : Below wr.heap.size wr (wr.alloc (Obj.cells #[.int .i64 x0, .int .i64 x1, .slice ua rn uc, .bool x3] 45)) := (Below.refl _ _).alloc (Nat.le_refl _) _
  have c0 : (wr.alloc (Obj.cells #[.int .i64 x0, .int .i64 x1, .slice ua rn uc, .bool x3] 45)).cell? ⟨wr.heap.size, 0, none⟩ = some (.int .i64 x0) := by simp
  have c1 : (wr.alloc (Obj.cells #[.int .i64 x0, .int .i64 x1, .slice ua rn uc, .bool x3] 45)).cell? ⟨wr.heap.size, 1, none⟩ = some (.int .i64 x1) := by simp
  have c2 : (wr.alloc (Obj.cells #[.int .i64 x0, .int .i64 x1, .slice ua rn uc, .bool x3] 45)).cell? ⟨wr.heap.size, 2, none⟩ = some (.slice ua rn uc) := by simp
  have c3 : (wr.alloc (Obj.cells #[.int .i64 x0, .int .i64 x1, .slice ua rn uc, .bool x3] 45)).cell? ⟨wr.heap.size, 3, none⟩ = some (.bool x3) := by simp
  have hls : wr.heap.size < (wr.alloc (Obj.cells #[.int .i64 x0, .int .i64 x1, .slice ua rn uc, .bool x3] 45)).heap.size := by simp
  obtain ⟨y0, y1, y2⟩ := HD.out _ (BR.trans (BA.mono BR.size))
  go_upto_region 4 with fail
  generalize wr.alloc (Obj.cells #[.int .i64 x0, .int .i64 x1, .slice ua rn uc, .bool x3] 45) = wa at *
  clear a0 a1 a2 a3
  have hP := HP1.out wa BA
  go_wp2_with fail
  refine hP.mono ?_
  rintro e w1 ⟨rfl, b1⟩
  have BA1 : Below wr.heap.size wr w1 := BA.trans (b1.mono BA.size)
  have B1 : Below w0.heap.size w0 w1 := BR.trans (BA1.mono BR.size)
  have BW1 := HT.out _ B1
  clear hP HP1 y0 y1 y2
  cases PB with
  | false =>
    have HE : Hid (R = false) := HNN.out (HAC.out.trans rfl)
    clear HAN HNN HAC HR1 HD1 HD
    go_wp2_with fail
    go_ret
    exact ⟨by rw [HE.out]; rfl, BW1⟩
  | true =>
  have C0 := (b1.cell (p := ⟨wr.heap.size, 0, none⟩) hls).trans c0
  have C1 := (b1.cell (p := ⟨wr.heap.size, 1, none⟩) hls).trans c1
  have C2 := (b1.cell (p := ⟨wr.heap.size, 2, none⟩) hls).trans c2
  have C3 := (b1.cell (p := ⟨wr.heap.size, 3, none⟩) hls).trans c3
  obtain ⟨y0, y1, y2⟩ := HD.out _ B1
  have hls1 : wr.heap.size < w1.heap.size := Nat.lt_of_lt_of_le hls b1.size
  have hR := HR1.out w1 BA1
  clear c0 c1 c2 c3 hls
  go_wp2_with fail
  refine hR.mono ?_
  rintro e w2 ⟨rfl, b2'⟩
  have BA2 : Below wr.heap.size wr w2 := BA1.trans (b2'.mono BA1.size)
  have B2 : Below w0.heap.size w0 w2 := BR.trans (BA2.mono BR.size)
  have BW2 := HT.out _ B2
  clear hR HR1 y0 y1 y2
  cases RB with
  | false =>
    have HE : Hid (R = false) := HNN.out (HAC.out.trans rfl)
    clear HAN HNN HAC HD1 HD
    go_wp2_with fail
    go_ret
    exact ⟨by rw [HE.out]; rfl, BW2⟩
  | true =>
  have c0 := (b2'.cell (p := ⟨wr.heap.size, 0, none⟩) hls1).trans C0
  have c1 := (b2'.cell (p := ⟨wr.heap.size, 1, none⟩) hls1).trans C1
  have c2 := (b2'.cell (p := ⟨wr.heap.size, 2, none⟩) hls1).trans C2
  have c3 := (b2'.cell (p := ⟨wr.heap.size, 3, none⟩) hls1).trans C3
  have hD := HD1.out w2 BA2
  clear C0 C1 C2 C3
  go_wp2_with fail
  refine hD.mono ?_
  rintro e w3 ⟨rfl, b3'⟩
  have BA3 : Below wr.heap.size wr w3 := BA2.trans (b3'.mono BA2.size)
  have B3 : Below w0.heap.size w0 w3 := BR.trans (BA3.mono BR.size)
  have BW3 := HT.out _ B3
  clear hD HD1
  cases DB with
  | false =>
    have HE : Hid (R = false) := HNN.out (HAC.out.trans rfl)
    clear HAN HNN HAC HD
    go_wp2_with fail
    go_ret
    exact ⟨by rw [HE.out]; rfl, BW3⟩
  | true =>
    have HA3 : Hid (∀ k, (h : k < l.length) → k < i + 1 → actB f.terms.length f.prods.length n l[k] = true) := HAN.out (HAC.out.trans rfl)
    clear HAN HNN HAC HD
    go_wp2_with fail
    exact ⟨⟨i + 1, by go_num, by omega, HA3.out, B3⟩, by simp [intOf]; omega⟩
end Go.Proofs.YtbilbgjojdlobaaGreatDoor
/- fitGoes of the program. -/
namespace Go.Proofs.YtbilbgjojdlobaaGreatDoor
open Go.RowKit

set_option maxRecDepth 100000 in
set_option maxHeartbeats 1600000 in
theorem fitGoes_any (f : Fl) (a : FlA) (n : Int) (l : List (Int × Int)) (v : Value) (w : World) (hl : SlG l v w) (hfn : f.terms.length + f.nons.length ≤ 1000000) :
    Calls Tryz.prog 41 #[a.val f, .int .i64 n, v] w fun e w' => e = .returned (.bool (goesB (f.terms.length + f.nons.length) n l)) ∧ Below w.heap.size w w' := by
  have HIB : Hid (∀ (n m : Int) W, Calls Tryz.prog 77 #[.int .i64 n, .int .i64 m] W fun e w' => e = .returned (.bool (decide (0 ≤ n ∧ n < m))) ∧ w' = W) := fun n m W => isBelow_any n m W
  have HRS : Hid (∀ W, Below w.heap.size w W → Calls Tryz.prog 78 #[v, .func (.func 79) #[] #[]] W fun e w' => e = .returned (.bool (risesB (l.map Prod.fst))) ∧ Below W.heap.size W w') := fun W hW => risesG_any l v W (hl.next hW)
  have HL : Hid (∀ W, Below w.heap.size w W → SlG l v W) := fun W hb => hl.next hb
  have hb : l.length ≤ 140737488351232 := by obtain ⟨_, _, _, _, _, _, h⟩ := hl; exact h
  obtain ⟨la, lc, rfl, _⟩ := hl
  obtain ⟨S, hS⟩ : ∃ S, f.terms.length + f.nons.length = S := ⟨_, rfl⟩
  have hwS : IntKind.i64.wrap ((f.terms.length : Int) + (f.nons.length : Int)) = (S : Int) := by rw [IntKind.wrap_i64]; omega
  have hwS' : wrap64 ((f.terms.length : Int) + (f.nons.length : Int)) = (S : Int) := by unfold wrap64; omega
  rw [hS]
  have HEQ : Hid ((∀ k, (h : k < l.length) → goB S n l[k] = true) → goesB S n l = risesB (l.map Prod.fst)) := fun h => all_and_eq h
  have HNE : Hid (∀ k, (h : k < l.length) → goB S n l[k] = false → goesB S n l = false) := fun k h hn => all_and_ne h hn
  have B0 := (Below.refl w.heap.size w).alloc (Nat.le_refl _) (fobj f a 25)
  have X0 := FBox.new f a 25 w
  obtain ⟨ta, tc, na, nc, pa, pc⟩ := a
  unfold fobj at X0 B0
  unfold FlA.val
  simp only at *
  obtain ⟨hxl, d0, d1, d2⟩ := X0
  simp only at d0 d1 d2 hxl
  generalize goesB S n l = R at *
  go_enter Tryz.func41, Tryz.ntmps41
  go_wp2_with fail
  generalize w.alloc (Obj.cells #[.slice ta f.terms.length tc, .slice na f.nons.length nc, .slice pa f.prods.length pc] 25) = w0 at *
  have HD : Hid (∀ W, Below w0.heap.size w0 W → W.cell? ⟨w.heap.size, 0, none⟩ = some (.slice ta f.terms.length tc) ∧ W.cell? ⟨w.heap.size, 1, none⟩ = some (.slice na f.nons.length nc)) := fun W hW => ⟨(hW.cell (p := ⟨w.heap.size, 0, none⟩) hxl).trans d0, (hW.cell (p := ⟨w.heap.size, 1, none⟩) hxl).trans d1⟩
  have HT : Hid (∀ W, Below w0.heap.size w0 W → Below w.heap.size w W) := fun W hb => B0.trans (hb.mono B0.size)
  clear d0 d1 d2
  go_loopw [11] (fun iv wr => ∃ (i : Nat), iv = .int .i64 i ∧ i ≤ l.length ∧ (∀ k, (h : k < l.length) → k < i → goB S n l[k] = true) ∧ Below w0.heap.size w0 wr) (fun i _ => l.length - (intOf i).toNat)
  case atStart => exact ⟨0, rfl, Nat.zero_le _, fun k _ hk => by omega, Below.refl _ _⟩
  case round =>
  obtain ⟨i, rfl, hi, hall, BR⟩ := hrel
  have HAL : Hid (∀ k, (h : k < l.length) → k < i → goB S n l[k] = true) := hall
  clear hall
  have BW := HT.out _ BR
  by_cases hlt : i < l.length
  case neg =>
    have HE : Hid (R = risesB (l.map Prod.fst)) := HEQ.out (fun k h => HAL.out k h (by omega))
    have HRC := HRS.out wr BW
    clear HEQ HNE HAL HRS
    go_wp2_with fail
    refine HRC.mono ?_
    rintro e w1 ⟨rfl, b1⟩
    have B9 : Below w.heap.size w w1 := BW.trans (b1.mono BW.size)
    clear HRC
    go_wp2_with fail
    go_ret
    exact ⟨by rw [HE.out]; rfl, B9⟩
  obtain ⟨_, _, e0, hacs, _⟩ := HL.out _ BW
  cases e0
  obtain ⟨b2, o2, rfl, hb2, a0, a1, _⟩ := hacs.at (Below.refl _ _) hlt
  have HAN : Hid (goB S n l[i] = true → ∀ k, (h : k < l.length) → k < i + 1 → goB S n l[k] = true) := fun hh k h hk => by
    rcases Nat.lt_or_ge k i with h' | h'
    · exact HAL.out k h h'
    · obtain rfl : k = i := by omega
      exact hh
  have HNN : Hid (goB S n l[i] = false → R = false) := fun hh => HNE.out i hlt hh
  have HAC : Hid (goB S n l[i] = (decide (0 ≤ l[i].1 ∧ l[i].1 < (S : Int)) && decide (0 ≤ l[i].2 ∧ l[i].2 < n))) := rfl
  generalize goB S n l[i] = AB at *
  generalize l[i].1 = x0 at *
  generalize l[i].2 = x1 at *
  clear hacs HRS HL HAL HEQ HNE
  have BA : Below wr.heap.size wr (wr.alloc (Obj.cells #[.int .i64 x0, .int .i64 x1] 75)) := (Below.refl _ _).alloc (Nat.le_refl _) _
  have c0 : (wr.alloc (Obj.cells #[.int .i64 x0, .int .i64 x1] 75)).cell? ⟨wr.heap.size, 0, none⟩ = some (.int .i64 x0) := by simp
  have c1 : (wr.alloc (Obj.cells #[.int .i64 x0, .int .i64 x1] 75)).cell? ⟨wr.heap.size, 1, none⟩ = some (.int .i64 x1) := by simp
  have B1 := BR.trans (BA.mono BR.size)
  obtain ⟨y0, y1⟩ := HD.out _ B1
  go_upto_region 4 with fail
  generalize wr.alloc (Obj.cells #[.int .i64 x0, .int .i64 x1] 75) = wa at *
  clear a0 a1
  have BW1 := HT.out _ B1
  have hI1 := HIB.out x0 S wa
  have hI2 := HIB.out x1 n wa
  go_wp2_with fail
  refine hI1.mono ?_
  rintro e w1 ⟨rfl, rfl⟩
  clear hI1 y0 y1 hwS hwS'
  cases hd : decide (0 ≤ x0 ∧ x0 < (S : Int)) with
  | false =>
    have HE : Hid (R = false) := HNN.out (HAC.out.trans (by rw [hd]; rfl))
    clear HAN HNN HAC HD hI2 hd
    go_wp2_with fail
    go_ret
    exact ⟨by rw [HE.out]; rfl, BW1⟩
  | true =>
  rw [hd] at HAC
  clear hd
  go_wp2_with fail
  refine hI2.mono ?_
  rintro e w2 ⟨rfl, rfl⟩
  clear hI2
  cases hd : decide (0 ≤ x1 ∧ x1 < n) with
  | false =>
    have HE : Hid (R = false) := HNN.out (HAC.out.trans (by rw [hd]; rfl))
    clear HAN HNN HAC HD hd
    go_wp2_with fail
    go_ret
    exact ⟨by rw [HE.out]; rfl, BW1⟩
  | true =>
    have HA3 : Hid (∀ k, (h : k < l.length) → k < i + 1 → goB S n l[k] = true) := HAN.out (HAC.out.trans (by rw [hd]; rfl))
    clear HAN HNN HAC HD hd
    go_wp2_with fail
    exact ⟨⟨i + 1, by go_num, by omega, HA3.out, B1⟩, by simp [intOf]; omega⟩
end Go.Proofs.YtbilbgjojdlobaaGreatDoor
