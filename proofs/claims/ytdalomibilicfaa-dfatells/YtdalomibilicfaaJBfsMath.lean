/- Texts joined: BfsMath, BfsKey. -/
import Derived.Test.YtdalomibilicfaaDifMath
import Derived.Test.YtdalomibilicfaaMachMath
/- The document's Differ: pairs in the order of their first texts. -/
namespace Go.Proofs.Ytdalomibilicfaa
open Go.RowKit

def slx (v w : List Int) : Prop := v.length < w.length ∨ (v.length = w.length ∧ lexL v w)
theorem lexL_refl : ∀ v : List Int, lexL v v
  | [] => trivial
  | x :: v => by unfold lexL; exact .inr ⟨rfl, lexL_refl v⟩
theorem lexL_trans : ∀ {u v w : List Int}, u.length = v.length → v.length = w.length → lexL u v → lexL v w → lexL u w
  | [], _, _, _, _, _, _ => trivial
  | x :: u, [], _, h, _, _, _ => by simp at h
  | x :: u, y :: v, [], _, h, _, _ => by simp at h
  | x :: u, y :: v, z :: w, h1, h2, h3, h4 => by
    unfold lexL at h3 h4 ⊢
    rcases h3 with h3 | ⟨rfl, h3⟩
    · rcases h4 with h4 | ⟨rfl, _⟩
      · left; omega
      · exact .inl h3
    · rcases h4 with h4 | ⟨rfl, h4⟩
      · exact .inl h4
      · exact .inr ⟨rfl, lexL_trans (by simpa using h1) (by simpa using h2) h3 h4⟩
theorem lexL_total : ∀ (v w : List Int), v.length = w.length → lexL v w ∨ lexL w v
  | [], _, _ => .inl trivial
  | x :: v, [], h => by simp at h
  | x :: v, y :: w, h => by
    unfold lexL
    rcases Int.lt_trichotomy x y with h1 | rfl | h1
    · exact .inl (.inl h1)
    · rcases lexL_total v w (by simpa using h) with h2 | h2
      · exact .inl (.inr ⟨rfl, h2⟩)
      · exact .inr (.inr ⟨rfl, h2⟩)
    · exact .inr (.inl h1)
theorem slx_refl (v : List Int) : slx v v := .inr ⟨rfl, lexL_refl v⟩
theorem slx_trans {u v w : List Int} (h : slx u v) (k : slx v w) : slx u w := by
  unfold slx at *
  rcases h with h | ⟨h, h'⟩
  · rcases k with k | ⟨k, _⟩ <;> (left; omega)
  · rcases k with k | ⟨k, k'⟩
    · left; omega
    · exact .inr ⟨by omega, lexL_trans h k h' k'⟩
theorem slx_total (v w : List Int) : slx v w ∨ slx w v := by
  unfold slx
  rcases Nat.lt_trichotomy v.length w.length with h | h | h
  · exact .inl (.inl h)
  · rcases lexL_total v w h with k | k
    · exact .inl (.inr ⟨h, k⟩)
    · exact .inr (.inr ⟨h.symm, k⟩)
  · exact .inr (.inl h)
theorem slx_pre (u r : List Int) : slx u (u ++ r) := by
  cases r with
  | nil => simpa using slx_refl u
  | cons x r => left; simp
theorem lexL_app : ∀ {v w : List Int} (c d : Int), v.length = w.length → lexL v w → (v ≠ w ∨ c ≤ d) → lexL (v ++ [c]) (w ++ [d])
  | [], [], c, d, _, _, h => by
    have : c ≤ d := h.elim (fun h => absurd rfl h) id
    simp only [List.nil_append]
    unfold lexL
    rcases Int.lt_or_eq_of_le this with h | h
    · exact .inl h
    · exact .inr ⟨h, trivial⟩
  | [], _ :: _, _, _, h, _, _ => by simp at h
  | _ :: _, [], _, _, h, _, _ => by simp at h
  | x :: v, y :: w, c, d, hl, h, hc => by
    simp only [List.cons_append]
    unfold lexL at h ⊢
    rcases h with h | ⟨rfl, h⟩
    · exact .inl h
    · exact .inr ⟨rfl, lexL_app c d (by simpa using hl) h (hc.imp (fun h e => h (by rw [e])) id)⟩
theorem slx_app {v w : List Int} {c d : Int} (h : slx v w) (hc : v ≠ w ∨ c ≤ d) : slx (v ++ [c]) (w ++ [d]) := by
  unfold slx at *
  rcases h with h | ⟨h, h'⟩
  · left; simpa using h
  · exact .inr ⟨by simpa using h, lexL_app c d h h' hc⟩
theorem goD_app (d : List Ds) : ∀ (u : List Int) (n : Int) (r : List Int), goD d n (u ++ r) = goD d (goD d n u) r
  | [], _, _ => rfl
  | c :: u, n, r => by
    rw [List.cons_append, goD, goD, goD_app d u]
theorem goD_snoc (d : List Ds) (u : List Int) (n c : Int) : goD d n (u ++ [c]) = ledD d (goD d n u) c := by rw [goD_app]; rfl
theorem res_app (d : List Ds) (u r : List Int) (n : Int) : resD d n (u ++ r) = resD d (goD d n u) r := by unfold resD; rw [goD_app]
def PD (a b : List Ds) (v : List Int) : Int × Int := (goD a 0 v, goD b 0 v)
def dead2 (a b : List Ds) (v : List Int) : Prop := goD a 0 v < 0 ∧ goD b 0 v < 0
theorem dead2_res {a b : List Ds} {u : List Int} (h : dead2 a b u) (r : List Int) : resD a 0 (u ++ r) = resD b 0 (u ++ r) := by
  rw [res_app, res_app, res_dead _ _ _ h.1, res_dead _ _ _ h.2]
theorem PD_snoc {a b : List Ds} {v w : List Int} (h : PD a b v = PD a b w) (c : Int) : PD a b (v ++ [c]) = PD a b (w ++ [c]) := by
  unfold PD at *
  simp only [Prod.mk.injEq] at h
  rw [goD_snoc, goD_snoc, goD_snoc, goD_snoc, h.1, h.2]
theorem PD_dead {a b : List Ds} {v w : List Int} (h : PD a b v = PD a b w) (hd : dead2 a b v) : dead2 a b w := by
  unfold PD at h
  simp only [Prod.mk.injEq] at h
  unfold dead2 at *
  rw [← h.1, ← h.2]; exact hd
theorem PD_res {a b : List Ds} {v w : List Int} (h : PD a b v = PD a b w) : resD a 0 v = resD a 0 w ∧ resD b 0 v = resD b 0 w := by
  unfold PD at h
  simp only [Prod.mk.injEq] at h
  unfold resD
  rw [h.1, h.2]
  exact ⟨rfl, rfl⟩
/-- How far the pairs have been gone through: n of them, and of the next one the letters below m. -/
structure Bf (a b : List Ds) (n : Nat) (m : Int) (T : List (List Int)) : Prop where
  head : T[0]? = some []
  byte : ∀ t ∈ T, ∀ z ∈ t, 0 ≤ z ∧ z ≤ 255
  sorted : ∀ (i j : Nat) v w, i < j → T[i]? = some v → T[j]? = some w → slx v w ∧ v ≠ w
  frm : ∀ (j : Nat) w, 0 < j → T[j]? = some w → ∃ (i : Nat) (v : List Int) (c : Int), T[i]? = some v ∧ w = v ++ [c] ∧ (i < n ∨ i = n ∧ c < m)
  closed : ∀ (i : Nat) v (c : Int), T[i]? = some v → 0 ≤ c → c ≤ 255 → (i < n ∨ i = n ∧ c < m) → dead2 a b (v ++ [c]) ∨ ∃ (j : Nat) (w : List Int), 0 < j ∧ T[j]? = some w ∧ PD a b w = PD a b (v ++ [c]) ∧ slx w (v ++ [c])
  same : ∀ (i : Nat) v, i < n → T[i]? = some v → resD a 0 v = resD b 0 v
  dist : ∀ (i j : Nat) v w, 0 < i → i < j → T[i]? = some v → T[j]? = some w → PD a b v ≠ PD a b w
  live : ∀ (j : Nat) w, 0 < j → T[j]? = some w → ¬ dead2 a b w
theorem Bf.start (a b : List Ds) : Bf a b 0 0 [[]] := by
  have h1 : ∀ (j : Nat) (w : List Int), ([[]] : List (List Int))[j]? = some w → j = 0 := fun j w h => by
    match j, h with
    | 0, _ => rfl
    | j + 1, h => simp at h
  refine ⟨rfl, fun t ht z hz => ?_, fun i j v w hij _ hj => ?_, fun j w hj h => ?_, fun i v c hi hc0 _ h => ?_, fun i v h => ?_, fun i j v w hi hij _ hj => ?_, fun j w hj h => ?_⟩
  · simp at ht; subst ht; cases hz
  · have := h1 j w hj; omega
  · have := h1 j w h; omega
  · rcases h with h | ⟨_, h⟩ <;> omega
  · omega
  · have := h1 j w hj; omega
  · have := h1 j w h; omega
/-- All that lie there are ahead of the next one. -/
theorem Bf.ahead {a b : List Ds} {n : Nat} {m : Int} {T : List (List Int)} (h : Bf a b n m T) {v : List Int} (hv : T[n]? = some v) : ∀ (j : Nat) w, T[j]? = some w → slx w (v ++ [m]) ∧ w ≠ v ++ [m] := by
  intro j w hw
  rcases Nat.eq_zero_or_pos j with rfl | hj
  · rw [h.head] at hw
    cases hw
    exact ⟨.inl (by simp), by simp⟩
  · obtain ⟨i, u, c, hu, rfl, hc⟩ := h.frm j w hj hw
    rcases hc with hi | ⟨rfl, hc⟩
    · obtain ⟨s1, s2⟩ := h.sorted i n u v hi hu hv
      exact ⟨slx_app s1 (.inl s2), fun e => s2 (List.append_inj' e rfl).1⟩
    · rw [hu] at hv
      cases hv
      exact ⟨slx_app (slx_refl _) (.inr (by omega)), fun e => by have := (List.append_inj' e rfl).2; simp at this; omega⟩
theorem Bf.push {a b : List Ds} {n : Nat} {m : Int} {T : List (List Int)} (h : Bf a b n m T) {v : List Int} (hv : T[n]? = some v) (m0 : 0 ≤ m) (m1 : m ≤ 255) (hd : ¬ dead2 a b (v ++ [m])) (hn : ∀ (j : Nat) w, 0 < j → T[j]? = some w → PD a b w ≠ PD a b (v ++ [m])) : Bf a b n (m + 1) (T ++ [v ++ [m]]) := by
  have hnl := (List.getElem?_eq_some_iff.1 hv).1
  have hah := h.ahead hv
  have get : ∀ (j : Nat) w, (T ++ [v ++ [m]])[j]? = some w → (j < T.length ∧ T[j]? = some w) ∨ (j = T.length ∧ w = v ++ [m]) := fun j w hj => by
    rcases Nat.lt_or_ge j T.length with hl | hl
    · rw [List.getElem?_append_left hl] at hj; exact .inl ⟨hl, hj⟩
    · rw [List.getElem?_append_right hl] at hj
      have := (List.getElem?_eq_some_iff.1 hj).1
      simp at this
      obtain rfl : j = T.length := by omega
      simp at hj
      exact .inr ⟨rfl, hj.symm⟩
  have old : ∀ {j : Nat} {w : List Int}, T[j]? = some w → (T ++ [v ++ [m]])[j]? = some w := fun {j w} hj => by
    rw [List.getElem?_append_left (List.getElem?_eq_some_iff.1 hj).1]; exact hj
  refine ⟨old h.head, fun t ht z hz => ?_, fun i j x w hij hi hj => ?_, fun j w hj hw => ?_, fun i x c hi c0 c1 hc => ?_, fun i x hi hx => ?_, fun i j x w hi0 hij hi hj => ?_, fun j w hj hw => ?_⟩
  · rcases List.mem_append.1 ht with ht | ht
    · exact h.byte t ht z hz
    · simp at ht
      subst ht
      rcases List.mem_append.1 hz with hz | hz
      · exact h.byte v (List.mem_of_getElem? hv) z hz
      · simp at hz; subst hz; exact ⟨m0, m1⟩
  · rcases get j w hj with ⟨hl, hj⟩ | ⟨rfl, rfl⟩
    · rcases get i x hi with ⟨_, hi⟩ | ⟨rfl, _⟩
      · exact h.sorted i j x w hij hi hj
      · omega
    · rcases get i x hi with ⟨_, hi⟩ | ⟨rfl, _⟩
      · exact hah i x hi
      · omega
  · rcases get j w hw with ⟨hl, hw⟩ | ⟨rfl, rfl⟩
    · obtain ⟨i, u, c, hu, e, hc⟩ := h.frm j w hj hw
      exact ⟨i, u, c, old hu, e, hc.imp id (fun h => ⟨h.1, by omega⟩)⟩
    · exact ⟨n, v, m, old hv, rfl, .inr ⟨rfl, by omega⟩⟩
  · rcases get i x hi with ⟨hl, hi'⟩ | ⟨rfl, rfl⟩
    · by_cases hcm : i = n ∧ c = m
      · obtain ⟨rfl, rfl⟩ := hcm
        rw [hv] at hi'
        cases hi'
        exact .inr ⟨T.length, v ++ [c], by omega, by simp, rfl, slx_refl _⟩
      · rcases h.closed i x c hi' c0 c1 (hc.imp id (fun h => ⟨h.1, by have := h.2; omega⟩)) with hd | ⟨j, w, hj, hw, hp, hs⟩
        · exact .inl hd
        · exact .inr ⟨j, w, hj, old hw, hp, hs⟩
    · omega
  · rcases get i x hx with ⟨_, hx⟩ | ⟨rfl, _⟩
    · exact h.same i x hi hx
    · omega
  · rcases get j w hj with ⟨hl, hj⟩ | ⟨rfl, rfl⟩
    · rcases get i x hi with ⟨_, hi⟩ | ⟨rfl, _⟩
      · exact h.dist i j x w hi0 hij hi hj
      · omega
    · rcases get i x hi with ⟨_, hi⟩ | ⟨rfl, _⟩
      · exact hn i x hi0 hi
      · omega
  · rcases get j w hw with ⟨hl, hw⟩ | ⟨rfl, rfl⟩
    · exact h.live j w hj hw
    · exact hd
theorem Bf.skip {a b : List Ds} {n : Nat} {m : Int} {T : List (List Int)} (h : Bf a b n m T) {v : List Int} (hv : T[n]? = some v) (hd : dead2 a b (v ++ [m]) ∨ ∃ (j : Nat) (w : List Int), 0 < j ∧ T[j]? = some w ∧ PD a b w = PD a b (v ++ [m])) : Bf a b n (m + 1) T := by
  refine ⟨h.head, h.byte, h.sorted, fun j w hj hw => ?_, fun i x c hi c0 c1 hc => ?_, h.same, h.dist, h.live⟩
  · obtain ⟨i, u, c, hu, e, hc⟩ := h.frm j w hj hw
    exact ⟨i, u, c, hu, e, hc.imp id (fun h => ⟨h.1, by omega⟩)⟩
  · by_cases hcm : i = n ∧ c = m
    · obtain ⟨rfl, rfl⟩ := hcm
      rw [hv] at hi
      cases hi
      rcases hd with hd | ⟨j, w, hj, hw, hp⟩
      · exact .inl hd
      · exact .inr ⟨j, w, hj, hw, hp, (h.ahead hv j w hw).1⟩
    · exact h.closed i x c hi c0 c1 (hc.imp id (fun h => ⟨h.1, by have := h.2; omega⟩))
theorem Bf.next {a b : List Ds} {n : Nat} {T : List (List Int)} (h : Bf a b n 256 T) {v : List Int} (hv : T[n]? = some v) (he : resD a 0 v = resD b 0 v) : Bf a b (n + 1) 0 T := by
  refine ⟨h.head, h.byte, h.sorted, fun j w hj hw => ?_, fun i x c hi c0 c1 hc => ?_, fun i x hi hx => ?_, h.dist, h.live⟩
  · obtain ⟨i, u, c, hu, e, hc⟩ := h.frm j w hj hw
    exact ⟨i, u, c, hu, e, .inl (by omega)⟩
  · exact h.closed i x c hi c0 c1 (by omega)
  · by_cases hin : i = n
    · subst hin
      rw [hv] at hx
      cases hx
      exact he
    · exact h.same i x (by omega) hx
theorem Bf.walk {a b : List Ds} (ha : fitD a) (hb : fitD b) {n : Nat} {T : List (List Int)} (h : Bf a b n 0 T) {v : List Int} (hd : resD a 0 v ≠ resD b 0 v) (hn : ∀ (j : Nat) w, T[j]? = some w → slx w v → j < n) : ∀ (r u : List Int), v = u ++ r → (∃ (j : Nat) (w : List Int), T[j]? = some w ∧ PD a b w = PD a b u ∧ slx w u) → ∃ (j : Nat) (w : List Int), T[j]? = some w ∧ PD a b w = PD a b v ∧ slx w v
  | [], u, e, hx => by rw [e]; simpa using hx
  | c :: r, u, e, ⟨j, w, hw, hp, hs⟩ => by
    have hj := hn j w hw (slx_trans hs (by rw [e]; exact slx_pre _ _))
    refine Bf.walk ha hb h hd hn r (u ++ [c]) (by simp [e]) ?_
    have nd : ¬ dead2 a b (u ++ [c]) := fun hdd => hd (by
      have := dead2_res hdd r
      rw [List.append_assoc, List.singleton_append, ← e] at this
      exact this)
    have hok : ∀ (d : List Ds), fitD d → okS d.length (goD d 0 u) := fun d hf => by
      have h0 := List.length_pos_iff.2 hf.some
      have key : ∀ (u : List Int) (q : Int), okS d.length q → okS d.length (goD d q u) := by
        intro u
        induction u with
        | nil => intro q hq; exact hq
        | cons c u ih => intro q hq; rw [goD]; exact ih _ (led_ok hf hq c)
      exact key u 0 ⟨by omega, by omega⟩
    have hc : 0 ≤ c ∧ c ≤ 255 := by
      apply Classical.byContradiction
      intro hno
      apply nd
      unfold dead2
      rw [goD_snoc, goD_snoc, led_out ha (hok a ha) (by omega), led_out hb (hok b hb) (by omega)]
      omega
    rcases h.closed j w c hw hc.1 hc.2 (.inl hj) with hdd | ⟨k, x, _, hk, hp2, hs2⟩
    · exact absurd (PD_dead (PD_snoc hp c) hdd) nd
    · exact ⟨k, x, hk, hp2.trans (PD_snoc hp c), slx_trans hs2 (by
        by_cases hwu : w = u
        · rw [hwu]; exact slx_refl _
        · exact slx_app hs (.inl hwu))⟩
/-- Where they differ: it is the first text that does. -/
theorem Bf.first {a b : List Ds} (ha : fitD a) (hb : fitD b) {n : Nat} {T : List (List Int)} (h : Bf a b n 0 T) {t : List Int} (ht : T[n]? = some t) (hd : resD a 0 t ≠ resD b 0 t) : FirstD (resD a 0) (resD b 0) t := by
  refine ⟨hd, fun v hv => ?_⟩
  apply Classical.byContradiction
  intro hno
  have hlt : ∀ (j : Nat) w, T[j]? = some w → slx w v → j < n := fun j w hw hs => by
    apply Classical.byContradiction
    intro hj
    rcases Nat.eq_or_lt_of_le (Nat.not_lt.1 hj) with rfl | hj
    · rw [ht] at hw; cases hw; exact hno hs
    · exact hno (slx_trans (h.sorted n j t w hj ht hw).1 hs)
  obtain ⟨j, w, hw, hp, hs⟩ := h.walk ha hb hv hlt v [] rfl ⟨0, [], h.head, rfl, slx_refl _⟩
  have h1 := h.same j w (hlt j w hw hs) hw
  rw [(PD_res hp).1, (PD_res hp).2] at h1
  exact hv h1
/-- All gone through: nothing differs. -/
theorem Bf.none {a b : List Ds} (ha : fitD a) (hb : fitD b) {T : List (List Int)} (h : Bf a b T.length 0 T) : resD a 0 = resD b 0 := by
  funext v
  apply Classical.byContradiction
  intro hv
  have hlt : ∀ (j : Nat) w, T[j]? = some w → slx w v → j < T.length := fun j w hw _ => (List.getElem?_eq_some_iff.1 hw).1
  obtain ⟨j, w, hw, hp, hs⟩ := h.walk ha hb hv hlt v [] rfl ⟨0, [], h.head, rfl, slx_refl _⟩
  have h1 := h.same j w (hlt j w hw hs) hw
  rw [(PD_res hp).1, (PD_res hp).2] at h1
  exact hv h1
end Go.Proofs.Ytdalomibilicfaa
/- The document's Differ: the table of pairs that were met. -/
namespace Go.Proofs.Ytdalomibilicfaa
open Go.RowKit

/-- Where a pair stands in the table. -/
def keyP (nb : Nat) (p : Int × Int) : Nat := (p.1 + 1).toNat * (nb + 1) + (p.2 + 1).toNat
def okP (na nb : Nat) (p : Int × Int) : Prop := okS na p.1 ∧ okS nb p.2
theorem key_int {na nb : Nat} {p : Int × Int} (h : okP na nb p) : (p.1 + 1) * ((nb : Int) + 1) + p.2 + 1 = (keyP nb p : Int) := by
  obtain ⟨⟨h1, _⟩, h2, _⟩ := h
  unfold keyP
  obtain ⟨i, hi⟩ : ∃ i : Nat, p.1 + 1 = i := ⟨(p.1 + 1).toNat, by omega⟩
  obtain ⟨j, hj⟩ : ∃ j : Nat, p.2 + 1 = j := ⟨(p.2 + 1).toNat, by omega⟩
  rw [hi, hj, Int.toNat_natCast, Int.toNat_natCast]
  push_cast
  omega
theorem key_lt {na nb : Nat} {p : Int × Int} (h : okP na nb p) : keyP nb p < (na + 1) * (nb + 1) := by
  obtain ⟨⟨h1, h1'⟩, h2, h2'⟩ := h
  unfold keyP
  have a1 : (p.1 + 1).toNat ≤ na := by omega
  have a2 : (p.2 + 1).toNat ≤ nb := by omega
  have := Nat.mul_le_mul_right (nb + 1) a1
  rw [Nat.add_mul, Nat.one_mul]
  omega
theorem key_inj {na nb : Nat} {p q : Int × Int} (hp : okP na nb p) (hq : okP na nb q) (h : keyP nb p = keyP nb q) : p = q := by
  obtain ⟨⟨h1, h1'⟩, h2, h2'⟩ := hp
  obtain ⟨⟨k1, k1'⟩, k2, k2'⟩ := hq
  unfold keyP at h
  have a2 : (p.2 + 1).toNat < nb + 1 := by omega
  have b2 : (q.2 + 1).toNat < nb + 1 := by omega
  have e1 : (p.1 + 1).toNat = (q.1 + 1).toNat := by
    have : ((p.1 + 1).toNat * (nb + 1) + (p.2 + 1).toNat) / (nb + 1) = ((q.1 + 1).toNat * (nb + 1) + (q.2 + 1).toNat) / (nb + 1) := by rw [h]
    rw [Nat.mul_comm, Nat.mul_add_div (by omega), Nat.mul_comm (q.1 + 1).toNat, Nat.mul_add_div (by omega), Nat.div_eq_of_lt a2, Nat.div_eq_of_lt b2] at this
    omega
  rw [e1] at h
  have e2 : (p.2 + 1).toNat = (q.2 + 1).toNat := by omega
  exact Prod.ext (by omega) (by omega)
theorem goD_ok {d : List Ds} (hf : fitD d) : ∀ (u : List Int) (q : Int), okS d.length q → okS d.length (goD d q u)
  | [], _, hq => hq
  | c :: u, q, hq => by rw [goD]; exact goD_ok hf u _ (led_ok hf hq c)
theorem PD_ok {a b : List Ds} (ha : fitD a) (hb : fitD b) (v : List Int) : okP a.length b.length (PD a b v) := by
  have h1 := List.length_pos_iff.2 ha.some
  have h2 := List.length_pos_iff.2 hb.some
  exact ⟨goD_ok ha v 0 ⟨by omega, by omega⟩, goD_ok hb v 0 ⟨by omega, by omega⟩⟩
/-- The table tells which pairs were met. -/
structure MetT (a b : List Ds) (T : List (List Int)) (tb : List Bool) : Prop where
  len : tb.length = (a.length + 1) * (b.length + 1)
  tell : ∀ p, okP a.length b.length p → (tb[keyP b.length p]? = some true ↔ ∃ (j : Nat) (w : List Int), 0 < j ∧ T[j]? = some w ∧ PD a b w = p)
theorem MetT.start (a b : List Ds) : MetT a b [[]] (List.replicate ((a.length + 1) * (b.length + 1)) false) := by
  refine ⟨by simp, fun p hp => ⟨fun h => ?_, fun ⟨j, w, hj, hw, _⟩ => ?_⟩⟩
  · rw [List.getElem?_replicate, if_pos (key_lt hp)] at h
    cases h
  · match j, hj, hw with
    | j + 1, _, hw => simp at hw
theorem MetT.push {a b : List Ds} (ha : fitD a) (hb : fitD b) {T : List (List Int)} {tb : List Bool} (h : MetT a b T tb) (hT : 0 < T.length) (u : List Int) : MetT a b (T ++ [u]) (tb.set (keyP b.length (PD a b u)) true) := by
  have hu := PD_ok ha hb u
  refine ⟨by rw [List.length_set]; exact h.len, fun p hp => ?_⟩
  by_cases e : keyP b.length (PD a b u) = keyP b.length p
  · have ep := key_inj hu hp e
    rw [← e, List.getElem?_set_self (by rw [h.len]; exact key_lt hu)]
    refine ⟨fun _ => ⟨T.length, u, hT, by simp, ep⟩, fun _ => rfl⟩
  · rw [List.getElem?_set_ne e, h.tell p hp]
    constructor
    · rintro ⟨j, w, hj, hw, hp2⟩
      exact ⟨j, w, hj, by rw [List.getElem?_append_left (List.getElem?_eq_some_iff.1 hw).1]; exact hw, hp2⟩
    · rintro ⟨j, w, hj, hw, hp2⟩
      rcases Nat.lt_or_ge j T.length with hl | hl
      · rw [List.getElem?_append_left hl] at hw
        exact ⟨j, w, hj, hw, hp2⟩
      · rw [List.getElem?_append_right hl] at hw
        have := (List.getElem?_eq_some_iff.1 hw).1
        simp at this
        have e2 : j - T.length = 0 := by omega
        rw [e2] at hw
        simp at hw
        subst hw
        exact absurd (by rw [hp2]) e
/-- No more texts than pairs, and the empty one. -/
theorem Bf.small {a b : List Ds} (ha : fitD a) (hb : fitD b) {n : Nat} {m : Int} {T : List (List Int)} (h : Bf a b n m T) : T.length ≤ (a.length + 1) * (b.length + 1) + 1 := by
  have hnd : ((T.drop 1).map fun w => (keyP b.length (PD a b w) : Int)).Nodup := by
    refine List.pairwise_iff_getElem.2 (fun i j hi hj hij => ?_)
    rw [List.getElem_map, List.getElem_map, List.getElem_drop, List.getElem_drop]
    simp at hi hj
    intro e
    exact h.dist (1 + i) (1 + j) _ _ (by omega) (by omega) (List.getElem?_eq_getElem (by omega)) (List.getElem?_eq_getElem (by omega)) (key_inj (PD_ok ha hb _) (PD_ok ha hb _) (by omega))
  have hle := nodup_le (c := (List.range ((a.length + 1) * (b.length + 1))).map fun k : Nat => (k : Int)) hnd (fun k hk => by
    obtain ⟨w, _, rfl⟩ := List.mem_map.1 hk
    exact List.mem_map.2 ⟨_, List.mem_range.2 (key_lt (PD_ok ha hb w)), rfl⟩)
  simp at hle
  omega
end Go.Proofs.Ytdalomibilicfaa
