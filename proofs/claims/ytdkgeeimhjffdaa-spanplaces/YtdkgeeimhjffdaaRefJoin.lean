/- Join and Meet of the document: the normal forms of what either has, and of what both have. -/
import Derived.Test.YtdkgeeimhjffdaaRefNorm
import Derived.Laws.AppendOwnNone
namespace Go.Proofs.Ytdkgeeimhjffdaa
open Go.RowKit Go.Shelf

/-- The cells of a row that came in, as an append asks them. -/
theorem news_of {es : List Rg} {b off : Nat} {W : World} (h : RgAt es (some ⟨b, off, none⟩) W) : ∀ (j : Nat) (u : Value), (es.flatMap encR)[j]? = some u → W.cell? ((⟨b, off, none⟩ : Addr).add j) = some u := by
  intro j u hj
  have h3 : j = j / 2 * 2 + j % 2 := by omega
  rw [h3, flatR_get es (j / 2) (j % 2) (by omega)] at hj
  obtain ⟨r, hr, hu⟩ := Option.map_eq_some_iff.1 hj
  obtain ⟨b', o', h0, _, c0, c1⟩ := h _ r hr
  cases h0
  rw [add_plain]
  rcases (show j % 2 = 0 ∨ j % 2 = 1 by omega) with e | e
  · rw [e] at hu h3
    rw [h3]
    simpa [encR, ← hu] using c0
  · rw [e] at hu h3
    rw [h3]
    have : off + (j / 2 * 2 + 1) = off + j / 2 * 2 + 1 := by omega
    rw [this]
    simpa [encR, ← hu] using c1
theorem flat_one (es : List Rg) : ∀ u ∈ es.flatMap encR, u.oneCell' = true := by
  intro u hu
  obtain ⟨r, _, h⟩ := List.mem_flatMap.1 hu
  exact encR_one r u h
theorem flat_len (es : List Rg) : (es.flatMap encR).length = es.length * 2 := by
  induction es with
  | nil => rfl
  | cons r t ih => rw [List.flatMap_cons, List.length_append, ih, List.length_cons]; simp [encR]; omega
theorem OwnR.app {B : Nat} {rs es : List Rg} {v : Value} {W : World} (h : W.ownsRow B 29 2 v (rs.length + es.length) (rs.flatMap encR ++ es.flatMap encR)) : OwnR B (rs ++ es) v W := by
  unfold OwnR
  simpa using h

/-- An address that says as much as none: of an empty row whatever may be said. -/
theorem rg_some {es : List Rg} {ao : Option Addr} {W : World} (h : RgAt es ao W) (hne : es ≠ []) : ∃ b off, ao = some ⟨b, off, none⟩ ∧ b < W.heap.size := by
  cases es with
  | nil => exact absurd rfl hne
  | cons r t => obtain ⟨b, off, h0, h1, _⟩ := h 0 r rfl; exact ⟨b, off, h0, h1⟩

theorem rg_nil {es : List Rg} {W : World} (h : RgAt es none W) : es = [] := by
  cases es with
  | nil => rfl
  | cons r t => obtain ⟨b, off, h0, _⟩ := h 0 r rfl; cases h0
theorem news_any {es : List Rg} {ad : Addr} {W : World} (h : RgAt es (some ad) W) : ∀ (j : Nat) (u : Value), (es.flatMap encR)[j]? = some u → W.cell? (ad.add j) = some u := by
  cases es with
  | nil => intro j u hj; simp at hj
  | cons r t =>
    obtain ⟨b, off, h0, _⟩ := h 0 r rfl
    cases h0
    exact news_of h

set_option maxRecDepth 100000 in
set_option maxHeartbeats 2000000 in
theorem rjoin_any (a b : List Rg) (ao bo : Option Addr) (cap dap : Nat) (w : World) (hoa : ∀ r ∈ a, RgOk r) (hob : ∀ r ∈ b, RgOk r) (hla : a.length ≤ 100000) (hlb : b.length ≤ 100000) (ha : RgAt a ao w) (hb : RgAt b bo w) (hna : ao = none → cap = 0) (hnb : bo = none → dap = 0) :
    Calls Try.prog 16 #[.slice ao a.length cap, .slice bo b.length dap] w fun e w' => GivesSet True e w w' (fun x => hasL a x || hasL b x) (a.length + b.length) := by
  obtain ⟨i0, hi, hz0, hz1, hz2⟩ := info_parts info29
  -- what lies behind the two appends
  have fin : ∀ {v : Value} {W : World}, OwnR w.heap.size (a ++ b) v W → Below w.heap.size w W → ∃ vo vc, v = .slice vo (a ++ b).length vc ∧ Calls Try.prog 12 #[v] W fun e w' => GivesSet True e w w' (fun x => hasL a x || hasL b x) (a.length + b.length) := by
    intro v W h B
    obtain ⟨vo, vc, rfl, hv, _⟩ := OwnR.at_ h
    refine ⟨vo, vc, rfl, (rnorm_any (a ++ b) vo vc W hv (fun r hr => (List.mem_append.1 hr).elim (hoa r) (hob r)) (by simp; omega)).mono ?_⟩
    rintro e w' ⟨_, ro, rc, rs, rfl, h1, h2, h3, h4, h5, h6⟩
    refine ⟨trivial, ro, rc, rs, rfl, h1, below_then B h2 B.size, h3, h4, fun x => by rw [h5]; exact hasL_append a b x, ?_⟩
    have := List.countP_le_length (p := nonE) (l := a ++ b)
    simp only [List.length_append] at this
    omega
  have sec : ∀ {v : Value} {W : World}, OwnR w.heap.size a v W → Below w.heap.size w W → ∃ vo vc, v = .slice vo a.length vc := fun h _ => by
    obtain ⟨vo, vc, rfl, _⟩ := OwnR.at_ h
    exact ⟨vo, vc, rfl⟩
  have hla2 := flat_len a
  have hlb2 := flat_len b
  rcases ao with _ | ad <;> rcases bo with _ | bd
  · obtain rfl : a = [] := rg_nil ha
    obtain rfl : b = [] := rg_nil hb
    obtain rfl := hna rfl
    obtain rfl := hnb rfl
    obtain ⟨vo, vc, hv, hcall⟩ := fin (OwnR.nil w.heap.size w) (Below.refl _ _)
    clear fin sec
    go_enter Try.func16, Try.ntmps16
    go_wp2_with (at_builtin; refine wpList_append_own_none rfl _ _ 22 rfl w.heap.size 29 i0 2 Try.underlying22 hi _ 0 [] rfl (World.ownsRow_nil _ _ _ _) rfl ?_)
    go_wp2_with (at_builtin; refine wpList_append_own_none rfl _ _ 22 rfl w.heap.size 29 i0 2 Try.underlying22 hi _ 0 [] rfl (World.ownsRow_nil _ _ _ _) rfl ?_)
    refine hcall.mono ?_
    rintro e w9 ⟨_, ro, rc, rs, rfl, h⟩
    go_wp2
    go_ret
    exact ⟨trivial, ro, rc, rs, rfl, h⟩
  · obtain rfl : a = [] := rg_nil ha
    obtain rfl := hna rfl
    go_enter Try.func16, Try.ntmps16
    go_wp2_with (at_builtin; first | (refine wpList_append_own_none rfl (.tmp 6) (.tmp 7) 22 rfl w.heap.size 29 i0 2 Try.underlying22 hi _ 0 [] rfl (World.ownsRow_nil _ _ _ _) rfl ?_) | (refine wpList_append_own _ rfl _ _ 22 rfl w.heap.size 29 i0 _ 2 16 Try.underlying22 hi hz0 hz1 hz2 rfl (by decide) _ 0 [] rfl (World.ownsRow_nil _ _ _ _) bd b.length dap (b.flatMap encR) rfl hlb2 (news_any hb) (flat_one b) (by unfold maxLen; omega) (by omega) (Nat.le_refl _) ?_))
    intro v' w2 hown' hgrow _
    have hO : OwnR w.heap.size ([] ++ b) v' w2 := by unfold OwnR; simpa using hown'
    have B2 : Below w.heap.size w w2 := (Below.refl _ _).grown hgrow (Nat.le_refl _) (fun k e => by cases e)
    obtain ⟨vo, vc, rfl, hcall⟩ := fin hO B2
    clear fin sec hown' hgrow hO
    go_wp2_with fail
    refine hcall.mono ?_
    rintro e w9 ⟨_, ro, rc, rs, rfl, h⟩
    go_wp2
    go_ret
    exact ⟨trivial, ro, rc, rs, rfl, h⟩
  · obtain rfl : b = [] := rg_nil hb
    obtain rfl := hnb rfl
    go_enter Try.func16, Try.ntmps16
    go_wp2_with (at_builtin; refine wpList_append_own _ rfl _ _ 22 rfl w.heap.size 29 i0 _ 2 16 Try.underlying22 hi hz0 hz1 hz2 rfl (by decide) _ 0 [] rfl (World.ownsRow_nil _ _ _ _) ad a.length cap (a.flatMap encR) rfl hla2 (news_any ha) (flat_one a) (by unfold maxLen; omega) (by omega) (Nat.le_refl _) ?_)
    intro v' w2 hown' hgrow _
    have hO1 : OwnR w.heap.size a v' w2 := by unfold OwnR; simpa using hown'
    have hO : OwnR w.heap.size (a ++ []) v' w2 := by rw [List.append_nil]; exact hO1
    have B2 : Below w.heap.size w w2 := (Below.refl _ _).grown hgrow (Nat.le_refl _) (fun k e => by cases e)
    obtain ⟨vo, vc, rfl, hcall⟩ := fin hO B2
    rw [List.append_nil] at hO1 hcall
    have hO2 : w2.ownsRow w.heap.size 29 2 (.slice vo a.length vc) a.length (a.flatMap encR) := hO1
    clear fin sec hown' hgrow hO hO1
    rw [List.append_nil]
    go_wp2_with (at_builtin; refine wpList_append_own_none rfl _ _ 22 rfl w.heap.size 29 i0 2 Try.underlying22 hi _ _ _ rfl hO2 rfl ?_)
    refine hcall.mono ?_
    rintro e w9 ⟨_, ro, rc, rs, rfl, h⟩
    go_wp2
    go_ret
    exact ⟨trivial, ro, rc, rs, rfl, h⟩
  · go_enter Try.func16, Try.ntmps16
    go_wp2_with (at_builtin; refine wpList_append_own _ rfl _ _ 22 rfl w.heap.size 29 i0 _ 2 16 Try.underlying22 hi hz0 hz1 hz2 rfl (by decide) _ 0 [] rfl (World.ownsRow_nil _ _ _ _) ad a.length cap (a.flatMap encR) rfl hla2 (news_any ha) (flat_one a) (by unfold maxLen; omega) (by omega) (Nat.le_refl _) ?_)
    intro v' w2 hown' hgrow _
    have hO1 : OwnR w.heap.size a v' w2 := by unfold OwnR; simpa using hown'
    have B2 : Below w.heap.size w w2 := (Below.refl _ _).grown hgrow (Nat.le_refl _) (fun k e => by cases e)
    obtain ⟨vo, vc, rfl⟩ := sec hO1 B2
    have hb2 := hb.next B2
    have hsz := B2.size
    clear hown' hgrow
    go_wp2_with (at_builtin; refine wpList_append_own _ rfl _ _ 22 rfl w.heap.size 29 i0 _ 2 16 Try.underlying22 hi hz0 hz1 hz2 rfl (by decide) _ a.length (a.flatMap encR) rfl hO1 bd b.length dap (b.flatMap encR) rfl hlb2 (news_any hb2) (flat_one b) (by unfold maxLen; omega) (by omega) hsz ?_)
    intro v3 w3 hown' hgrow _
    have hO : OwnR w.heap.size (a ++ b) v3 w3 := OwnR.app hown'
    have B3 : Below w.heap.size w w3 := B2.grown hgrow hsz (fun k e => (World.ownsRow.lt hO1 k e).1)
    obtain ⟨vo3, vc3, rfl, hcall⟩ := fin hO B3
    simp only [List.length_append] at hcall
    clear fin sec hown' hgrow hO hO1
    go_wp2_with fail
    refine hcall.mono ?_
    rintro e w9 ⟨_, ro, rc, rs, rfl, h⟩
    go_wp2
    go_ret
    exact ⟨trivial, ro, rc, rs, rfl, h⟩
end Go.Proofs.Ytdkgeeimhjffdaa
