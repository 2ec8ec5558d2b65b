/- take: a word is taken. -/
import Derived.Test.YtggehnnbgeffpaaDoorOper
import Derived.BigRegion
namespace Go.Proofs.YtggehnnbgeffpaaDoor
open Go.Shelf Go.RowKit Go.Lib Go.Proofs

def RdOk (r : Rd) : Prop := (∃ t ∈ r.want, t ≠ .op) → r.prog ≠ []
theorem taker_any (t : Tk) : ∃ f : Nat, f = t.f ∧ (∀ args w, (callFunc f args).run Tryd.prog w = .ok (.enter f args) w) ∧
    ∀ (n0 B : Nat) (r : Rd) (s : ByteArray) (W : World), s.size ≤ 281474976710656 → Vars W → 4 < n0 → RAt n0 B r W → (t ≠ .op → r.prog ≠ []) → Calls Tryd.prog f #[.pointer (some ⟨B, 0, none⟩), .string s] W (Takes n0 B (tkN t r s.data.toList) W) := by
  have snoc : ∀ {p : List Ins}, p ≠ [] → ∃ q i, p = q ++ [i] := fun {p} h => ⟨p.dropLast, p.getLast h, (List.dropLast_concat_getLast h).symm⟩
  cases t
  · exact ⟨18, rfl, enters_of Tryd.func18 (by kernel_rfl) rfl, fun n0 B r s W _ hV h4 hR _ => operation_any n0 B r s W hV h4 hR⟩
  · exact ⟨48, rfl, enters_of Tryd.func48 (by kernel_rfl) rfl, fun n0 B r s W hs hV _ hR hp => by obtain ⟨q, i, hq⟩ := snoc (hp (by decide)); exact x_any n0 B r q i s W hs hV hR hq⟩
  · exact ⟨49, rfl, enters_of Tryd.func49 (by kernel_rfl) rfl, fun n0 B r s W hs hV _ hR hp => by obtain ⟨q, i, hq⟩ := snoc (hp (by decide)); exact y_any n0 B r q i s W hs hV hR hq⟩
  · exact ⟨50, rfl, enters_of Tryd.func50 (by kernel_rfl) rfl, fun n0 B r s W hs hV _ hR hp => by obtain ⟨q, i, hq⟩ := snoc (hp (by decide)); exact z_any n0 B r q i s W hs hV hR hq⟩

/-- The last word's place is set. -/
theorem RAt.setLast {n0 B : Nat} {r : Rd} {W : World} (h : RAt n0 B r W) (hp : r.prog ≠ []) (a : Int) :
    ∃ g cap n, r.last.length = n + 1 ∧ W.cell? ⟨B, 1, none⟩ = some (.slice (some ⟨g, 0, none⟩) (n + 1) cap) ∧ (∃ old, W.cell? ⟨g, n, none⟩ = some old) ∧ W.frozen? ⟨g, n, none⟩ = false ∧ n ≤ 64 ∧
      RStep n0 W (W.setCell ⟨g, n, none⟩ (.int .i64 a)) ∧ RAt n0 B { r with last := r.last.dropLast ++ [a] } (W.setCell ⟨g, n, none⟩ (.int .i64 a)) := by
  obtain ⟨h1, h2, h3, vp, vl, vw, hB, hpp, hl, hw⟩ := h
  obtain ⟨n, hn⟩ : ∃ n, r.last.length = n + 1 := ⟨r.last.length - 1, by have := List.length_pos_iff.2 hp; omega⟩
  have hl0 := hl
  rw [hn] at hl
  rcases hl.2 with ⟨_, h0⟩ | ⟨g, cap, cur, rfl, hg0, hg1, hg2, _⟩
  · omega
  have hlt : n < r.last.length := by omega
  have hc := hl.cells (g := g) rfl n (.int .i64 r.last[n]) (by simp [hlt])
  have hadd : (⟨g, 0, none⟩ : Addr).add n = ⟨g, n, none⟩ := by unfold Addr.add; split <;> simp_all
  rw [hadd] at hc
  obtain ⟨s1, s2⟩ := hl.stored n (.int .i64 a)
  have hst : RStep n0 W (W.setCell ⟨g, n, none⟩ (.int .i64 a)) := .of_grown s2 (by have := (Array.getElem?_eq_some_iff.1 hB).1; omega) (fun k e => by cases e; exact ⟨hg0, _, _, .inr (.inl hg1)⟩)
  refine ⟨g, cap, n, hn, by rw [cell_of_obj hB]; rfl, ⟨_, hc⟩, by simp [World.frozen?, hg1], by omega, hst, h1, by simp [hn]; omega, h3, vp, _, vw, (s2.block B (Array.getElem?_eq_some_iff.1 hB).1 fun e => ?_).trans hB, owns_other hpp s2 hg1 (by decide), ?_, hw.step hst⟩
  · cases e
    rw [hB] at hg1
    cases hg1
  · have e : (r.last.dropLast ++ [a]).map (Value.int .i64) = (r.last.map (Value.int .i64)).set n (.int .i64 a) := by
      have hne : r.last ≠ [] := by intro h; rw [h] at hn; simp at hn
      conv => rhs; rw [← List.dropLast_concat_getLast hne]
      rw [List.map_append, List.map_append, List.set_append, if_neg (by simp [hn])]
      simp [hn]
    show World.ownsRow _ n0 3 1 _ (r.last.dropLast ++ [a]).length ((r.last.dropLast ++ [a]).map (.int .i64))
    rw [e]
    have e2 : (r.last.dropLast ++ [a]).length = n + 1 := by simp [hn]
    rw [e2]
    exact s1

theorem updL_ne {p : List Ins} (f : Ins → Ins) (h : p ≠ []) : updL p f ≠ [] := by
  unfold updL
  split <;> simp_all
theorem tkN_prog {t : Tk} {r : Rd} {w : List UInt8} (h0 : (tkN t r w).1 = 0) (hp : t ≠ .op → r.prog ≠ []) : (tkN t r w).2.prog ≠ [] := by
  cases t with
  | op =>
    revert h0
    simp only [tkN]
    split
    · simp
    · split <;> simp
  | x =>
    revert h0
    simp only [tkN]
    split
    · simp
    · intro _; exact updL_ne _ (hp (by decide))
  | y =>
    revert h0
    simp only [tkN]
    split
    · simp
    · intro _; exact updL_ne _ (hp (by decide))
  | z =>
    revert h0
    simp only [tkN]
    split
    · simp
    · intro _; exact updL_ne _ (hp (by decide))

set_option maxRecDepth 100000 in
set_option maxHeartbeats 4000000 in
theorem take_any (n0 B : Nat) (r : Rd) (a : Int) (s : ByteArray) (W : World) (hs : s.size ≤ 281474976710656) (hV : Vars W) (h4 : 4 < n0) (hR : RAt n0 B r W) (hok : RdOk r) (hwl : r.want.length ≤ 100) :
    Calls Tryd.prog 20 #[.pointer (some ⟨B, 0, none⟩), .int .i64 a, .string s] W (Takes n0 B (takeN r a s.data.toList) W) := by
  obtain ⟨vp, vl, vw, hB, hp, hl, hw⟩ := hR.ex
  have hlt := (Array.getElem?_eq_some_iff.1 hB).1
  have hn : n0 ≤ W.heap.size := by have := hR.nB; omega
  have c2 : W.cell? ⟨B, 2, none⟩ = some vw := by rw [cell_of_obj hB]; rfl
  have f2 : W.frozen? ⟨B, 2, none⟩ = false := by simp [World.frozen?, hB]
  obtain ⟨ao, c, rfl, hc, hcell⟩ := id hw
  cases hwant : r.want with
  | nil =>
    have hsem := semicolon_any n0 B r s W hR
    have HE : Hid (takeN r a s.data.toList = if s.data.toList = [59] then (0, { r with want := [.op] }) else (10, r)) := by
      show _ = _
      simp [takeN, hwant]
    rw [hwant] at c2
    generalize (if s.data.toList = [59] then ((0 : Int), ({ r with want := [.op] } : Rd)) else (10, r)) = er at *
    clear hB hp hl hw hcell hc hR
    go_enter Tryd.func20, Tryd.ntmps20
    go_wp2_with (go_at_call 39; refine hsem.mono ?_; rintro e w1 ⟨rfl, h1, h2⟩)
    go_ret
    rw [HE.out]
    exact ⟨rfl, h1, h2⟩
  | cons t l =>
    obtain ⟨b, off, cs, fr, rfl, hb0, hb1⟩ := hcell 0 t (by rw [hwant]; rfl)
    obtain ⟨f, hf, eg, hcon⟩ := taker_any t
    rw [← hf, Nat.add_zero] at hb1
    have hlen : r.want.length = l.length + 1 := by rw [hwant]; rfl
    rw [hlen] at c2 hc hwl
    clear hf
    have hpne : t ≠ .op → ({ r with want := l } : Rd).prog ≠ [] := fun h => hok ⟨t, by rw [hwant]; simp, h⟩
    have HE : Hid (takeN r a s.data.toList = if (tkN t { r with want := l } s.data.toList).1 = 0 then (0, { (tkN t { r with want := l } s.data.toList).2 with last := (tkN t { r with want := l } s.data.toList).2.last.dropLast ++ [a] }) else tkN t { r with want := l } s.data.toList) := by
      show _ = _
      simp only [takeN, hwant]
    have hprog := fun h0 => tkN_prog (t := t) (r := { r with want := l }) (w := s.data.toList) h0 hpne
    have hcall : ∀ v, WantAt v l W → Calls Tryd.prog f #[.pointer (some ⟨B, 0, none⟩), .string s] (W.setCell ⟨B, 2, none⟩ v) fun e w' => e = .returned (.int .i64 (tkN t { r with want := l } s.data.toList).1) ∧ RStep n0 W w' ∧ ((tkN t { r with want := l } s.data.toList).1 = 0 → RAt n0 B (tkN t { r with want := l } s.data.toList).2 w') := fun v hv => by
      obtain ⟨h1, h2⟩ := hR.setWant hv
      refine (hcon n0 B { r with want := l } s _ hs (hV.nextB h4 h1.below) h4 h2 hpne).mono ?_
      rintro e w' ⟨rfl, h3, h5⟩
      exact ⟨rfl, h1.trans h3, h5⟩
    have hw2 : ∃ v, WantAt v l W ∧ v = .slice (if c = 1 then some ⟨b, off, none⟩ else some ⟨b, off + 1, none⟩) l.length (c - 1) := by
      refine ⟨_, ⟨_, c - 1, rfl, by omega, fun i u hu => ?_⟩, rfl⟩
      have hlp : i < l.length := (List.getElem?_eq_some_iff.1 hu).1
      rw [if_neg (by omega)]
      obtain ⟨b', off', cs', fr', e', h1, h2⟩ := hcell (i + 1) u (by rw [hwant]; simpa using hu)
      cases e'
      exact ⟨b, off + 1, cs', fr', rfl, h1, by rw [Nat.add_assoc, Nat.add_comm 1 i]; exact h2⟩
    obtain ⟨vw, hvw, hvv⟩ := hw2
    have hcl := hcall vw hvw
    generalize tkN t { r with want := l } s.data.toList = er at *
    clear hcall hcon hw hcell hB hp hl hR hvw
    have fin : ∀ w1, RStep n0 W w1 → (er.1 = 0 → RAt n0 B er.2 w1) → (er.1 ≠ 0 ∧ Takes n0 B (takeN r a s.data.toList) W (.returned (.int .i64 er.1)) w1) ∨ (er.1 = 0 ∧ ∃ g cap n, n ≤ 64 ∧ w1.cell? ⟨B, 1, none⟩ = some (.slice (some ⟨g, 0, none⟩) (n + 1) cap) ∧ (∃ old, w1.cell? ⟨g, n, none⟩ = some old) ∧ w1.frozen? ⟨g, n, none⟩ = false ∧ Takes n0 B (takeN r a s.data.toList) W (.returned (.int .i64 0)) (w1.setCell ⟨g, n, none⟩ (.int .i64 a)).drew) := fun w1 h1 h2 => by
      by_cases h0 : er.1 = 0
      · obtain ⟨g, cap, n, g1, g2, g3, g4, g5, g6, g7⟩ := (h2 h0).setLast (hprog h0) a
        refine .inr ⟨h0, g, cap, n, g5, g2, g3, g4, ?_⟩
        rw [HE.out, if_pos h0]
        have hd : Below (w1.setCell ⟨g, n, none⟩ (.int .i64 a)).heap.size (w1.setCell ⟨g, n, none⟩ (.int .i64 a)) (w1.setCell ⟨g, n, none⟩ (.int .i64 a)).drew := (Below.refl _ _).drew
        exact ⟨rfl, (h1.trans g6).trans (.of_below hd (by have := h1.below.size; simp; omega)), fun _ => g7.next hd⟩
      · refine .inl ⟨h0, ?_⟩
        rw [HE.out, if_neg h0]
        exact ⟨rfl, h1, h2⟩
    obtain ⟨ev, er2⟩ := er
    simp only at fin hcl
    generalize Takes n0 B (takeN r a s.data.toList) W = TK at *
    clear hprog HE hok hpne hV
    by_cases hc1 : c = 1
    · subst hc1
      have hl0 : l.length = 0 := by omega
      rw [if_pos rfl, hl0] at hvv
      subst hvv
      go_enter Tryd.func20, Tryd.ntmps20
      go_wp2_with fail
      refine hcl.mono ?_
      rintro e w1 ⟨rfl, h1, h2⟩
      rcases fin w1 h1 h2 with ⟨h0, hT⟩ | ⟨h0, g, cap, n, hn64, g1, ⟨old, g2⟩, g3, hT⟩
      · have h0' : (ev == 0) = false := beq_eq_false_iff_ne.2 h0
        clear fin hcl h2
        go_wp2_with fail
        exact hT
      · subst h0
        clear fin hcl h2 c2 f2
        go_wp2_with fail
        go_big_region
        all_goals go_wp2_with fail
        all_goals exact hT
    · rw [if_neg hc1] at hvv
      subst hvv
      go_enter Tryd.func20, Tryd.ntmps20
      go_wp2_with fail
      refine hcl.mono ?_
      rintro e w1 ⟨rfl, h1, h2⟩
      rcases fin w1 h1 h2 with ⟨h0, hT⟩ | ⟨h0, g, cap, n, hn64, g1, ⟨old, g2⟩, g3, hT⟩
      · have h0' : (ev == 0) = false := beq_eq_false_iff_ne.2 h0
        clear fin hcl h2
        go_wp2_with fail
        exact hT
      · subst h0
        clear fin hcl h2 c2 f2
        go_wp2_with fail
        go_big_region
        all_goals go_wp2_with fail
        all_goals exact hT
end Go.Proofs.YtggehnnbgeffpaaDoor
