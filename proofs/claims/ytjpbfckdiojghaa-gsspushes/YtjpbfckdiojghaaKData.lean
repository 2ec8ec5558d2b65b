/- Stacks: what GssKeeps asks, of lists. -/
import Derived.Test.YtjpbfckdiojghaaLAwake
namespace Go.Proofs.Ytjpbfckdiojghaa
open Go.RowKit

theorem lead_iff {l : List Gn} {node n : Int} : leadB l node n = true ↔ (0 ≤ node ∧ node < l.length ∧ 0 ≤ n ∧ n ≤ 64) := by unfold leadB; simp
theorem back_len {l : List Gn} (h : fitP l) (node n : Int) : (backF l node n).length ≤ 4096 := by
  unfold backF
  split
  · rename_i hc
    have hi := back_in h.links n.toNat [node] (fun z hz => by simp at hz; subst hz; exact ⟨hc.1, hc.2.1⟩)
    have hu : UpL (backN l n.toNat [node]) := by
      cases n.toNat with
      | zero => simp [backN, UpL]
      | succ k => rw [backN_succ]; exact stepN_up List.Pairwise.nil
    exact Nat.le_trans (up_len hu hi) h.1
  · simp
theorem row_data {l : List Gn} {node n : Int} : ∀ r ∈ (pathsF l node n).1, ∃ m : Nat, n = m ∧ m ≤ 64 ∧ r.length = m + 1 ∧ r[0]? = some node ∧ ∃ e, r[m]? = some e ∧ e ∈ backF l node n := by
  intro r hr
  unfold pathsF at hr
  split at hr
  · rename_i hc
    have hc := lead_iff.1 hc
    split at hr
    · unfold rowsG at hr
      obtain ⟨t, ht, rfl⟩ := List.mem_map.1 hr
      refine ⟨n.toNat, by omega, by omega, by simp [tails_len l _ _ t ht], rfl, ?_⟩
      obtain ⟨e, h1, h2⟩ := tails_back l n.toNat node t ht [node] (by simp)
      exact ⟨e, h1, by unfold backF; rw [if_pos hc]; exact h2⟩
    · simp at hr
  · simp at hr
theorem end_data {l : List Gn} {node n : Int} (he : (pathsF l node n).2 = 0) : ∀ k ∈ backF l node n, ∃ r ∈ (pathsF l node n).1, ∃ m : Nat, n = m ∧ r[m]? = some k := by
  intro k hk
  unfold backF at hk
  split at hk
  · rename_i hc
    obtain ⟨nd, hnd, t, ht, hk2⟩ := back_tails l n.toNat [node] k hk
    simp at hnd
    subst hnd
    unfold pathsF at he ⊢
    rw [if_pos (lead_iff.2 hc)] at he ⊢
    split
    · refine ⟨nd :: t, ?_, n.toNat, by omega, hk2⟩
      unfold rowsG
      exact List.mem_map.2 ⟨t, ht, rfl⟩
    · rename_i h4
      rw [if_neg h4] at he
      simp at he
  · simp at hk
theorem rows_few (l : List Gn) (node n : Int) : (pathsF l node n).1.length ≤ 4000 := by
  unfold pathsF
  split
  · split
    · assumption
    · simp
  · simp
/-- What is behind a push is carried over by numbers. -/
structure Carry (l H : List Gn) (s : Int → Int) : Prop where
  fit : fitP H
  find : ∀ (j : Int) (x : Gn), 0 ≤ j → l[j.toNat]? = some x → findN x.st x.pl H 0 = s j ∧ 0 ≤ s j ∧ s j < H.length
  back : ∀ (m : Nat) (node y : Int), 0 ≤ node → node < l.length → y ∈ backN l m [node] → s y ∈ backN H m [s node]
theorem carry_id {l : List Gn} (h : fitP l) : Carry l l id := ⟨h, fun j x hj hx => by
  have := find_up h.up hx
  have h2 := (List.getElem?_eq_some_iff.1 hx).1
  exact ⟨by rw [this]; simp; omega, hj, by simp; omega⟩, fun m node y _ _ hy => hy⟩
theorem carry_push {l : List Gn} (h : fitP l) {f st pl : Int} (hp : pushB l f st pl) : Carry l (pushL l f st pl) (sg l st pl) := ⟨push_fit h hp, fun j x hj hx => by
  have h0 := push_sg l f st pl hj hx
  have h1 := find_up (push_up h.up f st pl) h0
  have h2 := (List.getElem?_eq_some_iff.1 h0).1
  have h3 := sg_ge (l := l) (st := st) (pl := pl) hj
  simp only at h1
  exact ⟨by rw [h1]; omega, h3, by omega⟩, fun m node y h1 h2 hy => back_sg h.links f st pl ⟨h1, h2⟩ m hy⟩
theorem push_any (l : List Gn) (v : Value) (f st pl : Int) (w : World) (hl : SlN l v w) (hf : fitP l) :
    Calls Try.prog 8 #[.agg #[v], .int .i64 f, .int .i64 st, .int .i64 pl] w fun e w' => ∃ a c p b H s, e = .returned (.tuple #[.agg #[.slice a H.length c], .int .i64 p, .bool b]) ∧ SlN H (.slice a H.length c) w' ∧ Carry l H s ∧ Below w.heap.size w w' := by
  by_cases hp : pushB l f st pl
  · refine (push_yes l v f st pl w hl hf hp).mono ?_
    rintro e w' ⟨v', rfl, h1, h2⟩
    obtain ⟨a, c, rfl, _⟩ := id h1
    exact ⟨a, c, _, _, _, _, rfl, h1, carry_push hf hp, h2⟩
  · refine (push_no l v f st pl w hl hf hf.okS hp).mono ?_
    rintro e w' ⟨v', rfl, h1, h2⟩
    obtain ⟨a, c, rfl, _⟩ := id h1
    exact ⟨a, c, _, _, _, _, rfl, h1, carry_id hf, h2⟩
end Go.Proofs.Ytjpbfckdiojghaa
