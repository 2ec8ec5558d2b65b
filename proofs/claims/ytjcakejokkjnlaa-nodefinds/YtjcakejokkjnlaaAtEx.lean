/- That there is a path, and how long it is. -/
import Derived.Test.YtjcakejokkjnlaaPAt
namespace Go.Proofs.Ytjcakejokkjnlaa
theorem atP_ex (f t : Int) (x : Nd) : ∃ p, AtP f t x p := by
  induction x using nd_ind with
  | h x ih =>
    rcases idxN_cases x.kids f t with ⟨_, h⟩ | ⟨j, hj, _, h1, h2⟩
    · exact ⟨[], .stop x h⟩
    · obtain ⟨p, hp⟩ := ih _ (List.getElem_mem hj)
      exact ⟨_, .go x j hj p h1 h2 hp⟩
theorem atP_len {f t : Int} {x : Nd} {p : List Int} (h : AtP f t x p) : p.length < cntN x := by
  induction h with
  | stop x _ => have := cntN_pos x; simp only [List.length_nil]; omega
  | go x j hj p _ _ _ ih => have := cntN_kid hj; simp only [List.length_cons]; omega
end Go.Proofs.Ytjcakejokkjnlaa
