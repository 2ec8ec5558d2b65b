/- Stacks: the document's Back. -/
import Derived.Test.YtjpbfckdiojghaaGFew
namespace Go.Proofs.Ytjpbfckdiojghaa
open Go.RowKit

def putAll (xs l : List Int) : List Int := xs.foldl (fun a x => putL x a) l
def lksAt (l : List Gn) (k : Int) : List Int := ((l[k.toNat]?).map Gn.links).getD []
def stepN (l : List Gn) (cur acc : List Int) : List Int := cur.foldl (fun a k => putAll (lksAt l k) a) acc
def backN (l : List Gn) : Nat → List Int → List Int
  | 0, c => c
  | n + 1, c => backN l n (stepN l c [])
def backF (l : List Gn) (node n : Int) : List Int := if 0 ≤ node ∧ node < l.length ∧ 0 ≤ n ∧ n ≤ 64 then backN l n.toNat [node] else []
def InL (n : Nat) (l : List Int) : Prop := ∀ y ∈ l, 0 ≤ y ∧ y < n
def UpL (l : List Int) : Prop := l.Pairwise (· < ·)
def LinksIn (l : List Gn) : Prop := ∀ x ∈ l, InL l.length x.links

theorem mem_putL {x y : Int} : ∀ {l : List Int}, y ∈ putL x l ↔ y = x ∨ y ∈ l
  | [] => by simp [putL]
  | z :: l => by
    rw [putL]
    split
    · rw [List.mem_cons, mem_putL, List.mem_cons]; exact ⟨fun h => h.elim (fun h => .inr (.inl h)) (fun h => h.elim .inl (fun h => .inr (.inr h))), fun h => h.elim (fun h => .inr (.inl h)) (fun h => h.elim .inl (fun h => .inr (.inr h)))⟩
    · split
      · rename_i h; subst h; simp
      · simp
theorem up_putL {x : Int} : ∀ {l : List Int}, UpL l → UpL (putL x l)
  | [], _ => by simp [putL, UpL]
  | z :: l, h => by
    have h2 : (∀ y ∈ l, z < y) ∧ UpL l := List.pairwise_cons.1 h
    rw [putL]
    split
    · rename_i hz
      refine List.pairwise_cons.2 ⟨fun y hy => ?_, up_putL h2.2⟩
      rcases mem_putL.1 hy with rfl | hy
      · exact hz
      · exact h2.1 y hy
    · split
      · exact h
      · refine List.pairwise_cons.2 ⟨fun y hy => ?_, h⟩
        rcases List.mem_cons.1 hy with rfl | hy
        · omega
        · have := h2.1 y hy; omega
theorem inL_putL {x : Int} {n : Nat} {l : List Int} (h : InL n l) (hx : 0 ≤ x ∧ x < n) : InL n (putL x l) := fun y hy => (mem_putL.1 hy).elim (fun e => e ▸ hx) (h y)
theorem up_len_from {n : Nat} : ∀ {l : List Int} {a : Int}, UpL l → (∀ y ∈ l, a ≤ y ∧ y < n) → a ≤ n → (l.length : Int) ≤ n - a
  | [], a, _, _, ha => by simp; omega
  | z :: l, a, h, hi, ha => by
    have h2 : (∀ y ∈ l, z < y) ∧ UpL l := List.pairwise_cons.1 h
    have hz := hi z (by simp)
    have := up_len_from (l := l) (a := z + 1) h2.2 (fun y hy => ⟨by have := h2.1 y hy; omega, (hi y (by simp [hy])).2⟩) (by omega)
    rw [List.length_cons]
    omega
theorem up_len {n : Nat} {l : List Int} (h : UpL l) (hi : InL n l) : l.length ≤ n := by
  have := up_len_from (a := 0) h hi (by omega)
  omega
theorem lksAt_eq {l : List Gn} {k : Int} {j : Nat} (hk : k = j) (hj : j < l.length) : lksAt l k = l[j].links := by
  subst hk
  simp [lksAt, hj]
theorem putAll_cons {x : Int} {xs l : List Int} : putAll (x :: xs) l = putAll xs (putL x l) := rfl
theorem stepN_cons {g : List Gn} {x : Int} {xs l : List Int} : stepN g (x :: xs) l = stepN g xs (putAll (lksAt g x) l) := rfl
theorem slI_one {w : World} {node : Int} (h : i64B node) {W : World} (hb : Below (w.alloc (Obj.cells #[.int .i64 node] 3)).heap.size (w.alloc (Obj.cells #[.int .i64 node] 3)) W) : SlI [node] (.slice (some ⟨w.heap.size, 0, none⟩) 1 1) W := by
  have h0 : SlI [node] (.slice (some ⟨w.heap.size, 0, none⟩) 1 1) (w.alloc (Obj.cells #[.int .i64 node] 3)) := by
    refine ⟨_, 1, rfl, fun i r hr => ?_, fun e => (by cases e), Nat.le_refl _, fun y hy => by simp at hy; subst hy; exact h⟩
    match i with
    | 0 =>
      simp at hr; subst hr
      exact ⟨_, 0, rfl, by simp, by simp [encI]⟩
    | i + 1 => simp at hr
  exact h0.next hb

end Go.Proofs.Ytjpbfckdiojghaa
