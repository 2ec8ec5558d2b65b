import Derived.Test.YtiamjafecbpfpaaGreatDoorProg
import Derived.WalkKit
import Derived.WalkSpells
import Derived.WalkLawsBesides
import Derived.Deep.QuietTactic
import Derived.BigQuiet
import Derived.Laws.AppendOwnNone
import Derived.Laws.OwnMore
import Derived.Deep.RegionHeld3
import Derived.Deep.AppendLies
import Derived.Deep.DrawnRows
import Derived.OwnWalk
import Derived.Deep.LoopGhost
import Derived.Deep.Cut
import Derived.Laws.AppendOwn

namespace Go.Proofs.YtiamjafecbpfpaaGreatDoor
theorem sA {α:Type} (l:List α) (i:Nat) (a:α):l.toArray.setIfInBounds i a=(l.set i a).toArray:=List.setIfInBounds_toArray ..
theorem s0 {α:Type} (xs:List α) (x a:α):(x :: xs).set 0 a=a :: xs:=List.set_cons_zero ..
theorem sS {α:Type} (xs:List α) (x a:α) (i:Nat):(x :: xs).set (i+1) a=x :: xs.set i a:=List.set_cons_succ ..
def putL (x:Int):List Int→List Int
  | []=>[x]
  | y :: ys=>if y<x then y :: putL x ys else if y=x then y :: ys else x :: y :: ys
def unionL (a b:List Int):List Int:=b.foldl (fun l x=>putL x l) a
def Rising (l:List Int):Prop:=l.Pairwise (· < ·)
theorem mem_putL {x z:Int} {l:List Int}:z∈putL x l↔z=x∨z∈l:=by
  induction l with
  | nil=>simp [putL]
  | cons y ys ih =>
    unfold putL
    split
    · simp [ih]; constructor
      · rintro (h | h | h) <;> simp [h]
      · rintro (h | h | h) <;> simp [h]
    · split
      · rename_i h; subst h; simp
      · simp
theorem rising_putL {x:Int} {l:List Int} (h:Rising l):Rising (putL x l):=by
  induction l with
  | nil=>simp [putL,Rising]
  | cons y ys ih =>
    have h2:=List.pairwise_cons.1 h
    unfold putL
    split
    · rename_i hlt
      refine List.pairwise_cons.2 ⟨?_,ih h2.2⟩
      intro z hz
      rcases mem_putL.1 hz with rfl | hz
      · exact hlt
      · exact h2.1 z hz
    · split
      · exact h
      · rename_i h3 h4
        refine List.pairwise_cons.2 ⟨?_,h⟩
        intro z hz
        rcases List.mem_cons.1 hz with rfl | hz
        · omega
        · have:=h2.1 z hz; omega
theorem mem_unionL {z:Int} {a b:List Int}:z∈unionL a b↔z∈a∨z∈b:=by
  unfold unionL
  induction b generalizing a with
  | nil=>simp
  | cons x xs ih=>simp only [List.foldl_cons]; rw [ih]; rw [mem_putL]; simp only [List.mem_cons,or_assoc,or_left_comm]
theorem rising_unionL {a b:List Int} (h:Rising a):Rising (unionL a b):=by
  unfold unionL
  induction b generalizing a with
  | nil=>exact h
  | cons x xs ih=>exact ih (rising_putL h)
theorem putL_of_mem {x:Int} {l:List Int} (h:Rising l) (hx:x∈l):putL x l=l:=by
  induction l with
  | nil=>cases hx
  | cons y ys ih =>
    have h2:=List.pairwise_cons.1 h
    unfold putL
    split
    · rename_i hlt
      rcases List.mem_cons.1 hx with rfl | hx
      · omega
      · rw [ih h2.2 hx]
    · split
      · rfl
      · rename_i h3 h4
        rcases List.mem_cons.1 hx with rfl | hx
        · exact absurd rfl h4
        · have:=h2.1 x hx; omega
theorem length_putL (x:Int) (l:List Int):l.length≤(putL x l).length∧(putL x l).length≤l.length+1:=by
  induction l with
  | nil=>simp [putL]
  | cons y ys ih =>
    unfold putL
    split
    · simp; omega
    · split <;> simp
theorem length_putL_new {x:Int} {l:List Int} (hx:x ∉ l):(putL x l).length=l.length+1:=by
  induction l with
  | nil=>simp [putL]
  | cons y ys ih =>
    have hy:¬ y=x:=fun h=>hx (by simp [h])
    have hys:x ∉ ys:=fun h=>hx (by simp [h])
    unfold putL
    split
    · simp [ih hys]
    · simp
theorem unionL_of_sub {a b:List Int} (h:Rising a) (hs:∀ x∈b,x∈a):unionL a b=a:=by
  unfold unionL
  induction b with
  | nil=>rfl
  | cons x xs ih =>
    simp only [List.foldl_cons]
    rw [putL_of_mem h (hs x (by simp))]
    exact ih (fun y hy=>hs y (by simp [hy]))
theorem length_unionL (a b:List Int):a.length≤(unionL a b).length∧(unionL a b).length≤a.length+b.length:=by
  unfold unionL
  induction b generalizing a with
  | nil=>simp
  | cons x xs ih =>
    have h1:=ih (putL x a); have h2:=length_putL x a
    simp only [List.foldl_cons,List.length_cons]; omega
theorem sub_of_length_unionL {a b:List Int} (h:Rising a) (hl:(unionL a b).length≤a.length):∀ x∈b,x∈a:=by
  unfold unionL at hl
  induction b generalizing a with
  | nil=>intro x hx; cases hx
  | cons y ys ih =>
    simp only [List.foldl_cons] at hl
    have h1:=length_unionL (putL y a) ys
    unfold unionL at h1
    by_cases hy:y∈a
    · rw [putL_of_mem h hy] at hl
      intro x hx
      rcases List.mem_cons.1 hx with rfl | hx
      · exact hy
      · exact ih h hl x hx
    · have:=length_putL_new hy; omega
theorem rising_ext {a b:List Int} (ha:Rising a) (hb:Rising b) (h:∀ x,x∈a↔x∈b):a=b:=by
  induction a generalizing b with
  | nil =>
    cases b with
    | nil=>rfl
    | cons y ys=>exact absurd ((h y).2 (by simp)) (by simp)
  | cons x xs ih =>
    have h1:=List.pairwise_cons.1 ha
    cases b with
    | nil=>exact absurd ((h x).1 (by simp)) (by simp)
    | cons y ys =>
      have h2:=List.pairwise_cons.1 hb
      have hxy:x=y:=by
        rcases List.mem_cons.1 ((h x).1 (by simp)) with e | e
        · exact e
        · rcases List.mem_cons.1 ((h y).2 (by simp)) with e' | e'
          · exact e'.symm
          · have:=h1.1 y e'; have:=h2.1 x e; omega
      subst hxy
      congr 1
      refine ih h1.2 h2.2 (fun z=>?_)
      constructor
      · intro hz
        rcases List.mem_cons.1 ((h z).1 (by simp [hz])) with e | e
        · have:=h1.1 z hz; omega
        · exact e
      · intro hz
        rcases List.mem_cons.1 ((h z).2 (by simp [hz])) with e | e
        · have:=h2.1 z hz; omega
        · exact e
theorem rising_length {l:List Int} {n:Nat} (h:Rising l) (h0:∀ x∈l,0≤x∧x<n):l.length≤n:=by
  induction n generalizing l with
  | zero =>
    cases l with
    | nil=>simp
    | cons x xs=>have:=h0 x (by simp); omega
  | succ n ih =>
    -- leave n out
    have key:∀ (l:List Int) (lo:Int),Rising l→(∀ x∈l,lo≤x)→∀ (k:Nat),(∀ x∈l,x<lo+k)→l.length≤k:=by
      intro l
      induction l with
      | nil=>intros; simp
      | cons x xs ihx =>
        intro lo hr hlo k hk
        have hr2:=List.pairwise_cons.1 hr
        have hx:=hlo x (by simp); have hx':=hk x (by simp)
        cases k with
        | zero=>omega
        | succ k =>
          have:=ihx (lo+1) hr2.2 (fun z hz=>by have:=hr2.1 z hz; omega) k (fun z hz=>by have:=hk z (by simp [hz]); omega)
          simp; omega
    exact key l 0 h (fun x hx=>(h0 x hx).1) (n+1) (fun x hx=>by have:=(h0 x hx).2; omega)
abbrev Gr:=List (Nat × List Nat)
inductive Der (base:Nat→Prop) (g:Gr):Nat→Prop
  | base {s}:base s→Der base g s
  | prod {l r}:(l,r)∈g→(∀ x,x∈r→Der base g x)→Der base g l
def OnB (L:List Bool) (s:Nat):Prop:=L[s]?=some true
instance (L:List Bool) (s:Nat):Decidable (OnB L s):=inferInstanceAs (Decidable (_=_))
def SoundB (base:Nat→Prop) (g:Gr) (L:List Bool):Prop:=∀ s,OnB L s→Der base g s
def ClosedB (L:List Bool) (p:Nat × List Nat):Prop:=(∀ x∈p.2,OnB L x)→OnB L p.1
theorem onB_set {L:List Bool} {l s:Nat} (h:OnB L s):OnB (L.set l true) s:=by
  unfold OnB at *
  rw [List.getElem?_set]
  split
  · rename_i h1; subst h1
    have:l<L.length:=by
      rcases Nat.lt_or_ge l L.length with h2 | h2
      · exact h2
      · rw [List.getElem?_eq_none h2] at h; cases h
    simp [this]
  · exact h
theorem onB_set_iff {L:List Bool} {l s:Nat} (hl:l<L.length):OnB (L.set l true) s↔s=l∨OnB L s:=by
  unfold OnB
  rw [List.getElem?_set]
  constructor
  · intro h
    split at h
    · rename_i h1; exact Or.inl h1.symm
    · exact Or.inr h
  · rintro (rfl | h)
    · simp [hl]
    · split
      · simp
      · exact h
theorem soundB_set {base g} {L:List Bool} {l r} (h:SoundB base g L) (hl:l<L.length) (hm:(l,r)∈g) (hr:∀ x∈r,OnB L x):SoundB base g (L.set l true):=by
  intro s hs
  rcases (onB_set_iff hl).1 hs with rfl | hs
  · exact .prod hm (fun x hx=>h x (hr x hx))
  · exact h s hs
theorem complete_B {base g} {L:List Bool} (hb:∀ s,base s→OnB L s) (hc:∀ p∈g,ClosedB L p) {s} (h:Der base g s):OnB L s:=by
  induction h with
  | base h=>exact hb _ h
  | prod hm _ ih=>exact hc _ hm ih
def GivesB (base:Nat→Prop) (g:Gr) (n:Nat) (L:List Bool):Prop:=L.length=n∧∀ s,s<n→(OnB L s↔Der base g s)
def offs (L:List Bool):Nat:=(L.filter (fun b=>!b)).length
theorem offs_set {L:List Bool} {l:Nat} (hl:l<L.length) (h:¬ OnB L l):offs (L.set l true)<offs L:=by
  unfold offs
  induction L generalizing l with
  | nil=>simp at hl
  | cons b bs ih =>
    cases l with
    | zero =>
      have:b=false:=by
        unfold OnB at h; simp at h; exact h
      subst this; simp
    | succ l =>
      have:=ih (l:=l) (by simpa using hl) (by unfold OnB at *; simpa using h)
      cases b <;> simp_all
def InR (R:List (List Int)) (s:Nat) (t:Int):Prop:=∃ l,R[s]?=some l∧t∈l
inductive Fst (emp:Nat→Prop) (terms:Nat) (g:Gr):Nat→Int→Prop
  | term {t:Nat}:t<terms→Fst emp terms g t t
  | prod {l pre x post t}:(l,pre++x :: post)∈g→(∀ y,y∈pre→emp y)→Fst emp terms g x t→Fst emp terms g l t
inductive Beg (emp:Nat→Prop) (fst:Nat→Int→Prop) (b:Int→Prop):List Nat→Int→Prop
  | here {x xs t}:fst x t→Beg emp fst b (x :: xs) t
  | next {x xs t}:emp x→Beg emp fst b xs t→Beg emp fst b (x :: xs) t
  | behind {t}:b t→Beg emp fst b [] t
inductive Fol (emp:Nat→Prop) (fst:Nat→Int→Prop) (terms:Nat) (g:Gr):Nat→Int→Prop
  | last:Fol emp fst terms g terms terms
  | first {l pre x post t}:(l,pre++x :: post)∈g→terms≤x→Beg emp fst (fun _=>False) post t→Fol emp fst terms g x t
  | left {l pre x post t}:(l,pre++x :: post)∈g→terms≤x→(∀ y,y∈post→emp y)→Fol emp fst terms g l t→Fol emp fst terms g x t
theorem beg_iff {emp fst} {b:Int→Prop} {l t}:Beg emp fst b l t↔Beg emp fst (fun _=>False) l t∨(∀ y,y∈l→emp y)∧b t:=by
  induction l with
  | nil =>
    constructor
    · intro h; cases h with | behind h=>exact Or.inr ⟨by simp,h⟩
    · rintro (h | h)
      · cases h with | behind h=>exact h.elim
      · exact .behind h.2
  | cons x xs ih =>
    constructor
    · intro h
      cases h with
      | here h=>exact Or.inl (.here h)
      | next h1 h2 =>
        rcases ih.1 h2 with h3 | h3
        · exact Or.inl (.next h1 h3)
        · exact Or.inr ⟨fun y hy=>by rcases List.mem_cons.1 hy with rfl | hy; exact h1; exact h3.1 y hy,h3.2⟩
    · rintro (h | h)
      · cases h with
        | here h=>exact .here h
        | next h1 h2=>exact .next h1 (ih.2 (Or.inl h2))
      · exact .next (h.1 x (by simp)) (ih.2 (Or.inr ⟨fun y hy=>h.1 y (by simp [hy]),h.2⟩))
def ClosedF (emp:Nat→Prop) (R:List (List Int)) (p:Nat × List Nat):Prop :=
  ∀ pre x post,p.2=pre++x :: post→(∀ y,y∈pre→emp y)→∀ t,InR R x t→InR R p.1 t
theorem complete_F {emp terms g} {R:List (List Int)} (hb:∀ t:Nat,t<terms→InR R t t) (hc:∀ p∈g,ClosedF emp R p) {s t} (h:Fst emp terms g s t):InR R s t:=by
  induction h with
  | term h=>exact hb _ h
  | prod hm he _ ih=>exact hc _ hm _ _ _ rfl he _ ih
def GivesR (P:Nat→Int→Prop) (n:Nat) (R:List (List Int)):Prop:=R.length=n∧(∀ l∈R,Rising l)∧∀ s,s<n→∀ t,(InR R s t↔P s t)
theorem inR_get {R:List (List Int)} {s:Nat} (h:s<R.length) {t}:InR R s t↔t∈R[s]:=by
  unfold InR; rw [List.getElem?_eq_getElem h]; simp
def bulk (R:List (List Int)):Nat:=(R.map List.length).sum
theorem bulk_set {R:List (List Int)} {s:Nat} {l:List Int} (hs:s<R.length):bulk (R.set s l)+(R[s]).length=bulk R+l.length:=by
  unfold bulk
  induction R generalizing s with
  | nil=>simp at hs
  | cons x xs ih =>
    cases s with
    | zero=>simp; omega
    | succ s=>have:=ih (s:=s) (by simpa using hs); simp at this ⊢; omega
theorem bulk_le {R:List (List Int)} {k:Nat} (h:∀ l∈R,l.length≤k):bulk R≤R.length * k:=by
  unfold bulk
  induction R with
  | nil=>simp
  | cons x xs ih =>
    have h1:=h x (by simp); have h2:=ih (fun l hl=>h l (by simp [hl]))
    simp [Nat.succ_mul]; omega
end Go.Proofs.YtiamjafecbpfpaaGreatDoor
namespace Go.Proofs.YtiamjafecbpfpaaGreatDoor
open Go.RowKit
theorem ret_int {k:IntKind} {a b:Int} (h:a=b):Ending.returned (.int k a)=.returned (.int k b):=by rw [h]
theorem ret_bool {a b:Bool} (h:a=b):Ending.returned (.bool a)=.returned (.bool b):=by rw [h]
theorem below_then {n:Nat} {w W W':World} (h:Below n w W) (hb:Below W.heap.size W W') (hn:n≤W.heap.size):Below n w W':=h.trans (hb.mono hn)
theorem below_drewN {B:Nat} {a w:World} (h:Below B a w) (n:Nat):Below B a (w.drewN n):=⟨h.os,h.tape,h.output,h.size,h.block⟩
theorem add_plain (b o j:Nat):(⟨b,o,none⟩:Addr).add j=⟨b,o+j,none⟩:=by unfold Addr.add; split <;> simp_all
def i64B (x:Int):Prop:=-9223372036854775808≤x∧x≤9223372036854775807
def RowAt {α:Type} (enc:α→Value) (l:List α) (ao:Option Addr) (W:World):Prop :=
  ∀ (i:Nat) (x:α),l[i]?=some x→∃ b off,ao=some ⟨b,off,none⟩∧b<W.heap.size∧W.cell? ⟨b,off+i,none⟩=some (enc x)
theorem RowAt.next {α:Type} {enc:α→Value} {l:List α} {ao:Option Addr} {W W':World} (h:RowAt enc l ao W) (hb:Below W.heap.size W W'):RowAt enc l ao W':=fun i r hr=>by
  obtain ⟨b,off,h0,h1,h2⟩:=h i r hr
  exact ⟨b,off,h0,Nat.lt_of_lt_of_le h1 hb.size,(hb.cell (p:=⟨b,off+i,none⟩) h1).trans h2⟩
theorem RowAt.nil {α:Type} (enc:α→Value) (ao:Option Addr) (W:World):RowAt enc [] ao W:=fun i r hr=>by simp at hr
theorem RowAt.at {α:Type} {enc:α→Value} {l:List α} {ao:Option Addr} {w W:World} (h:RowAt enc l ao w) (hb:Below w.heap.size w W) {j:Nat} (hj:j<l.length) :
    ∃ b off,ao=some ⟨b,off,none⟩∧b<W.heap.size∧W.cell? ⟨b,off+j,none⟩=some (enc l[j]):=h.next hb j l[j] (by simp [hj])
theorem RowAt.cons_none {α:Type} {enc:α→Value} {l:List α} {W:World} (h:RowAt enc l none W):l=[]:=by
  cases l with
  | nil=>rfl
  | cons r t=>obtain ⟨b,off,h0,_⟩:=h 0 r rfl; cases h0
def encI (x:Int):Value:=.int .i64 x
def encB (x:Bool):Value:=.bool x
def SlI (l:List Int) (v:Value) (W:World):Prop :=
  ∃ ao cap,v=.slice ao l.length cap∧RowAt encI l ao W∧(ao=none→cap=0)∧l.length≤cap∧(∀ x∈l,i64B x)
theorem SlI.next {l:List Int} {v:Value} {W W':World} (h:SlI l v W) (hb:Below W.heap.size W W'):SlI l v W':=by
  obtain ⟨ao,cap,h0,h1,h2,h3,h4⟩:=h
  exact ⟨ao,cap,h0,h1.next hb,h2,h3,h4⟩
def SlB (l:List Bool) (v:Value) (W:World):Prop :=
  ∃ ao cap,v=.slice ao l.length cap∧RowAt encB l ao W∧(ao=none→cap=0)∧l.length≤cap
theorem SlB.next {l:List Bool} {v:Value} {W W':World} (h:SlB l v W) (hb:Below W.heap.size W W'):SlB l v W':=by
  obtain ⟨ao,cap,h0,h1,h2,h3⟩:=h
  exact ⟨ao,cap,h0,h1.next hb,h2,h3⟩
def RowsAt (R:List (List Int)) (ao:Option Addr) (W:World):Prop :=
  ∀ (i:Nat) (l:List Int),R[i]?=some l→∃ b off v,ao=some ⟨b,off,none⟩∧b<W.heap.size∧W.cell? ⟨b,off+i,none⟩=some v∧SlI l v W
theorem RowsAt.next {R:List (List Int)} {ao:Option Addr} {W W':World} (h:RowsAt R ao W) (hb:Below W.heap.size W W'):RowsAt R ao W':=fun i r hr=>by
  obtain ⟨b,off,v,h0,h1,h2,h3⟩:=h i r hr
  exact ⟨b,off,v,h0,Nat.lt_of_lt_of_le h1 hb.size,(hb.cell (p:=⟨b,off+i,none⟩) h1).trans h2,h3.next hb⟩
theorem RowsAt.at {R:List (List Int)} {ao:Option Addr} {w W:World} (h:RowsAt R ao w) (hb:Below w.heap.size w W) {j:Nat} (hj:j<R.length) :
    ∃ b off v,ao=some ⟨b,off,none⟩∧b<W.heap.size∧W.cell? ⟨b,off+j,none⟩=some v∧SlI R[j] v W:=h.next hb j R[j] (by simp [hj])
def SlR (R:List (List Int)) (v:Value) (W:World):Prop :=
  ∃ ao cap,v=.slice ao R.length cap∧RowsAt R ao W∧(ao=none→cap=0)∧R.length≤cap
theorem SlR.next {R:List (List Int)} {v:Value} {W W':World} (h:SlR R v W) (hb:Below W.heap.size W W'):SlR R v W':=by
  obtain ⟨ao,cap,h0,h1,h2,h3⟩:=h
  exact ⟨ao,cap,h0,h1.next hb,h2,h3⟩
def Apart (B:Nat) (v:Value):Prop:=∀ ad n c,v=.slice (some ad) n c→B≤ad.block
theorem Apart.mono {B B':Nat} {v:Value} (h:Apart B v) (hb:B'≤B):Apart B' v:=fun ad n c e=>Nat.le_trans hb (h ad n c e)
theorem Apart.none (B n c:Nat):Apart B (.slice none n c):=fun ad n c e=>by cases e
structure It where
  sym:Int
  fld:ByteArray
  als:ByteArray
structure Pr where
  left:Int
  right:List It
  prec:Int
structure Fl where
  terms:List ByteArray
  nons:List ByteArray
  prods:List Pr
def ItsAt (l:List It) (ao:Option Addr) (W:World):Prop :=
  ∀ (i:Nat) (x:It),l[i]?=some x→∃ b off,ao=some ⟨b,off,none⟩∧b<W.heap.size∧W.cell? ⟨b,off+i * 3,none⟩=some (.int .i64 x.sym)∧W.cell? ⟨b,off+i * 3+1,none⟩=some (.string x.fld)∧W.cell? ⟨b,off+i * 3+2,none⟩=some (.string x.als)∧i64B x.sym∧x.fld.size≤9223372036854775807∧x.als.size≤9223372036854775807
theorem ItsAt.next {l:List It} {ao:Option Addr} {W W':World} (h:ItsAt l ao W) (hb:Below W.heap.size W W'):ItsAt l ao W':=fun i r hr=>by
  obtain ⟨b,off,h0,h1,h2,h3,h4,h5⟩:=h i r hr
  exact ⟨b,off,h0,Nat.lt_of_lt_of_le h1 hb.size,(hb.cell (p:=⟨b,off+i * 3,none⟩) h1).trans h2,(hb.cell (p:=⟨b,off+i * 3+1,none⟩) h1).trans h3,(hb.cell (p:=⟨b,off+i * 3+2,none⟩) h1).trans h4,h5⟩
theorem ItsAt.at {l:List It} {ao:Option Addr} {w W:World} (h:ItsAt l ao w) (hb:Below w.heap.size w W) {j:Nat} (hj:j<l.length) :
    ∃ b off,ao=some ⟨b,off,none⟩∧b<W.heap.size∧W.cell? ⟨b,off+j * 3,none⟩=some (.int .i64 l[j].sym)∧W.cell? ⟨b,off+j * 3+1,none⟩=some (.string l[j].fld)∧W.cell? ⟨b,off+j * 3+2,none⟩=some (.string l[j].als)∧i64B l[j].sym∧l[j].fld.size≤9223372036854775807∧l[j].als.size≤9223372036854775807:=h.next hb j l[j] (by simp [hj])
def SlT (l:List It) (v:Value) (W:World):Prop :=
  ∃ ao cap,v=.slice ao l.length cap∧ItsAt l ao W∧(ao=none→cap=0)∧l.length≤cap∧cap≤140737488351232
theorem SlT.next {l:List It} {v:Value} {W W':World} (h:SlT l v W) (hb:Below W.heap.size W W'):SlT l v W':=by
  obtain ⟨ao,cap,h0,h1,h2,h3⟩:=h
  exact ⟨ao,cap,h0,h1.next hb,h2,h3⟩
def PrsAt (l:List Pr) (ao:Option Addr) (W:World):Prop :=
  ∀ (i:Nat) (p:Pr),l[i]?=some p→∃ b off v,ao=some ⟨b,off,none⟩∧b<W.heap.size∧W.cell? ⟨b,off+i * 3,none⟩=some (.int .i64 p.left)∧W.cell? ⟨b,off+i * 3+1,none⟩=some v∧W.cell? ⟨b,off+i * 3+2,none⟩=some (.int .i64 p.prec)∧SlT p.right v W∧i64B p.left∧i64B p.prec
theorem PrsAt.next {l:List Pr} {ao:Option Addr} {W W':World} (h:PrsAt l ao W) (hb:Below W.heap.size W W'):PrsAt l ao W':=fun i r hr=>by
  obtain ⟨b,off,v,h0,h1,h2,h3,h4,h5,h6⟩:=h i r hr
  exact ⟨b,off,v,h0,Nat.lt_of_lt_of_le h1 hb.size,(hb.cell (p:=⟨b,off+i * 3,none⟩) h1).trans h2,(hb.cell (p:=⟨b,off+i * 3+1,none⟩) h1).trans h3,(hb.cell (p:=⟨b,off+i * 3+2,none⟩) h1).trans h4,h5.next hb,h6⟩
theorem PrsAt.at {l:List Pr} {ao:Option Addr} {w W:World} (h:PrsAt l ao w) (hb:Below w.heap.size w W) {j:Nat} (hj:j<l.length) :
    ∃ b off v,ao=some ⟨b,off,none⟩∧b<W.heap.size∧W.cell? ⟨b,off+j * 3,none⟩=some (.int .i64 l[j].left)∧W.cell? ⟨b,off+j * 3+1,none⟩=some v∧W.cell? ⟨b,off+j * 3+2,none⟩=some (.int .i64 l[j].prec)∧SlT l[j].right v W∧i64B l[j].left∧i64B l[j].prec:=h.next hb j l[j] (by simp [hj])
structure FlA where
  ta:Option Addr
  tc:Nat
  na:Option Addr
  nc:Nat
  pa:Option Addr
  pc:Nat
def FlA.val (a:FlA) (f:Fl):Value:=.agg #[.slice a.ta f.terms.length a.tc,.slice a.na f.nons.length a.nc,.slice a.pa f.prods.length a.pc]
def FlAt (f:Fl) (a:FlA) (W:World):Prop :=
  RowAt Value.string f.terms a.ta W∧RowAt Value.string f.nons a.na W∧PrsAt f.prods a.pa W∧f.terms.length≤140737488351232∧f.nons.length≤140737488351232∧f.prods.length≤140737488351232∧f.prods.length≤a.pc∧(a.pa=none→a.pc=0)
theorem FlAt.next {f:Fl} {a:FlA} {W W':World} (h:FlAt f a W) (hb:Below W.heap.size W W'):FlAt f a W':=by
  obtain ⟨h0,h1,h2,h3⟩:=h
  exact ⟨h0.next hb,h1.next hb,h2.next hb,h3⟩
def Own1 {α:Type} (e:TypeId) (enc:α→Value) (B:Nat) (l:List α) (v:Value) (W:World):Prop:=W.ownsRow B e 1 v l.length (l.map enc)
theorem Own1.nil {α:Type} (e:TypeId) (enc:α→Value) (B:Nat) (W:World):Own1 e enc B [] (.slice none 0 0) W:=World.ownsRow_nil W B e 1
theorem Own1.at_ {α:Type} {e:TypeId} {enc:α→Value} {B:Nat} {l:List α} {v:Value} {W:World} (h:Own1 e enc B l v W) :
    ∃ ao cap,v=.slice ao l.length cap∧RowAt enc l ao W∧(ao=none→cap=0)∧l.length≤cap∧(ao=none∨∃ g,ao=some ⟨g,0,none⟩∧B≤g∧g<W.heap.size):=by
  have h0:=h
  obtain ⟨h1,h2⟩:=h
  rcases h2 with ⟨rfl,hn⟩ | ⟨g,cap,cur,rfl,hB,hg,hcap,hm,hsz,hx⟩
  · obtain rfl:l=[]:=List.eq_nil_of_length_eq_zero hn
    exact ⟨none,0,by simp,RowAt.nil _ _ _,fun _=>rfl,by simp,.inl rfl⟩
  · have hgl:g<W.heap.size:=by
      rcases Nat.lt_or_ge g W.heap.size with h | h
      · exact h
      · rw [Array.getElem?_eq_none h] at hg; cases hg
    refine ⟨some ⟨g,0,none⟩,cap,rfl,fun i x hi=>⟨g,0,rfl,hgl,?_⟩,(fun h=>by cases h),hcap,.inr ⟨g,rfl,hB,hgl⟩⟩
    have:=World.ownsRow.cells h0 (g:=g) rfl i (enc x) (by simp [hi])
    rw [add_plain] at this
    exact this
theorem info3:(Tryz.prog.info? 3).map (fun i=>(i.zero,i.size,i.bytes))=some (some (.int .i64 0),1,8):=by kernel_rfl
theorem info_parts {P:Program} {t:TypeId} {z:Option Value} {s b:Nat} (h:(P.info? t).map (fun i=>(i.zero,i.size,i.bytes))=some (z,s,b)):∃ i,P.info? t=some i∧i.zero=z∧i.size=s∧i.bytes=b:=by
  cases hi:P.info? t with
  | none=>rw [hi] at h; cases h
  | some i=>rw [hi] at h; simp at h; exact ⟨i,rfl,h.1,h.2.1,h.2.2⟩
theorem slice_of_own {W:World} {B n:Nat} {e:TypeId} {v:Value} {xs:List Value} (h:W.ownsRow B e 1 v n xs):∃ a c,v=.slice a n c:=by
  rcases h.2 with ⟨rfl,h'⟩ | ⟨g,c,cur,rfl,_⟩
  · exact ⟨none,0,by rw [h']⟩
  · exact ⟨_,_,rfl⟩
theorem apart_own {W:World} {B n:Nat} {e:TypeId} {v:Value} {xs:List Value} (h:W.ownsRow B e 1 v n xs):Apart B v:=by
  intro ad k c hv
  rcases h.2 with ⟨rfl,_⟩ | ⟨g,c,cur,rfl,hb,_⟩
  · cases hv
  · cases hv; exact hb
theorem new_cell (W:World) (x:Value) (t:TypeId):∀ (k:Nat) (u:Value),[x][k]?=some u→(W.alloc (Obj.cells #[x] t)).cell? ((⟨W.heap.size,0,none⟩:Addr).add k)=some u:=by
  intro k u hk
  cases k with
  | zero=>simp at hk; subst hk; rw [add_plain]; simp
  | succ k=>simp at hk
theorem sli_own {l:List Int} {B:Nat} {v:Value} {W:World} (h:Own1 3 encI B l v W) (hi:∀ y∈l,i64B y):SlI l v W:=by
  obtain ⟨ao,cap,h0,h1,h2,h3,_⟩:=h.at_
  exact ⟨ao,cap,h0,h1,h2,h3,hi⟩
def letB (n:Nat):Bool:=decide ((97≤n∧n≤122)∨(65≤n∧n≤90)∨n=95)
def digB (n:Nat):Bool:=decide (48≤n∧n≤57)
theorem loop_len (bs:ByteArray):∀ (n i:Nat) (r:List UInt8),bs.size - i=n→(ByteArray.toList.loop bs i r).length=r.length+(bs.size - i)
  | 0,i,r,h=>by unfold ByteArray.toList.loop; rw [if_neg (by omega)]; simp; omega
  | n+1,i,r,h=>by
    unfold ByteArray.toList.loop
    rw [if_pos (by omega),loop_len bs n (i+1) _ (by omega)]
    simp; omega
theorem toList_nil (s:ByteArray):s.toList=[]↔s.size=0:=by
  have:=loop_len s s.size 0 [] (by omega)
  unfold ByteArray.toList
  rw [← List.length_eq_zero_iff,this]
  simp
def okB (i:Nat) (c:Nat):Bool:=letB c || (decide (i≠0) && digB c)
def okAt (s:ByteArray) (k:Nat):Bool:=if h:k<s.size then okB k s[k].toNat else true
def nameB (s:ByteArray):Bool:=decide (s.size≠0) && decide (s.size≤32) && (List.range s.size).all (okAt s)
def titlesB (l:List ByteArray):Bool:=l.all fun s=>decide (s.size≠0) && decide (s.size≤80)
def FBox (f:Fl) (a:FlA) (n:Nat) (W:World):Prop :=
  n<W.heap.size∧W.cell? ⟨n,0,none⟩=some (.slice a.ta f.terms.length a.tc)∧W.cell? ⟨n,1,none⟩=some (.slice a.na f.nons.length a.nc)∧W.cell? ⟨n,2,none⟩=some (.slice a.pa f.prods.length a.pc)
theorem FBox.next {f:Fl} {a:FlA} {n:Nat} {W W':World} (h:FBox f a n W) (hb:Below W.heap.size W W'):FBox f a n W' :=
  ⟨Nat.lt_of_lt_of_le h.1 hb.size,(hb.cell (p:=⟨n,0,none⟩) h.1).trans h.2.1,(hb.cell (p:=⟨n,1,none⟩) h.1).trans h.2.2.1,(hb.cell (p:=⟨n,2,none⟩) h.1).trans h.2.2.2⟩
def fobj (f:Fl) (a:FlA) (t:TypeId):Obj:=Obj.cells #[Value.slice a.ta f.terms.length a.tc,Value.slice a.na f.nons.length a.nc,Value.slice a.pa f.prods.length a.pc] t
theorem FBox.new (f:Fl) (a:FlA) (t:TypeId) (w:World):FBox f a w.heap.size (w.alloc (fobj f a t)):=by
  unfold fobj
  refine ⟨by simp,?_,?_,?_⟩ <;> simp
def nameN (s:ByteArray):Bool:=decide (s.size=0) || nameB s
def itemB (n:Int) (x:It):Bool:=decide (0≤x.sym∧x.sym<n) && nameN x.fld && nameN x.als
def prodB (t n:Int) (p:Pr):Bool:=decide (t≤p.left∧p.left<n∧p.right.length≤64∧-10000≤p.prec∧p.prec≤10000) && p.right.all (itemB n)
def prodsB (t n:Int):Int→List Pr→Bool
  | _,[]=>true
  | prev,p :: ps=>decide (prev≤p.left) && prodB t n p && prodsB t n p.left ps
def headB (f:Fl):Bool:=decide (f.nons.length≠0∧f.terms.length+f.nons.length≤600∧f.prods.length≤400) && titlesB f.terms && titlesB f.nons
def fitB (f:Fl):Bool:=headB f && prodsB f.terms.length (f.terms.length+f.nons.length:Nat) f.terms.length f.prods
structure FitP (f:Fl):Prop where
  nons:0<f.nons.length
  size:f.terms.length+f.nons.length≤600
  prods:f.prods.length≤400
  left:∀ p∈f.prods,(f.terms.length:Int)≤p.left∧p.left<(f.terms.length+f.nons.length:Nat)
  right:∀ p∈f.prods,p.right.length≤64
  sym:∀ p∈f.prods,∀ x∈p.right,0≤x.sym∧x.sym<(f.terms.length+f.nons.length:Nat)
theorem prodsB_all {t n:Int}:∀ {l:List Pr} {prev:Int},prodsB t n prev l=true→∀ p∈l,prodB t n p=true
  | [],_,_=>by simp
  | q :: l,prev,h=>by
    rw [prodsB] at h
    simp only [Bool.and_eq_true] at h
    intro p hp
    rcases List.mem_cons.1 hp with rfl | hp
    · exact h.1.2
    · exact prodsB_all h.2 p hp
theorem fit_facts {f:Fl} (h:fitB f=true):FitP f:=by
  unfold fitB headB at h
  simp only [Bool.and_eq_true,decide_eq_true_eq] at h
  obtain ⟨⟨⟨⟨h1,h2,h3⟩,_⟩,_⟩,h4⟩:=h
  have h5:∀ p∈f.prods,(((f.terms.length:Int)≤p.left∧p.left<(f.terms.length+f.nons.length:Nat)∧p.right.length≤64∧-10000≤p.prec∧p.prec≤10000)∧p.right.all (itemB (f.terms.length+f.nons.length:Nat))=true):=fun p hp=>by
    have:=prodsB_all h4 p hp
    unfold prodB at this
    simpa only [Bool.and_eq_true,decide_eq_true_eq] using this
  refine ⟨by omega,h2,h3,fun p hp=>⟨(h5 p hp).1.1,(h5 p hp).1.2.1⟩,fun p hp=>(h5 p hp).1.2.2.1,fun p hp x hx=>?_⟩
  have:=List.all_eq_true.1 (h5 p hp).2 x hx
  unfold itemB at this
  simp only [Bool.and_eq_true,decide_eq_true_eq] at this
  exact this.1.1
def Pr.syms (p:Pr):List Nat:=p.right.map fun x=>x.sym.toNat
def Fl.gr (f:Fl):Gr:=f.prods.map fun p=>(p.left.toNat,p.syms)
def Fl.n (f:Fl):Nat:=f.terms.length+f.nons.length
theorem info4:(Tryz.prog.info? 4).map (fun i=>(i.zero,i.size,i.bytes))=some (some (.bool false),1,1):=by kernel_rfl
theorem made_false (N:Nat):(madeCells #[Value.bool false] N).toList=(List.replicate N false).map encB:=by rw [toList_madeCells_one]; simp [encB]
def onb (L:List Bool) (s:Nat):Bool:=L.getD s false
theorem onb_iff {L:List Bool} {s:Nat}:onb L s=true↔OnB L s:=by
  unfold onb OnB
  rw [List.getD_eq_getElem?_getD]
  cases h:L[s]? with
  | none=>simp
  | some b=>simp
theorem onb_get {L:List Bool} {s:Nat} (h:s<L.length):onb L s=L[s]:=by
  unfold onb; rw [List.getD_eq_getElem?_getD,List.getElem?_eq_getElem h]; rfl
theorem gr_mem {f:Fl} {j:Nat} (h:j<f.prods.length):(f.prods[j].left.toNat,f.prods[j].syms)∈f.gr:=List.mem_map.2 ⟨_,List.getElem_mem h,rfl⟩
end Go.Proofs.YtiamjafecbpfpaaGreatDoor
namespace Go.Proofs.YtiamjafecbpfpaaGreatDoor
def rowAt (R:List (List Int)) (s:Nat):List Int:=R.getD s []
theorem rowAt_get {R:List (List Int)} {s:Nat} (h:s<R.length):rowAt R s=R[s]:=by unfold rowAt; rw [List.getD_eq_getElem?_getD,List.getElem?_eq_getElem h]; rfl
theorem inR_row {R:List (List Int)} {s:Nat} (h:s<R.length) {t:Int}:InR R s t↔t∈rowAt R s:=by rw [inR_get h,rowAt_get h]
theorem rowAt_set {R:List (List Int)} {s x:Nat} {A:List Int} (h:s<R.length):rowAt (R.set s A) x=if x=s then A else rowAt R x:=by
  unfold rowAt
  rw [List.getD_eq_getElem?_getD,List.getD_eq_getElem?_getD,List.getElem?_set]
  by_cases e:s=x
  · subst e; simp [h]
  · rw [if_neg e,if_neg (fun h=>e h.symm)]
theorem fst_lt {emp terms g s t} (h:Fst emp terms g s t):0≤t∧t<terms:=by
  induction h with
  | term h=>omega
  | prod _ _ _ ih=>exact ih
end Go.Proofs.YtiamjafecbpfpaaGreatDoor
namespace Go.Proofs.YtiamjafecbpfpaaGreatDoor
open Go.RowKit
theorem owns_below {W W':World} {B n:Nat} {e:TypeId} {k:Nat} {v:Value} {xs:List Value} (h:W.ownsRow B e k v n xs) (hb:Below W.heap.size W W'):W'.ownsRow B e k v n xs:=by
  refine ⟨h.1,?_⟩
  rcases h.2 with h' | ⟨g,cap,cur,hv,hB,hg,rest⟩
  · exact .inl h'
  · refine .inr ⟨g,cap,cur,hv,hB,?_,rest⟩
    have hgl:g<W.heap.size:=by
      rcases Nat.lt_or_ge g W.heap.size with h | h
      · exact h
      · rw [Array.getElem?_eq_none h] at hg; cases hg
    rw [hb.block g hgl]; exact hg
theorem cell_set_other (W:World) {G s b o:Nat} (u:Value) (h:b≠G):(W.setCell ⟨G,s,none⟩ u).cell? ⟨b,o,none⟩=W.cell? ⟨b,o,none⟩ :=
  World.cell?_of_block (w:=W) (Below.heap_setCell W ⟨G,s,none⟩ u b h)
theorem RowAt.set {α:Type} {enc:α→Value} {l:List α} {ad:Addr} {W:World} {G:Nat} (h:RowAt enc l (some ad) W) (ha:l≠[]→G+1≤ad.block) (s:Nat) (u:Value):RowAt enc l (some ad) (W.setCell ⟨G,s,none⟩ u):=fun i x hi=>by
  obtain ⟨b,off,h0,h1,h2⟩:=h i x hi
  have hb:=ha (fun e=>by rw [e] at hi; simp at hi)
  cases h0
  simp only at hb
  exact ⟨b,off,rfl,by simpa using h1,(cell_set_other W u (by omega)).trans h2⟩
theorem SlI.set {l:List Int} {v:Value} {W:World} {G:Nat} (h:SlI l v W) (ha:Apart (G+1) v) (s:Nat) (u:Value):SlI l v (W.setCell ⟨G,s,none⟩ u):=by
  obtain ⟨ao,cap,rfl,h1,h2,h3,h4⟩:=h
  refine ⟨ao,cap,rfl,?_,h2,h3,h4⟩
  cases ao with
  | none=>rw [h1.cons_none]; exact RowAt.nil _ _ _
  | some ad=>exact h1.set (fun _=>ha ad _ _ rfl) s u
theorem SlB.set {l:List Bool} {v:Value} {W:World} {G:Nat} (h:SlB l v W) (ha:Apart (G+1) v) (s:Nat) (u:Value):SlB l v (W.setCell ⟨G,s,none⟩ u):=by
  obtain ⟨ao,cap,rfl,h1,h2,h3⟩:=h
  refine ⟨ao,cap,rfl,?_,h2,h3⟩
  cases ao with
  | none=>rw [h1.cons_none]; exact RowAt.nil _ _ _
  | some ad=>exact h1.set (fun _=>ha ad _ _ rfl) s u
structure Steady (G:Nat) (C:World→Prop):Prop where
  next:∀ {W W':World},C W→Below W.heap.size W W'→C W'
  set:∀ {W:World} (s:Nat) (u:Value),C W→C (W.setCell ⟨G,s,none⟩ u)
def RowR (N G:Nat) (w1:World) (C:World→Prop) (R:List (List Int)) (W:World):Prop :=
  ∃ vs:List Value,W.ownsRow G 39 1 (.slice (some ⟨G,0,none⟩) N N) N vs∧vs.length=N∧R.length=N∧(∀ (i:Nat) (v:Value),vs[i]?=some v→SlI (rowAt R i) v W∧Apart (G+1) v)∧Below G w1 W∧C W
theorem RowR.below {N G w1 C R W} (h:RowR N G w1 C R W):Below G w1 W:=by obtain ⟨vs,h⟩:=h; exact h.2.2.2.2.1
theorem RowR.len {N G w1 C R W} (h:RowR N G w1 C R W):R.length=N:=by obtain ⟨vs,h⟩:=h; exact h.2.2.1
theorem RowR.lt {N G w1 C R W} (h:RowR N G w1 C R W):G<W.heap.size:=by
  obtain ⟨vs,h,_⟩:=h
  exact (World.ownsRow.lt h G rfl).2
theorem RowR.get {N G w1 C R W} (h:RowR N G w1 C R W) {s:Nat} (hs:s<N):∃ v,W.cell? ⟨G,s,none⟩=some v∧SlI (rowAt R s) v W∧Apart (G+1) v:=by
  obtain ⟨vs,h0,h1,h2,h3,_⟩:=h
  have hl:s<vs.length:=by rw [h1]; exact hs
  refine ⟨vs[s],?_,h3 s _ (List.getElem?_eq_getElem hl)⟩
  rw [World.ownsRow.cellAt h0 s (by omega),List.getElem?_eq_getElem hl]
theorem RowR.frozen {N G w1 C R W} (h:RowR N G w1 C R W) (s:Nat):W.frozen? ⟨G,s,none⟩=false:=by
  obtain ⟨vs,h,_⟩:=h
  exact World.ownsRow.frozenAt h s
theorem RowR.next {N G w1 C R W W'} (h:RowR N G w1 C R W) (hC:Steady G C) (hG:G=w1.heap.size) (hb:Below W.heap.size W W'):RowR N G w1 C R W':=by
  obtain ⟨vs,h0,h1,h2,h3,h4,h5⟩:=h
  exact ⟨vs,owns_below h0 hb,h1,h2,fun i v hv=>⟨(h3 i v hv).1.next hb,(h3 i v hv).2⟩,below_then h4 hb (by rw [hG]; exact h4.size),hC.next h5 hb⟩
theorem RowR.drewN {N G w1 C R W} (h:RowR N G w1 C R W) (hC:Steady G C) (hG:G=w1.heap.size) (m:Nat):RowR N G w1 C R (W.drewN m):=h.next hC hG (below_drewN (Below.refl _ _) m)
theorem RowR.store {N G w1 C R W} (h:RowR N G w1 C R W) (hC:Steady G C) {s:Nat} {l:List Int} {v:Value} (hs:s<N) (hv:SlI l v W) (ha:Apart (G+1) v):RowR N G w1 C (R.set s l) (W.setCell ⟨G,s,none⟩ v):=by
  obtain ⟨vs,h0,h1,h2,h3,h4,h5⟩:=h
  refine ⟨vs.set s v,(World.ownsRow.stored h0 s v).1,by simpa using h1,by simpa using h2,fun i u hu=>?_,h4.setCell (p:=⟨G,s,none⟩) (Nat.le_refl _) _,hC.set _ _ h5⟩
  rw [rowAt_set (by rw [h2]; exact hs)]
  rw [List.getElem?_set] at hu
  by_cases e:s=i
  · subst e
    simp [h1,hs] at hu
    subst hu
    rw [if_pos rfl]
    exact ⟨hv.set ha _ _,ha⟩
  · rw [if_neg e] at hu
    rw [if_neg (fun h=>e h.symm)]
    exact ⟨(h3 i u hu).1.set (h3 i u hu).2 _ _,(h3 i u hu).2⟩
theorem RowR.slR {N G w1 C R W} (h:RowR N G w1 C R W):SlR R (.slice (some ⟨G,0,none⟩) N N) W:=by
  have hl:=h.lt
  have hlen:=h.len
  refine ⟨some ⟨G,0,none⟩,N,by rw [hlen],fun i l hi=>?_,(fun h=>by cases h),by rw [hlen]; exact Nat.le_refl _⟩
  have hi2:i<R.length:=(List.getElem?_eq_some_iff.1 hi).1
  obtain ⟨v,h1,h2,_⟩:=h.get (s:=i) (by omega)
  refine ⟨G,0,v,rfl,hl,by simpa using h1,?_⟩
  rw [rowAt_get hi2] at h2
  rw [List.getElem?_eq_getElem hi2] at hi
  cases hi
  exact h2
theorem info27:(Tryz.prog.info? 39).map (fun i=>(i.zero,i.size,i.bytes))=some (some (.slice none 0 0),1,24):=by kernel_rfl
theorem sli_nil (W:World):SlI [] (.slice none 0 0) W:=⟨none,0,rfl,RowAt.nil _ _ _,fun _=>rfl,Nat.le_refl _,by simp⟩
theorem RowR.made {N:Nat} {w1 W:World} {C:World→Prop} (h:W.ownsRow w1.heap.size 39 1 (.slice (some ⟨w1.heap.size,0,none⟩) N N) N (madeCells #[Value.slice none 0 0] N).toList) (hg:w1.grownBy W none) (hC:C W) :
    RowR N w1.heap.size w1 C (List.replicate N []) W:=by
  rw [toList_madeCells_one] at h
  refine ⟨List.replicate N (.slice none 0 0),h,by simp,by simp,fun i v hv=>?_,(Below.refl _ _).grown hg (Nat.le_refl _) (fun k e=>by cases e),hC⟩
  rw [List.getElem?_replicate] at hv
  split at hv
  · cases hv
    refine ⟨?_,Apart.none _ _ _⟩
    have:rowAt (List.replicate N []) i=[]:=by unfold rowAt; rw [List.getD_eq_getElem?_getD,List.getElem?_replicate]; split <;> rfl
    rw [this]
    exact sli_nil W
  · cases hv
end Go.Proofs.YtiamjafecbpfpaaGreatDoor
namespace Go.Proofs.YtiamjafecbpfpaaGreatDoor
section
variable {P:Program} {ops:Array Oper} {Q:Exit→Act→World→Prop} {md:Region.Mode} {S:World→Prop} {n:Nat}
def wpAnyL (P:Program) (md:Region.Mode) (ops:Array Oper) (Q:Exit→Act→World→Prop) (S:World→Prop) (n:Nat):Nat→Array Bool→Act→World→Prop
  | 0,listed,a,w=>Region.ready md ops listed=[]∧Q .normal a w
  | fuel+1,listed,a,w =>
    (Region.ready md ops listed=[]→Q .normal a w) ∧
    ∀ i∈Region.ready md ops listed,wpOp P ops Q i (fun a' w'=>(i<n→S w')∧wpAnyL P md ops Q S n fuel (listed.setIfInBounds i true) a' w') a w
theorem wpAny_of_L:∀ (fuel:Nat) (listed:Array Bool) (a:Act) (w:World),wpAnyL P md ops Q S n fuel listed a w→wpAny P md ops Q fuel listed a w
  | 0,_,_,_,h=>h
  | fuel+1,_,_,_,h=>⟨h.1,fun i hi=>wpOp_mono (fun a' w' h'=>wpAny_of_L fuel _ a' w' h'.2) (h.2 i hi)⟩
def lateB (md:Region.Mode) (ops:Array Oper) (n i:Nat):Bool :=
  (List.range ops.size).all fun j=>decide (j<n) || ((ops[j]?).map fun o=>o.after.any fun e=>Region.binds md e && e.on == i).getD true
theorem late_spec {i:Nat} (h:lateB md ops n i=true) {j:Nat} {oj:Oper} (hj:ops[j]?=some oj) (hn:¬ j<n):∃ e∈oj.after,Region.binds md e=true∧e.on=i:=by
  have hlt:j<ops.size:=by
    rcases Nat.lt_or_ge j ops.size with h' | h'
    · exact h'
    · rw [Array.getElem?_eq_none h'] at hj; cases hj
  have h1:=List.all_eq_true.1 h j (List.mem_range.2 hlt)
  rw [hj,decide_eq_false hn] at h1
  simp only [Bool.false_or,Option.map_some,Option.getD_some] at h1
  obtain ⟨k,hk,h2⟩:=Array.any_eq_true.1 h1
  simp only [Bool.and_eq_true,beq_iff_eq] at h2
  exact ⟨_,Array.getElem_mem hk,h2⟩
theorem wpAnyL_first {i:Nat} {oi:Oper} {v:Value} (hi:ops[i]?=some oi) (hsel:∀ (j:Nat) (o:Oper) cs b,ops[j]?=some o→o.op≠.select cs b)
    (hQ:∀ c a w,Q (.panic c) (a.put oi.dst v) w→Q (.panic c) a w) (hl:lateB md ops n i=true) :
    ∀ (fuel:Nat) (listed:Array Bool) (a:Act) (w:World),
      (∀ j oj,ops[j]?=some oj→j≠i→listed.getD j true=false→(∀ e∈oj.after,Region.binds md e=true→e.on≠i)→oi.apart ops oj=true) →
      i∈Region.ready md ops listed→YieldsIf P ops S oi v a→S w →
      wpAnyL P md ops Q S n fuel (listed.setIfInBounds i true) (a.put oi.dst v) w→wpAnyL P md ops Q S n (fuel+1) listed a w:=by
  intro fuel
  induction fuel with
  | zero =>
    intro listed a w _ hr hy hS H
    refine ⟨fun h=>(by rw [h] at hr; cases hr),fun j hj=>?_⟩
    by_cases hji:j=i
    · subst hji; exact hy.wpOp hi hS ⟨fun _=>hS,H⟩
    · have:=ready_mono hj hji
      rw [H.1] at this
      cases this
  | succ fuel ih =>
    intro listed a w hfree hr hy hS H
    refine ⟨fun h=>(by rw [h] at hr; cases hr),fun j hj=>?_⟩
    by_cases hji:j=i
    · subst hji; exact hy.wpOp hi hS ⟨fun _=>hS,H⟩
    · have h1:=H.2 j (ready_mono hj hji)
      obtain ⟨hjun,oj,hoj,hall⟩:=mem_ready.1 hj
      have hnot:∀ e∈oj.after,Region.binds md e=true→e.on≠i:=fun e he hb heq=>by
        have h1:=hall e he hb
        have h0:=(mem_ready.1 hr).1
        rw [heq] at h1
        rcases Nat.lt_or_ge i listed.size with h' | h'
        · simp [h'] at h0 h1; rw [h0] at h1; cases h1
        · simp [Array.getElem?_eq_none h'] at h1
      have hjn:j<n:=by
        rcases Nat.lt_or_ge j n with h' | h'
        · exact h'
        · obtain ⟨e,he,hb,heq⟩:=late_spec hl hoj (by omega)
          exact absurd heq (hnot e he hb)
      have h2:=wpOp_putIf hoj (hfree j oj hoj hji hjun hnot) (fun cs b=>hsel i oi cs b hi) (fun cs b=>hsel j oj cs b hoj) hQ hy h1
      have hfree':∀ k ok,ops[k]?=some ok→k≠i→(listed.setIfInBounds j true).getD k true=false →
          (∀ e∈ok.after,Region.binds md e=true→e.on≠i)→oi.apart ops ok=true:=fun k ok hk hki hun hno=>by
        refine hfree k ok hk hki ?_ hno
        by_cases hjk:j=k
        · subst hjk; exact hjun
        · rw [getD_set_ne true hjk] at hun; exact hun
      refine wpOp_mono (fun a' w' h3=>⟨h3.2.1,ih (listed.setIfInBounds j true) a' w' hfree' (ready_mono hr (Ne.symm hji)) h3.1 (h3.2.1 hjn) ?_⟩) h2
      rw [Array.setIfInBounds_comm _ _ hji]
      exact h3.2.2
theorem wpAnyL_take {i:Nat} {oi:Oper} {v:Value} {fuel:Nat} {listed:Array Bool} {a:Act} {w:World} (hi:ops[i]?=some oi)
    (hs:Region.noSelect ops=true) (hf:Region.free md ops listed i=true) (hr:(Region.ready md ops listed).contains i=true) (hl:lateB md ops n i=true)
    (hQ:∀ c a w,Q (.panic c) (a.put oi.dst v) w→Q (.panic c) a w) (hy:YieldsIf P ops S oi v a) (hS:S w)
    (h:wpAnyL P md ops Q S n fuel (listed.setIfInBounds i true) (a.put oi.dst v) w):wpAnyL P md ops Q S n (fuel+1) listed a w :=
  wpAnyL_first hi (Region.noSelect_spec hs) hQ hl fuel listed a w (Region.free_spec hi hf) (by simpa using hr) hy hS h
theorem wpAnyL_one {i:Nat} {o:Oper} {fuel:Nat} {listed:Array Bool} {a:Act} {w:World} (hr:Region.ready md ops listed=[i]) (ho:ops[i]?=some o)
    (h:∀ K':Act→World→Prop,Shut (∀ a w,(i<n→S w)→wpAnyL P md ops Q S n fuel (listed.setIfInBounds i true) a w→K' a w)→if Region.wanted o (yielded ops a.tmps)=true then Oper.wp P o a w K' Q else K' (a.put o.dst undef) w) :
    wpAnyL P md ops Q S n (fuel+1) listed a w:=by
  refine ⟨fun h0=>(by rw [hr] at h0; cases h0),fun j hj=>?_⟩
  rw [hr] at hj
  simp at hj
  subst hj
  exact wpOp_step ho (fun K' hK=>h K' (fun a w hS hW=>hK a w ⟨hS,hW⟩))
def lst (N k:Nat):Array Bool:=(List.replicate k true++List.replicate (N - k) false).toArray
theorem lst_set {N k:Nat} (h:k<N):(lst N k).setIfInBounds k true=lst N (k+1):=by
  unfold lst
  rw [List.setIfInBounds_toArray]
  congr 1
  apply List.ext_getElem
  · simp; omega
  · intro i h1 h2
    rw [List.getElem_set]
    by_cases e:k=i
    · subst e; simp
    · rw [if_neg e]
      rw [List.getElem_append,List.getElem_append]
      by_cases hi:i<k
      · rw [dif_pos (by simpa using hi),dif_pos (by simp; omega)]; simp
      · rw [dif_neg (by simpa using hi),dif_neg (by simp; omega)]; simp
theorem wpL_take {k N:Nat} {oi:Oper} {v:Value} {fuel:Nat} {a:Act} {w:World} (hk:k<N) (hi:ops[k]?=some oi)
    (hs:Region.noSelect ops=true) (hf:Region.free md ops (lst N k) k=true) (hr:(Region.ready md ops (lst N k)).contains k=true) (hl:lateB md ops n k=true)
    (hQ:∀ c a w,Q (.panic c) (a.put oi.dst v) w→Q (.panic c) a w) (hy:YieldsIf P ops S oi v a) (hS:S w)
    (h:wpAnyL P md ops Q S n fuel (lst N (k+1)) (a.put oi.dst v) w):wpAnyL P md ops Q S n (fuel+1) (lst N k) a w :=
  wpAnyL_take hi hs hf hr hl hQ hy hS (by rw [lst_set hk]; exact h)
theorem wpL_one {k N:Nat} {o:Oper} {fuel:Nat} {a:Act} {w:World} (hk:k<N) (hr:Region.ready md ops (lst N k)=[k]) (ho:ops[k]?=some o)
    (h:∀ K':Act→World→Prop,Shut (∀ a w,(k<n→S w)→wpAnyL P md ops Q S n fuel (lst N (k+1)) a w→K' a w)→if Region.wanted o (yielded ops a.tmps)=true then Oper.wp P o a w K' Q else K' (a.put o.dst undef) w) :
    wpAnyL P md ops Q S n (fuel+1) (lst N k) a w :=
  wpAnyL_one hr ho (by rw [lst_set hk]; exact h)
theorem wpAnyL_done {listed:Array Bool} {a:Act} {w:World} (hr:Region.ready md ops listed=[]) (h:Q .normal a w) :
    ∀ fuel,wpAnyL P md ops Q S n fuel listed a w
  | 0=>⟨hr,h⟩
  | _+1=>⟨fun _=>h,by rw [hr]; simp⟩
theorem wp_region_L {id:Nat} {a:Act} {w:World} (S:World→Prop) (n:Nat) (hm:P.follows .mixedOrders=true)
    (N:Nat) (hN:ops.size=N) (h:wpAnyL P .any ops Q S n N (lst N 0) a w.drew):(Code.region id ops true).wp P Q a w:=by
  refine wp_region_any hm (wpAny_of_L (S:=S) (n:=n) _ _ _ _ ?_)
  have e:lst N 0=Array.replicate ops.size false:=by rw [hN]; simp [lst]
  rw [← e,hN]
  exact h
end
theorem lk {P:Program} {md:Region.Mode} {ops:Array Oper} {Q:Exit→Act→World→Prop} {S:World→Prop} {n i N:Nat} (oi:Oper) {v:Value} {fuel:Nat} {a:Act} {w:World} (hS:S w) (h:wpAnyL P md ops Q S n fuel (lst N (i+1)) (a.put oi.dst v) w)
 (hy:∀ w,S w→(execOp a.eval oi).run P w=.ok (.value v) w:=by intro W hSW; go_simp; try with_reducible rfl)
 (hk:i<N:=by decide) (hi:ops[i]?=some oi:=by rfl) (hs:Region.noSelect ops=true:=by kernel_rfl) (hf:Region.free md ops (lst N i) i=true:=by kernel_rfl) (hr:(Region.ready md ops (lst N i)).contains i=true:=by kernel_rfl) (hl:lateB md ops n i=true:=by kernel_rfl)
 (hQ:∀ c a w,Q (.panic c) (a.put oi.dst v) w→Q (.panic c) a w:=by first | exact fun _ _ _ h=>h | exact fun _ _ _ h=>(And.left (show (∀ c,_≠Exit.panic c)∧_ from h) _ rfl).elim) (hw:Region.wanted oi (yielded ops a.tmps)=true:=by rfl):wpAnyL P md ops Q S n (fuel+1) (lst N i) a w :=
 wpL_take hk hi hs hf hr hl hQ (Or.inl ⟨hw,hy⟩) hS h
theorem lu {P:Program} {md:Region.Mode} {ops:Array Oper} {Q:Exit→Act→World→Prop} {S:World→Prop} {n i N:Nat} (oi:Oper) {fuel:Nat} {a:Act} {w:World} (hS:S w) (h:wpAnyL P md ops Q S n fuel (lst N (i+1)) (a.put oi.dst undef) w)
 (hk:i<N:=by decide) (hi:ops[i]?=some oi:=by rfl) (hs:Region.noSelect ops=true:=by kernel_rfl) (hf:Region.free md ops (lst N i) i=true:=by kernel_rfl) (hr:(Region.ready md ops (lst N i)).contains i=true:=by kernel_rfl) (hl:lateB md ops n i=true:=by kernel_rfl)
 (hQ:∀ c a w,Q (.panic c) (a.put oi.dst undef) w→Q (.panic c) a w:=by first | exact fun _ _ _ h=>h | exact fun _ _ _ h=>(And.left (show (∀ c,_≠Exit.panic c)∧_ from h) _ rfl).elim) (hw:Region.wanted oi (yielded ops a.tmps)=false:=by rfl):wpAnyL P md ops Q S n (fuel+1) (lst N i) a w :=
 wpL_take hk hi hs hf hr hl hQ (Or.inr ⟨hw,rfl⟩) hS h
end Go.Proofs.YtiamjafecbpfpaaGreatDoor
namespace Go.Proofs.YtiamjafecbpfpaaGreatDoor
open Go.RowKit
def EmpP (f:Fl):Nat→Prop:=Der (fun _=>False) f.gr
def FstP (f:Fl):Nat→Int→Prop:=Fst (EmpP f) f.terms.length f.gr
theorem RowR.with {N G w1 R W} {C C':World→Prop} (h:RowR N G w1 C R W) (hC:C W→C' W):RowR N G w1 C' R W:=by
  obtain ⟨vs,h0,h1,h2,h3,h4,h5⟩:=h
  exact ⟨vs,h0,h1,h2,h3,h4,hC h5⟩
end Go.Proofs.YtiamjafecbpfpaaGreatDoor
namespace Go.Proofs.YtiamjafecbpfpaaGreatDoor
abbrev Ir:=Int × Int × Int
def ltI (a b:Ir):Prop:=a.1<b.1∨(a.1=b.1∧(a.2.1<b.2.1∨(a.2.1=b.2.1∧a.2.2<b.2.2)))
instance (a b:Ir):Decidable (ltI a b):=by unfold ltI; exact inferInstance
theorem ltI_irrefl (a:Ir):¬ ltI a a:=by unfold ltI; omega
theorem ltI_trans {a b c:Ir} (h:ltI a b) (k:ltI b c):ltI a c:=by unfold ltI at *; omega
theorem ir_ext {a b:Ir} (h1:a.1=b.1) (h2:a.2.1=b.2.1) (h3:a.2.2=b.2.2):a=b:=by
  obtain ⟨a1,a2,a3⟩:=a; obtain ⟨b1,b2,b3⟩:=b; simp_all
theorem ltI_total {a b:Ir} (h:¬ ltI a b) (k:¬ a=b):ltI b a:=by
  unfold ltI at *
  have:¬ (a.1=b.1∧a.2.1=b.2.1∧a.2.2=b.2.2):=fun ⟨h1,h2,h3⟩=>k (ir_ext h1 h2 h3)
  omega
def RisingI (l:List Ir):Prop:=l.Pairwise ltI
theorem RisingI.nodup {l:List Ir} (h:RisingI l):l.Nodup:=by
  unfold RisingI at h
  exact h.imp (fun {a b} hab (e:a=b)=>ltI_irrefl a (by rw [← e] at hab; exact hab))
theorem risingI_ext {a b:List Ir} (ha:RisingI a) (hb:RisingI b) (h:∀ x,x∈a↔x∈b):a=b:=by
  induction a generalizing b with
  | nil =>
    cases b with
    | nil=>rfl
    | cons y ys=>exact absurd ((h y).2 (by simp)) (by simp)
  | cons x xs ih =>
    have h1:=List.pairwise_cons.1 ha
    cases b with
    | nil=>exact absurd ((h x).1 (by simp)) (by simp)
    | cons y ys =>
      have h2:=List.pairwise_cons.1 hb
      have e:x=y:=by
        rcases List.mem_cons.1 ((h x).1 (by simp)) with e | e
        · exact e
        · rcases List.mem_cons.1 ((h y).2 (by simp)) with k | k
          · exact k.symm
          · exact absurd (ltI_trans (h1.1 y k) (h2.1 x e)) (ltI_irrefl x)
      subst e
      rw [ih h1.2 h2.2 (fun z=>?_)]
      constructor
      · intro hz
        rcases List.mem_cons.1 ((h z).1 (by simp [hz])) with e | e
        · subst e; exact absurd (h1.1 z hz) (ltI_irrefl z)
        · exact e
      · intro hz
        rcases List.mem_cons.1 ((h z).2 (by simp [hz])) with e | e
        · subst e; exact absurd (h2.1 z hz) (ltI_irrefl z)
        · exact e
def putI (x:Ir):List Ir→List Ir
  | []=>[x]
  | y :: ys=>if ltI y x then y :: putI x ys else if y=x then y :: ys else x :: y :: ys
theorem mem_putI {x z:Ir} {l:List Ir}:z∈putI x l↔z=x∨z∈l:=by
  induction l with
  | nil=>simp [putI]
  | cons y ys ih =>
    unfold putI
    split
    · rw [List.mem_cons,ih,List.mem_cons]; constructor
      · rintro (h | h | h) <;> simp [h]
      · rintro (h | h | h) <;> simp [h]
    · split
      · rename_i h; subst h; simp
      · simp
theorem rising_putI {x:Ir} {l:List Ir} (h:RisingI l):RisingI (putI x l):=by
  induction l with
  | nil=>simp [putI,RisingI]
  | cons y ys ih =>
    have h2:=List.pairwise_cons.1 h
    unfold putI
    split
    · rename_i hlt
      refine List.pairwise_cons.2 ⟨fun z hz=>?_,ih h2.2⟩
      rcases mem_putI.1 hz with rfl | hz
      · exact hlt
      · exact h2.1 z hz
    · split
      · exact h
      · rename_i h3 h4
        have hxy:=ltI_total h3 h4
        refine List.pairwise_cons.2 ⟨fun z hz=>?_,h⟩
        rcases List.mem_cons.1 hz with rfl | hz
        · exact hxy
        · exact ltI_trans hxy (h2.1 z hz)
def wholeI (f:Fl):It:=⟨f.terms.length,⟨#[]⟩,⟨#[]⟩⟩
def rightI (f:Fl) (p:Int):List It:=if p<0 then [wholeI f] else match f.prods[p.toNat]? with | some q=>q.right | none=>[]
def fitI (f:Fl) (x:Ir):Bool:=decide (-1≤x.1∧x.1<f.prods.length∧0≤x.2.1∧x.2.1≤(rightI f x.1).length∧0≤x.2.2∧x.2.2≤f.terms.length)
theorem fitI_iff {f:Fl} {x:Ir}:fitI f x=true↔(-1≤x.1∧x.1<f.prods.length∧0≤x.2.1∧x.2.1≤(rightI f x.1).length∧0≤x.2.2∧x.2.2≤f.terms.length):=by unfold fitI; rw [decide_eq_true_eq]
def nextI (f:Fl) (x:Ir):Option Int:=if fitI f x=true then ((rightI f x.1)[x.2.1.toNat]?).map (·.sym) else none
def behI (f:Fl) (x:Ir):List Nat:=((rightI f x.1).drop (x.2.1.toNat+1)).map (fun y=>y.sym.toNat)
def LookP (f:Fl) (x:Ir) (t:Int):Prop:=Beg (EmpP f) (FstP f) (fun t=>t=x.2.2) (behI f x) t
inductive Cl (f:Fl) (S:Ir→Prop):Ir→Prop
  | base {x}:S x→fitI f x=true→Cl f S x
  | step {x s t} {q:Nat} {p:Pr}:Cl f S x→nextI f x=some s→f.prods[q]?=some p→p.left=s→LookP f x t→Cl f S ((q:Int),(0:Int),t)
theorem nextI_fit {f:Fl} {x:Ir} {s:Int} (h:nextI f x=some s):fitI f x=true:=by
  unfold nextI at h; split at h
  · assumption
  · cases h
theorem rightI_nat {f:Fl} {q:Nat} {p:Pr} (h:f.prods[q]?=some p):rightI f q=p.right:=by
  unfold rightI; rw [if_neg (by omega),Int.toNat_natCast,h]
theorem rightI_neg {f:Fl} {p:Int} (h:p<0):rightI f p=[wholeI f]:=by unfold rightI; rw [if_pos h]
theorem rightI_le {f:Fl} (hp:FitP f) (p:Int):(rightI f p).length≤64:=by
  unfold rightI; split
  · simp
  · cases h:f.prods[p.toNat]? with
    | none=>simp
    | some q=>exact hp.right q (List.mem_of_getElem? h)
theorem rightI_sym {f:Fl} (hp:FitP f) {p:Int} {y:It} (hy:y∈rightI f p):0≤y.sym∧y.sym<(f.n:Int):=by
  unfold rightI at hy; split at hy
  · simp at hy; subst hy
    have:=hp.nons
    unfold wholeI Fl.n; simp only; omega
  · cases h:f.prods[p.toNat]? with
    | none=>rw [h] at hy; simp at hy
    | some q=>rw [h] at hy; exact hp.sym q (List.mem_of_getElem? h) y hy
theorem behI_lt {f:Fl} (hp:FitP f) {x:Ir}:∀ y∈behI f x,y<f.n:=by
  intro y hy
  unfold behI at hy
  obtain ⟨z,hz,rfl⟩:=List.mem_map.1 hy
  have:=rightI_sym hp (List.mem_of_mem_drop hz)
  omega
theorem behI_core {f:Fl} {x y:Ir} (h1:x.1=y.1) (h2:x.2.1=y.2.1):behI f x=behI f y:=by unfold behI; rw [h1,h2]
theorem begF_lt {emp:Nat→Prop} {fst:Nat→Int→Prop} {n:Nat} (hf:∀ s t,fst s t→0≤t∧t<n) {l:List Nat} {t:Int} (h:Beg emp fst (fun _=>False) l t):0≤t∧t<n:=by
  induction h with
  | here h=>exact hf _ _ h
  | next _ _ ih=>exact ih
  | behind h=>exact h.elim
theorem look_le {f:Fl} {x:Ir} {t:Int} (hx:fitI f x=true) (h:LookP f x t):0≤t∧t≤f.terms.length:=by
  rcases beg_iff.1 h with h | h
  · have:=begF_lt (n:=f.terms.length) (fun s t h=>fst_lt h) h; omega
  · have:=fitI_iff.1 hx; rw [h.2]; omega
theorem fit_zero {f:Fl} {q:Nat} {p:Pr} {t:Int} (h:f.prods[q]?=some p) (ht:0≤t∧t≤f.terms.length):fitI f ((q:Int),(0:Int),t)=true:=by
  have:=(List.getElem?_eq_some_iff.1 h).1
  rw [fitI_iff]; simp only; omega
theorem cl_fit {f:Fl} {S:Ir→Prop} {x:Ir} (h:Cl f S x):fitI f x=true:=by
  induction h with
  | base _ h=>exact h
  | step _ hn hq _ hl ih=>exact fit_zero hq (look_le ih hl)
theorem cl_least {f:Fl} {S A:Ir→Prop} (h0:∀ x,S x→fitI f x=true→A x) (h1:∀ x s t (q:Nat) (p:Pr),A x→nextI f x=some s→f.prods[q]?=some p→p.left=s→LookP f x t→A ((q:Int),(0:Int),t)) {x:Ir} (h:Cl f S x):A x:=by
  induction h with
  | base k1 k2=>exact h0 _ k1 k2
  | step _ hn hq hl hk ih=>exact h1 _ _ _ _ _ ih hn hq hl hk
theorem cl_dot {f:Fl} {S:Ir→Prop} {x:Ir} (h:Cl f S x):S x∨(0≤x.1∧x.2.1=0):=by
  cases h with
  | base h _=>exact .inl h
  | step _ _ _ _ _=>right; simp
def codeI (x:Ir):Nat:=((x.1+1).toNat * 66+x.2.1.toNat) * 602+x.2.2.toNat
def maxI:Nat:=16000000
theorem items_le {f:Fl} (hp:FitP f) {L:List Ir} (hn:L.Nodup) (hf:∀ x∈L,fitI f x=true):L.length≤maxI:=by
  have hb:∀ x∈L,x.1+1≤400∧0≤x.1+1∧0≤x.2.1∧x.2.1≤64∧0≤x.2.2∧x.2.2≤600:=fun x hx=>by
    have h1:=fitI_iff.1 (hf x hx)
    have h2:=rightI_le hp x.1
    have h3:=hp.prods
    have h4:=hp.size
    omega
  have hm:(L.map codeI).Nodup:=by
    unfold List.Nodup at hn ⊢
    rw [List.pairwise_map]
    refine hn.imp_of_mem (fun {a b} ha hb' hab e=>hab ?_)
    have h1:=hb a ha
    have h2:=hb b hb'
    unfold codeI at e
    exact ir_ext (by omega) (by omega) (by omega)
  have:=hm.length_le_of_subset (l₂:=List.range 16000000) (fun y hy=>by
    obtain ⟨x,hx,rfl⟩:=List.mem_map.1 hy
    have h1:=hb x hx
    rw [List.mem_range]
    unfold codeI
    omega)
  simpa [maxI] using this
def ClosI (f:Fl) (S:Ir→Prop) (L:List Ir):Prop:=RisingI L∧∀ x,x∈L↔Cl f S x
theorem closI_unique {f:Fl} {S:Ir→Prop} {L M:List Ir} (h:ClosI f S L) (k:ClosI f S M):L=M:=risingI_ext h.1 k.1 (fun x=>by rw [h.2,k.2])
theorem ClosI.len {f:Fl} {S:Ir→Prop} {L:List Ir} (hp:FitP f) (h:ClosI f S L):L.length≤maxI:=items_le hp h.1.nodup (fun x hx=>cl_fit ((h.2 x).1 hx))
def movedL (f:Fl) (l:List Ir) (s:Int):List Ir:=(l.filter fun x=>decide (nextI f x=some s)).map fun x=>(x.1,x.2.1+1,x.2.2)
def begL (f:Fl):List Ir:=[(-1,0,f.terms.length)]
theorem nextI_some {f:Fl} {x:Ir} {s:Int} (h:nextI f x=some s):fitI f x=true∧∃ y,(rightI f x.1)[x.2.1.toNat]?=some y∧y.sym=s:=by
  have hf:=nextI_fit h
  unfold nextI at h
  rw [if_pos hf] at h
  obtain ⟨y,hy,rfl⟩:=Option.map_eq_some_iff.1 h
  exact ⟨hf,y,hy,rfl⟩
theorem nextI_lt {f:Fl} (hp:FitP f) {x:Ir} {s:Int} (h:nextI f x=some s):0≤s∧s<(f.n:Int):=by
  obtain ⟨_,y,hy,rfl⟩:=nextI_some h
  exact rightI_sym hp (List.mem_of_getElem? hy)
theorem moved_fit {f:Fl} {x:Ir} {s:Int} (h:nextI f x=some s):fitI f (x.1,x.2.1+1,x.2.2)=true:=by
  obtain ⟨hf,y,hy,_⟩:=nextI_some h
  have:=(List.getElem?_eq_some_iff.1 hy).1
  rw [fitI_iff] at hf ⊢
  simp only
  omega
theorem movedL_fit {f:Fl} {l:List Ir} {s:Int}:∀ x∈movedL f l s,fitI f x=true:=by
  intro x hx
  unfold movedL at hx
  obtain ⟨y,hy,rfl⟩:=List.mem_map.1 hx
  have:=(List.mem_filter.1 hy).2
  exact moved_fit (of_decide_eq_true this)
theorem begL_fit {f:Fl}:∀ x∈begL f,fitI f x=true:=by
  intro x hx
  simp [begL] at hx; subst hx
  rw [fitI_iff]; simp only
  rw [rightI_neg (by omega)]
  simp
  omega
end Go.Proofs.YtiamjafecbpfpaaGreatDoor
namespace Go.Proofs.YtiamjafecbpfpaaGreatDoor
open Go.RowKit
def encR (x:Ir):List Value:=[.int .i64 x.1,.int .i64 x.2.1,.int .i64 x.2.2]
def valR (x:Ir):Value:=.agg #[.int .i64 x.1,.int .i64 x.2.1,.int .i64 x.2.2]
def okR (x:Ir):Prop:=i64B x.1∧i64B x.2.1∧i64B x.2.2
def IrsAt (l:List Ir) (ao:Option Addr) (W:World):Prop :=
  ∀ (i:Nat) (x:Ir),l[i]?=some x→∃ b off,ao=some ⟨b,off,none⟩∧b<W.heap.size∧W.cell? ⟨b,off+i * 3,none⟩=some (.int .i64 x.1)∧W.cell? ⟨b,off+i * 3+1,none⟩=some (.int .i64 x.2.1)∧W.cell? ⟨b,off+i * 3+2,none⟩=some (.int .i64 x.2.2)∧okR x
theorem IrsAt.nil (ao:Option Addr) (W:World):IrsAt [] ao W:=fun i x h=>by simp at h
theorem IrsAt.next {l:List Ir} {ao:Option Addr} {W W':World} (h:IrsAt l ao W) (hb:Below W.heap.size W W'):IrsAt l ao W':=fun i r hr=>by
  obtain ⟨b,off,h0,h1,h2,h3,h4,h5⟩:=h i r hr
  exact ⟨b,off,h0,Nat.lt_of_lt_of_le h1 hb.size,(hb.cell (p:=⟨b,off+i * 3,none⟩) h1).trans h2,(hb.cell (p:=⟨b,off+i * 3+1,none⟩) h1).trans h3,(hb.cell (p:=⟨b,off+i * 3+2,none⟩) h1).trans h4,h5⟩
theorem IrsAt.at {l:List Ir} {ao:Option Addr} {w W:World} (h:IrsAt l ao w) (hb:Below w.heap.size w W) {j:Nat} (hj:j<l.length) :
    ∃ b off,ao=some ⟨b,off,none⟩∧b<W.heap.size∧W.cell? ⟨b,off+j * 3,none⟩=some (.int .i64 l[j].1)∧W.cell? ⟨b,off+j * 3+1,none⟩=some (.int .i64 l[j].2.1)∧W.cell? ⟨b,off+j * 3+2,none⟩=some (.int .i64 l[j].2.2)∧okR l[j]:=h.next hb j l[j] (by simp [hj])
theorem IrsAt.ok {l:List Ir} {ao:Option Addr} {W:World} (h:IrsAt l ao W):∀ x∈l,okR x:=fun x hx=>by
  obtain ⟨i,hi,rfl⟩:=List.getElem_of_mem hx
  obtain ⟨_,_,_,_,_,_,_,h5⟩:=h.at (Below.refl _ _) hi
  exact h5
def SlL (l:List Ir) (v:Value) (W:World):Prop :=
  ∃ ao cap,v=.slice ao l.length cap∧IrsAt l ao W∧(ao=none→cap=0)∧l.length≤cap
theorem SlL.next {l:List Ir} {v:Value} {W W':World} (h:SlL l v W) (hb:Below W.heap.size W W'):SlL l v W':=by
  obtain ⟨ao,cap,h0,h1,h2⟩:=h
  exact ⟨ao,cap,h0,h1.next hb,h2⟩
theorem SlL.ok {l:List Ir} {v:Value} {W:World} (h:SlL l v W):∀ x∈l,okR x:=by
  obtain ⟨ao,cap,h0,h1,h2⟩:=h
  exact h1.ok
theorem SlL.nil (W:World):SlL [] (.slice none 0 0) W:=⟨none,0,rfl,IrsAt.nil _ _,fun _=>rfl,Nat.le_refl _⟩
def OwnL (B:Nat) (l:List Ir) (v:Value) (W:World):Prop:=W.ownsRow B 110 3 v l.length (l.flatMap encR)
theorem flatR_get:∀ {l:List Ir} {i c:Nat} {x:Ir},l[i]?=some x→c<3→(l.flatMap encR)[i * 3+c]?=(encR x)[c]?
  | y :: l,0,c,x,h,hc=>by
    simp at h; subst h
    rw [List.flatMap_cons,Nat.zero_mul,Nat.zero_add,List.getElem?_append_left (by simp [encR]; exact hc)]
  | y :: l,i+1,c,x,h,hc=>by
    simp at h
    rw [List.flatMap_cons,List.getElem?_append_right (by simp [encR]; omega)]
    have e:(i+1) * 3+c - (encR y).length=i * 3+c:=by simp [encR]; omega
    rw [e]
    exact flatR_get h hc
theorem OwnL.nil (B:Nat) (W:World):OwnL B [] (.slice none 0 0) W:=World.ownsRow_nil W B _ 3
theorem OwnL.at_ {B:Nat} {l:List Ir} {v:Value} {W:World} (h:OwnL B l v W) (hok:∀ x∈l,okR x) :
    ∃ ao cap,v=.slice ao l.length cap∧IrsAt l ao W∧(ao=none→cap=0)∧l.length≤cap∧(ao=none∨∃ g,ao=some ⟨g,0,none⟩∧B≤g∧g<W.heap.size):=by
  have h0:=h
  obtain ⟨h1,h2⟩:=h
  rcases h2 with ⟨rfl,hn⟩ | ⟨g,cap,cur,rfl,hB,hg,hcap,hm,hsz,hx⟩
  · obtain rfl:l=[]:=List.eq_nil_of_length_eq_zero hn
    exact ⟨none,0,by simp,IrsAt.nil _ _,fun _=>rfl,by simp,.inl rfl⟩
  · have hgl:g<W.heap.size:=(Array.getElem?_eq_some_iff.1 hg).1
    refine ⟨some ⟨g,0,none⟩,cap,rfl,fun i x hi=>⟨g,0,rfl,hgl,?_,?_,?_,hok x (List.mem_of_getElem? hi)⟩,(fun h=>by cases h),hcap,.inr ⟨g,rfl,hB,hgl⟩⟩
    · have:=World.ownsRow.cells h0 (g:=g) rfl (i * 3+0) (.int .i64 x.1) (by rw [flatR_get hi (by omega)]; rfl)
      rw [add_plain] at this
      simpa using this
    · have:=World.ownsRow.cells h0 (g:=g) rfl (i * 3+1) (.int .i64 x.2.1) (by rw [flatR_get hi (by omega)]; rfl)
      rw [add_plain] at this
      simpa [Nat.add_assoc] using this
    · have:=World.ownsRow.cells h0 (g:=g) rfl (i * 3+2) (.int .i64 x.2.2) (by rw [flatR_get hi (by omega)]; rfl)
      rw [add_plain] at this
      simpa [Nat.add_assoc] using this
theorem OwnL.sl {B:Nat} {l:List Ir} {v:Value} {W:World} (h:OwnL B l v W) (hok:∀ x∈l,okR x):SlL l v W:=by
  obtain ⟨ao,cap,h0,h1,h2,h3,_⟩:=h.at_ hok
  exact ⟨ao,cap,h0,h1,h2,h3⟩
theorem slice_of_ownK {W:World} {B n k:Nat} {e:TypeId} {v:Value} {xs:List Value} (h:W.ownsRow B e k v n xs):∃ a c,v=.slice a n c:=by
  rcases h.2 with ⟨rfl,h'⟩ | ⟨g,c,cur,rfl,_⟩
  · exact ⟨none,0,by rw [h']⟩
  · exact ⟨_,_,rfl⟩
theorem infoLr:(Tryz.prog.info? 110).map (fun i=>(i.zero,i.size,i.bytes))=some (some (.agg #[.int .i64 0,.int .i64 0,.int .i64 0]),3,24):=by kernel_rfl
theorem new_cellR (W:World) (x:Ir) (t:TypeId):∀ (k:Nat) (u:Value),(encR x)[k]?=some u→(W.alloc (Obj.cells #[.int .i64 x.1,.int .i64 x.2.1,.int .i64 x.2.2] t)).cell? ((⟨W.heap.size,0,none⟩:Addr).add k)=some u:=by
  intro k u hk
  rw [add_plain]
  rcases k with _ | _ | _ | k
  · simp [encR] at hk; subst hk; simp
  · simp [encR] at hk; subst hk; simp
  · simp [encR] at hk; subst hk; simp
  · simp [encR] at hk
theorem one_encR (x:Ir):∀ u∈encR x,u.oneCell'=true:=by
  intro u hu
  simp [encR] at hu
  rcases hu with rfl | rfl | rfl <;> rfl
theorem OwnL.more {B:Nat} {l:List Ir} {x:Ir} {v:Value} {W:World} (h:W.ownsRow B 110 3 v (l.length+1) (l.flatMap encR++encR x)):OwnL B (l++[x]) v W:=by
  unfold OwnL
  rw [List.length_append,List.flatMap_append]
  simpa using h
def RBox (x:Ir) (n:Nat) (W:World):Prop:=n<W.heap.size∧W.cell? ⟨n,0,none⟩=some (.int .i64 x.1)∧W.cell? ⟨n,1,none⟩=some (.int .i64 x.2.1)∧W.cell? ⟨n,2,none⟩=some (.int .i64 x.2.2)
theorem RBox.next {x:Ir} {n:Nat} {W W':World} (h:RBox x n W) (hb:Below W.heap.size W W'):RBox x n W' :=
  ⟨Nat.lt_of_lt_of_le h.1 hb.size,(hb.cell (p:=⟨n,0,none⟩) h.1).trans h.2.1,(hb.cell (p:=⟨n,1,none⟩) h.1).trans h.2.2.1,(hb.cell (p:=⟨n,2,none⟩) h.1).trans h.2.2.2⟩
theorem RBox.new (x:Ir) (t:TypeId) (w:World):RBox x w.heap.size (w.alloc (Obj.cells #[.int .i64 x.1,.int .i64 x.2.1,.int .i64 x.2.2] t)):=by
  refine ⟨by simp,?_,?_,?_⟩ <;> simp
theorem slT_whole (f:Fl) (hp:f.n≤600) (t:TypeId) (w:World) (b:Nat) (hb:w.heap.size=b) :
    SlT [wholeI f] (.slice (some ⟨b,0,none⟩) 1 1) (w.alloc (Obj.cells #[.int .i64 f.terms.length,.string ⟨#[]⟩,.string ⟨#[]⟩] t)):=by
  subst hb
  refine ⟨_,1,rfl,fun i x hi=>?_,(fun h=>by cases h),by simp,by omega⟩
  rcases i with _ | i
  · simp at hi; subst hi
    refine ⟨_,_,rfl,by simp,?_,?_,?_,?_,Nat.zero_le _,Nat.zero_le _⟩
    · simp [wholeI]
    · simp [wholeI]
    · simp [wholeI]
    · unfold wholeI i64B; unfold Fl.n at hp; simp only; omega
  · simp at hi
set_option maxRecDepth 100000 in
set_option maxHeartbeats 1000000 in
theorem right_any (f:Fl) (a:FlA) (p:Int) (w:World) (hf:FlAt f a w) (hn:f.n≤600) (h1:-1≤p) (h2:p<f.prods.length) :
    Calls Tryz.prog 64 #[a.val f,.int .i64 p] w fun e w'=>∃ v,e=.returned v∧SlT (rightI f p) v w'∧Below w.heap.size w w':=by
  obtain ⟨ta,tc,na,nc,pa,pc⟩:=a
  have X0:=FBox.new f ⟨ta,tc,na,nc,pa,pc⟩ 50 w
  have B0:Below w.heap.size w (w.alloc (fobj f ⟨ta,tc,na,nc,pa,pc⟩ 50)):=(Below.refl _ _).alloc (Nat.le_refl _) _
  have hP:=hf.2.2.1
  clear hf
  unfold fobj at X0 B0
  unfold FlA.val
  simp only at *
  by_cases hw:p=-1
  · subst hw
    have HW:=slT_whole f hn 44 (w.alloc (Obj.cells #[Value.slice ta f.terms.length tc,Value.slice na f.nons.length nc,Value.slice pa f.prods.length pc] 50)) (w.heap.size+1) (by simp)
    have HR:Hid (SlT (rightI f (-1)) (.slice (some ⟨w.heap.size+1,0,none⟩) 1 1) ((w.alloc (Obj.cells #[Value.slice ta f.terms.length tc,Value.slice na f.nons.length nc,Value.slice pa f.prods.length pc] 50)).alloc (Obj.cells #[.int .i64 f.terms.length,.string ⟨#[]⟩,.string ⟨#[]⟩] 44))):=by
      rw [rightI_neg (by omega)]; exact HW
    clear HW hP
    go_enter Tryz.func64,Tryz.ntmps64
    go_wp2_with fail
    go_ret
    exact ⟨_,rfl,HR.out,B0.alloc B0.size _⟩
  · obtain ⟨k,rfl⟩:∃ k:Nat,p=k:=⟨p.toNat,by omega⟩
    have hk:k<f.prods.length:=by omega
    obtain ⟨b,off,v,rfl,hb,c0,c1,c2,hv,_⟩:=hP.at B0 hk
    have HR:Hid (SlT (rightI f k) v (w.alloc (Obj.cells #[Value.slice ta f.terms.length tc,Value.slice na f.nons.length nc,Value.slice (some ⟨b,off,none⟩) f.prods.length pc] 50))):=by
      rw [rightI_nat (List.getElem?_eq_getElem hk)]; exact hv
    have hw':((k:Int) == -1)=false:=by simp
    obtain ⟨va,vc,rfl,_⟩:=hv
    generalize f.prods[k]=q at *
    clear hP
    go_enter Tryz.func64,Tryz.ntmps64
    go_wp2_with fail
    go_ret
    exact ⟨_,rfl,HR.out,B0⟩
set_option maxHeartbeats 400000 in
theorem end_any (f:Fl) (a:FlA) (w:World) :
    Calls Tryz.prog 77 #[a.val f] w fun e w'=>e=.returned (.int .i64 f.terms.length)∧Below w.heap.size w w':=by
  obtain ⟨ta,tc,na,nc,pa,pc⟩:=a
  unfold FlA.val
  simp only
  go_enter Tryz.func77,Tryz.ntmps77
  go_wp2_with fail
  go_ret
  exact ⟨rfl,(Below.refl _ _).alloc (Nat.le_refl _) _⟩
set_option maxRecDepth 100000 in
set_option maxHeartbeats 2000000 in
theorem fit_item (f:Fl) (a:FlA) (x:Ir) (w:World) (hf:FlAt f a w) (hn:f.n≤600) :
    Calls Tryz.prog 63 #[a.val f,valR x] w fun e w'=>e=.returned (.bool (fitI f x))∧Below w.heap.size w w':=by
  have hR:=fun W (hb:Below w.heap.size w W) (h1:-1≤x.1) (h2:x.1<f.prods.length)=>right_any f a x.1 W (hf.next hb) hn h1 h2
  have hE:=fun W=>end_any f a W
  obtain ⟨ta,tc,na,nc,pa,pc⟩:=a
  obtain ⟨x0,x1,x2⟩:=x
  have X0:=FBox.new f ⟨ta,tc,na,nc,pa,pc⟩ 50 w
  have B0:Below w.heap.size w (w.alloc (fobj f ⟨ta,tc,na,nc,pa,pc⟩ 50)):=(Below.refl _ _).alloc (Nat.le_refl _) _
  have Y0:=RBox.new (x0,x1,x2) 110 (w.alloc (fobj f ⟨ta,tc,na,nc,pa,pc⟩ 50))
  have X1:=X0.next ((Below.refl _ _).alloc (Nat.le_refl _) (Obj.cells #[.int .i64 x0,.int .i64 x1,.int .i64 x2] 110))
  have B1:=B0.alloc B0.size (Obj.cells #[.int .i64 x0,.int .i64 x1,.int .i64 x2] 110)
  have hz:(w.alloc (fobj f ⟨ta,tc,na,nc,pa,pc⟩ 50)).heap.size=w.heap.size+1:=by simp
  rw [hz] at Y0
  clear X0 B0 hf hz
  unfold fobj at X1 B1 Y0
  unfold FlA.val at hR hE ⊢
  unfold valR
  simp only at *
  have HW:Hid (fitI f (x0,x1,x2)=decide (-1≤x0∧x0<f.prods.length∧0≤x1∧x1≤(rightI f x0).length∧0≤x2∧x2≤f.terms.length)):=rfl
  obtain ⟨b1,y0,y1,y2⟩:=id Y0
  obtain ⟨b0,z0,z1,z2⟩:=id X1
  simp only at y0 y1 y2 z0 z1 z2
  by_cases g1:x0 < -1
  · have HZ:Hid (fitI f (x0,x1,x2)=false):=by show _=_; rw [HW.out]; exact decide_eq_false (by omega)
    clear hR hE HW X1 Y0
    go_enter Tryz.func63,Tryz.ntmps63
    go_wp2_with fail
    go_ret
    exact ⟨ret_bool HZ.out.symm,B1⟩
  by_cases g2:(f.prods.length:Int)≤x0
  · have HZ:Hid (fitI f (x0,x1,x2)=false):=by show _=_; rw [HW.out]; exact decide_eq_false (by omega)
    clear hR hE HW X1 Y0
    go_enter Tryz.func63,Tryz.ntmps63
    go_wp2_with fail
    go_ret
    exact ⟨ret_bool HZ.out.symm,B1⟩
  have g1':decide (x0 < -1)=false:=decide_eq_false g1
  have g2':decide ((f.prods.length:Int)≤x0)=false:=decide_eq_false g2
  go_enter Tryz.func63,Tryz.ntmps63
  go_wp2_with fail
  generalize (w.alloc (Obj.cells #[Value.slice ta f.terms.length tc,Value.slice na f.nons.length nc,Value.slice pa f.prods.length pc] 50)).alloc (Obj.cells #[.int .i64 x0,.int .i64 x1,.int .i64 x2] 110)=w0 at *
  have hstep:∀ W w',(W.cell? ⟨w.heap.size,0,none⟩=some (.slice ta f.terms.length tc)∧W.cell? ⟨w.heap.size,1,none⟩=some (.slice na f.nons.length nc)∧W.cell? ⟨w.heap.size,2,none⟩=some (.slice pa f.prods.length pc)∧W.cell? ⟨w.heap.size+1,0,none⟩=some (.int .i64 x0)∧W.cell? ⟨w.heap.size+1,1,none⟩=some (.int .i64 x1)∧W.cell? ⟨w.heap.size+1,2,none⟩=some (.int .i64 x2)∧Below w0.heap.size w0 W)→Below W.heap.size W w'→(w'.cell? ⟨w.heap.size,0,none⟩=some (.slice ta f.terms.length tc)∧w'.cell? ⟨w.heap.size,1,none⟩=some (.slice na f.nons.length nc)∧w'.cell? ⟨w.heap.size,2,none⟩=some (.slice pa f.prods.length pc)∧w'.cell? ⟨w.heap.size+1,0,none⟩=some (.int .i64 x0)∧w'.cell? ⟨w.heap.size+1,1,none⟩=some (.int .i64 x1)∧w'.cell? ⟨w.heap.size+1,2,none⟩=some (.int .i64 x2)∧Below w0.heap.size w0 w'):=by
    rintro W w' ⟨_,_,_,_,_,_,h⟩ hb
    have h':=below_then h hb h.size
    obtain ⟨_,k0,k1,k2⟩:=X1.next h'
    obtain ⟨_,l0,l1,l2⟩:=Y0.next h'
    exact ⟨k0,k1,k2,l0,l1,l2,h'⟩
  have hR':∀ W,(W.cell? ⟨w.heap.size,0,none⟩=some (.slice ta f.terms.length tc)∧W.cell? ⟨w.heap.size,1,none⟩=some (.slice na f.nons.length nc)∧W.cell? ⟨w.heap.size,2,none⟩=some (.slice pa f.prods.length pc)∧W.cell? ⟨w.heap.size+1,0,none⟩=some (.int .i64 x0)∧W.cell? ⟨w.heap.size+1,1,none⟩=some (.int .i64 x1)∧W.cell? ⟨w.heap.size+1,2,none⟩=some (.int .i64 x2)∧Below w0.heap.size w0 W)→Calls Tryz.prog 64 #[.agg #[.slice ta f.terms.length tc,.slice na f.nons.length nc,.slice pa f.prods.length pc],.int .i64 x0] W fun e w'=>∃ va vc,e=.returned (.slice va (rightI f x0).length vc)∧(w'.cell? ⟨w.heap.size,0,none⟩=some (.slice ta f.terms.length tc)∧w'.cell? ⟨w.heap.size,1,none⟩=some (.slice na f.nons.length nc)∧w'.cell? ⟨w.heap.size,2,none⟩=some (.slice pa f.prods.length pc)∧w'.cell? ⟨w.heap.size+1,0,none⟩=some (.int .i64 x0)∧w'.cell? ⟨w.heap.size+1,1,none⟩=some (.int .i64 x1)∧w'.cell? ⟨w.heap.size+1,2,none⟩=some (.int .i64 x2)∧Below w0.heap.size w0 w'):=by
    intro W hS
    refine (hR W (below_then B1 hS.2.2.2.2.2.2 B1.size) (by omega) (by omega)).mono ?_
    rintro e w' ⟨v,rfl,⟨va,vc,rfl,_⟩,hb⟩
    exact ⟨va,vc,rfl,hstep _ _ hS hb⟩
  have hE':∀ W,(W.cell? ⟨w.heap.size,0,none⟩=some (.slice ta f.terms.length tc)∧W.cell? ⟨w.heap.size,1,none⟩=some (.slice na f.nons.length nc)∧W.cell? ⟨w.heap.size,2,none⟩=some (.slice pa f.prods.length pc)∧W.cell? ⟨w.heap.size+1,0,none⟩=some (.int .i64 x0)∧W.cell? ⟨w.heap.size+1,1,none⟩=some (.int .i64 x1)∧W.cell? ⟨w.heap.size+1,2,none⟩=some (.int .i64 x2)∧Below w0.heap.size w0 W)→Calls Tryz.prog 77 #[.agg #[.slice ta f.terms.length tc,.slice na f.nons.length nc,.slice pa f.prods.length pc]] W fun e w'=>e=.returned (.int .i64 f.terms.length)∧(w'.cell? ⟨w.heap.size,0,none⟩=some (.slice ta f.terms.length tc)∧w'.cell? ⟨w.heap.size,1,none⟩=some (.slice na f.nons.length nc)∧w'.cell? ⟨w.heap.size,2,none⟩=some (.slice pa f.prods.length pc)∧w'.cell? ⟨w.heap.size+1,0,none⟩=some (.int .i64 x0)∧w'.cell? ⟨w.heap.size+1,1,none⟩=some (.int .i64 x1)∧w'.cell? ⟨w.heap.size+1,2,none⟩=some (.int .i64 x2)∧Below w0.heap.size w0 w'):=by
    intro W hS
    refine (hE W).mono ?_
    rintro e w' ⟨rfl,hb⟩
    exact ⟨rfl,hstep _ _ hS hb⟩
  have HS0:Hid (w0.drew.cell? ⟨w.heap.size,0,none⟩=some (.slice ta f.terms.length tc)∧w0.drew.cell? ⟨w.heap.size,1,none⟩=some (.slice na f.nons.length nc)∧w0.drew.cell? ⟨w.heap.size,2,none⟩=some (.slice pa f.prods.length pc)∧w0.drew.cell? ⟨w.heap.size+1,0,none⟩=some (.int .i64 x0)∧w0.drew.cell? ⟨w.heap.size+1,1,none⟩=some (.int .i64 x1)∧w0.drew.cell? ⟨w.heap.size+1,2,none⟩=some (.int .i64 x2)∧Below w0.heap.size w0 w0.drew):=⟨z0,z1,z2,y0,y1,y2,(Below.refl _ _).drew⟩
  have HBB:Hid (∀ W,Below w0.heap.size w0 W→Below w.heap.size w W):=fun W hb=>below_then B1 hb B1.size
  generalize (rightI f x0).length=L at *
  clear hR hE hstep X1 Y0 B1 b0 b1 z0 z1 z2 y0 y1 y2
  by_cases d1:0≤x1
  · by_cases d2:x1≤L
    · by_cases d3:0≤x2
      · have HZ:Hid (fitI f (x0,x1,x2)=decide (x2≤f.terms.length)):=by
          show _=_; rw [HW.out,Bool.eq_iff_iff,decide_eq_true_eq,decide_eq_true_eq]; omega
        have d1':decide (0≤x1)=true:=decide_eq_true d1
        have d2':decide (x1≤(L:Int))=true:=decide_eq_true d2
        have d3':decide (0≤x2)=true:=decide_eq_true d3
        clear HW
        go_region_held3 (fun W=>W.cell? ⟨w.heap.size,0,none⟩=some (.slice ta f.terms.length tc)∧W.cell? ⟨w.heap.size,1,none⟩=some (.slice na f.nons.length nc)∧W.cell? ⟨w.heap.size,2,none⟩=some (.slice pa f.prods.length pc)∧W.cell? ⟨w.heap.size+1,0,none⟩=some (.int .i64 x0)∧W.cell? ⟨w.heap.size+1,1,none⟩=some (.int .i64 x1)∧W.cell? ⟨w.heap.size+1,2,none⟩=some (.int .i64 x2)∧Below w0.heap.size w0 W) (first | exact HS0.out | assumption) (first
          | (go_at_call 64; refine (hR' _ (by assumption)).mono ?_; rintro e w' ⟨va,vc,rfl,hS⟩)
          | (go_at_call 77; refine (hE' _ (by assumption)).mono ?_; rintro e w'' ⟨rfl,hS2⟩))
        have HBx:Hid (Below w.heap.size w w''):=HBB.out _ hS2.2.2.2.2.2.2
        clear hS2 hR' hE' HBB
        go_wp2_with fail
        go_ret
        exact ⟨ret_bool HZ.out.symm,HBx.out⟩
      · have HZ:Hid (fitI f (x0,x1,x2)=false):=by show _=_; rw [HW.out]; exact decide_eq_false (by omega)
        have d1':decide (0≤x1)=true:=decide_eq_true d1
        have d2':decide (x1≤(L:Int))=true:=decide_eq_true d2
        have d3':decide (0≤x2)=false:=decide_eq_false d3
        clear HW hE'
        refine wp_region_L (fun W=>W.cell? ⟨w.heap.size,0,none⟩=some (.slice ta f.terms.length tc)∧W.cell? ⟨w.heap.size,1,none⟩=some (.slice na f.nons.length nc)∧W.cell? ⟨w.heap.size,2,none⟩=some (.slice pa f.prods.length pc)∧W.cell? ⟨w.heap.size+1,0,none⟩=some (.int .i64 x0)∧W.cell? ⟨w.heap.size+1,1,none⟩=some (.int .i64 x1)∧W.cell? ⟨w.heap.size+1,2,none⟩=some (.int .i64 x2)∧Below w0.heap.size w0 W) 26 (by kernel_rfl) 26 rfl ?_
        refine lk ⟨some 16,.fieldAddr 110 (.tmp 3) 1,0, "item.go:52",#[],none⟩ HS0.out ?_;simp only [Act.put,sA,s0,sS]
        refine lk ⟨some 17,.load 3 (.tmp 16),3, "item.go:52",#[⟨0,.data⟩],none⟩ HS0.out ?_;simp only [Act.put,sA,s0,sS]
        refine lk ⟨some 18,.binOp .leq 3 (.const (.int .i64 0)) (.tmp 17) 3,4, "item.go:52",#[⟨1,.data⟩],none⟩ HS0.out ?_;simp only [Act.put,sA,s0,sS]
        refine lk ⟨some 19,.move (.tmp 18),4, "item.go:52",#[⟨2,.data⟩],none⟩ HS0.out ?_;simp only [Act.put,sA,s0,sS]
        refine lk ⟨some 20,.fieldAddr 110 (.tmp 3) 1,0, "item.go:52",#[⟨3,.guard⟩],some (3,true)⟩ HS0.out ?_;simp only [Act.put,sA,s0,sS]
        refine lk ⟨some 21,.load 3 (.tmp 20),3, "item.go:52",#[⟨4,.data⟩,⟨3,.guard⟩],some (3,true)⟩ HS0.out ?_;simp only [Act.put,sA,s0,sS]
        refine lk ⟨some 22,.load 50 (.tmp 2),50, "item.go:52",#[⟨3,.guard⟩],some (3,true)⟩ HS0.out ?_;simp only [Act.put,sA,s0,sS]
        refine lk ⟨some 23,.fieldAddr 110 (.tmp 3) 0,0, "item.go:52",#[⟨3,.guard⟩],some (3,true)⟩ HS0.out ?_;simp only [Act.put,sA,s0,sS]
        refine lk ⟨some 24,.load 3 (.tmp 23),3, "item.go:52",#[⟨7,.data⟩,⟨3,.guard⟩],some (3,true)⟩ HS0.out ?_;simp only [Act.put,sA,s0,sS]
        refine wpL_one (o:=⟨some 25,.call ⟨.value (.func 64),#[.tmp 22,.tmp 24],#[50,3]⟩,45, "item.go:52",#[⟨6,.data⟩,⟨8,.data⟩,⟨3,.chain⟩,⟨3,.guard⟩],some (3,true)⟩) (by decide) (by kernel_rfl) rfl (fun K hK=>?_)
        go_simp
        refine (hR' _ HS0.out).mono ?_
        rintro e w' ⟨va,vc,rfl,hS⟩
        refine hK.out _ _ (fun _=>hS) ?_
        clear hK
        refine lk ⟨some 26,.call ⟨.builtin .len,#[.tmp 25],#[45]⟩,3, "item.go:52",#[⟨9,.data⟩,⟨3,.guard⟩],some (3,true)⟩ hS ?_;simp only [Act.put,sA,s0,sS]
        refine lk ⟨some 27,.binOp .leq 3 (.tmp 21) (.tmp 26) 3,4, "item.go:52",#[⟨5,.data⟩,⟨10,.data⟩,⟨3,.guard⟩],some (3,true)⟩ hS ?_;simp only [Act.put,sA,s0,sS]
        refine lk ⟨some 28,.pick (.tmp 19) (.tmp 27) (.const (.bool false)),4, "item.go:52",#[⟨3,.data⟩,⟨11,.data⟩],none⟩ hS ?_;simp only [Act.put,sA,s0,sS]
        refine lk ⟨some 29,.move (.tmp 28),4, "item.go:52",#[⟨12,.data⟩,⟨9,.chain⟩],none⟩ hS ?_;simp only [Act.put,sA,s0,sS]
        refine lk ⟨some 30,.fieldAddr 110 (.tmp 3) 2,0, "item.go:52",#[⟨13,.guard⟩],some (13,true)⟩ hS ?_;simp only [Act.put,sA,s0,sS]
        refine lk ⟨some 31,.load 3 (.tmp 30),3, "item.go:52",#[⟨14,.data⟩,⟨13,.guard⟩],some (13,true)⟩ hS ?_;simp only [Act.put,sA,s0,sS]
        refine lk ⟨some 32,.binOp .leq 3 (.const (.int .i64 0)) (.tmp 31) 3,4, "item.go:52",#[⟨15,.data⟩,⟨13,.guard⟩],some (13,true)⟩ hS ?_;simp only [Act.put,sA,s0,sS]
        refine lk ⟨some 33,.pick (.tmp 29) (.tmp 32) (.const (.bool false)),4, "item.go:52",#[⟨13,.data⟩,⟨16,.data⟩],none⟩ hS ?_;simp only [Act.put,sA,s0,sS]
        refine lk ⟨some 34,.move (.tmp 33),4, "item.go:52",#[⟨17,.data⟩,⟨13,.chain⟩],none⟩ hS ?_;simp only [Act.put,sA,s0,sS]
        refine lu ⟨some 35,.fieldAddr 110 (.tmp 3) 2,0, "item.go:52",#[⟨18,.guard⟩],some (18,true)⟩ hS ?_;simp only [Act.put,sA,s0,sS]
        refine lu ⟨some 36,.load 3 (.tmp 35),3, "item.go:52",#[⟨19,.data⟩,⟨18,.guard⟩],some (18,true)⟩ hS ?_;simp only [Act.put,sA,s0,sS]
        refine lu ⟨some 37,.load 50 (.tmp 2),50, "item.go:52",#[⟨18,.guard⟩],some (18,true)⟩ hS ?_;simp only [Act.put,sA,s0,sS]
        refine lu ⟨some 38,.call ⟨.value (.func 77),#[.tmp 37],#[50]⟩,3, "item.go:52",#[⟨21,.data⟩,⟨18,.chain⟩,⟨18,.guard⟩],some (18,true)⟩ hS ?_;simp only [Act.put,sA,s0,sS]
        refine lu ⟨some 39,.binOp .leq 3 (.tmp 36) (.tmp 38) 3,4, "item.go:52",#[⟨20,.data⟩,⟨22,.data⟩,⟨18,.guard⟩],some (18,true)⟩ hS ?_;simp only [Act.put,sA,s0,sS]
        refine lk ⟨some 40,.pick (.tmp 34) (.tmp 39) (.const (.bool false)),4, "item.go:52",#[⟨18,.data⟩,⟨23,.data⟩],none⟩ hS ?_;simp only [Act.put,sA,s0,sS]
        refine lk ⟨some 4,.assign (.tmp 40),4, "item.go:52",#[⟨24,.data⟩,⟨22,.chain⟩,⟨0,.phase⟩,⟨1,.phase⟩,⟨2,.phase⟩,⟨3,.phase⟩,⟨4,.phase⟩,⟨5,.phase⟩,⟨6,.phase⟩,⟨7,.phase⟩,⟨8,.phase⟩,⟨9,.phase⟩,⟨10,.phase⟩,⟨11,.phase⟩,⟨12,.phase⟩,⟨13,.phase⟩,⟨14,.phase⟩,⟨15,.phase⟩,⟨16,.phase⟩,⟨17,.phase⟩,⟨18,.phase⟩,⟨19,.phase⟩,⟨20,.phase⟩,⟨21,.phase⟩,⟨22,.phase⟩,⟨23,.phase⟩,⟨24,.phase⟩],none⟩ hS ?_;simp only [Act.put,sA,s0,sS]
        refine wpAnyL_done (by kernel_rfl) ?_ _
        have HBx:Hid (Below w.heap.size w w'):=HBB.out _ hS.2.2.2.2.2.2
        clear hS hR' HBB
        go_wp2_with fail
        go_ret
        exact ⟨ret_bool HZ.out.symm,HBx.out⟩
    · have HZ:Hid (fitI f (x0,x1,x2)=false):=by show _=_; rw [HW.out]; exact decide_eq_false (by omega)
      have d1':decide (0≤x1)=true:=decide_eq_true d1
      have d2':decide (x1≤(L:Int))=false:=decide_eq_false d2
      clear HW hE'
      refine wp_region_L (fun W=>W.cell? ⟨w.heap.size,0,none⟩=some (.slice ta f.terms.length tc)∧W.cell? ⟨w.heap.size,1,none⟩=some (.slice na f.nons.length nc)∧W.cell? ⟨w.heap.size,2,none⟩=some (.slice pa f.prods.length pc)∧W.cell? ⟨w.heap.size+1,0,none⟩=some (.int .i64 x0)∧W.cell? ⟨w.heap.size+1,1,none⟩=some (.int .i64 x1)∧W.cell? ⟨w.heap.size+1,2,none⟩=some (.int .i64 x2)∧Below w0.heap.size w0 W) 26 (by kernel_rfl) 26 rfl ?_
      refine lk ⟨some 16,.fieldAddr 110 (.tmp 3) 1,0, "item.go:52",#[],none⟩ HS0.out ?_;simp only [Act.put,sA,s0,sS]
      refine lk ⟨some 17,.load 3 (.tmp 16),3, "item.go:52",#[⟨0,.data⟩],none⟩ HS0.out ?_;simp only [Act.put,sA,s0,sS]
      refine lk ⟨some 18,.binOp .leq 3 (.const (.int .i64 0)) (.tmp 17) 3,4, "item.go:52",#[⟨1,.data⟩],none⟩ HS0.out ?_;simp only [Act.put,sA,s0,sS]
      refine lk ⟨some 19,.move (.tmp 18),4, "item.go:52",#[⟨2,.data⟩],none⟩ HS0.out ?_;simp only [Act.put,sA,s0,sS]
      refine lk ⟨some 20,.fieldAddr 110 (.tmp 3) 1,0, "item.go:52",#[⟨3,.guard⟩],some (3,true)⟩ HS0.out ?_;simp only [Act.put,sA,s0,sS]
      refine lk ⟨some 21,.load 3 (.tmp 20),3, "item.go:52",#[⟨4,.data⟩,⟨3,.guard⟩],some (3,true)⟩ HS0.out ?_;simp only [Act.put,sA,s0,sS]
      refine lk ⟨some 22,.load 50 (.tmp 2),50, "item.go:52",#[⟨3,.guard⟩],some (3,true)⟩ HS0.out ?_;simp only [Act.put,sA,s0,sS]
      refine lk ⟨some 23,.fieldAddr 110 (.tmp 3) 0,0, "item.go:52",#[⟨3,.guard⟩],some (3,true)⟩ HS0.out ?_;simp only [Act.put,sA,s0,sS]
      refine lk ⟨some 24,.load 3 (.tmp 23),3, "item.go:52",#[⟨7,.data⟩,⟨3,.guard⟩],some (3,true)⟩ HS0.out ?_;simp only [Act.put,sA,s0,sS]
      refine wpL_one (o:=⟨some 25,.call ⟨.value (.func 64),#[.tmp 22,.tmp 24],#[50,3]⟩,45, "item.go:52",#[⟨6,.data⟩,⟨8,.data⟩,⟨3,.chain⟩,⟨3,.guard⟩],some (3,true)⟩) (by decide) (by kernel_rfl) rfl (fun K hK=>?_)
      go_simp
      refine (hR' _ HS0.out).mono ?_
      rintro e w' ⟨va,vc,rfl,hS⟩
      refine hK.out _ _ (fun _=>hS) ?_
      clear hK
      refine lk ⟨some 26,.call ⟨.builtin .len,#[.tmp 25],#[45]⟩,3, "item.go:52",#[⟨9,.data⟩,⟨3,.guard⟩],some (3,true)⟩ hS ?_;simp only [Act.put,sA,s0,sS]
      refine lk ⟨some 27,.binOp .leq 3 (.tmp 21) (.tmp 26) 3,4, "item.go:52",#[⟨5,.data⟩,⟨10,.data⟩,⟨3,.guard⟩],some (3,true)⟩ hS ?_;simp only [Act.put,sA,s0,sS]
      refine lk ⟨some 28,.pick (.tmp 19) (.tmp 27) (.const (.bool false)),4, "item.go:52",#[⟨3,.data⟩,⟨11,.data⟩],none⟩ hS ?_;simp only [Act.put,sA,s0,sS]
      refine lk ⟨some 29,.move (.tmp 28),4, "item.go:52",#[⟨12,.data⟩,⟨9,.chain⟩],none⟩ hS ?_;simp only [Act.put,sA,s0,sS]
      refine lu ⟨some 30,.fieldAddr 110 (.tmp 3) 2,0, "item.go:52",#[⟨13,.guard⟩],some (13,true)⟩ hS ?_;simp only [Act.put,sA,s0,sS]
      refine lu ⟨some 31,.load 3 (.tmp 30),3, "item.go:52",#[⟨14,.data⟩,⟨13,.guard⟩],some (13,true)⟩ hS ?_;simp only [Act.put,sA,s0,sS]
      refine lu ⟨some 32,.binOp .leq 3 (.const (.int .i64 0)) (.tmp 31) 3,4, "item.go:52",#[⟨15,.data⟩,⟨13,.guard⟩],some (13,true)⟩ hS ?_;simp only [Act.put,sA,s0,sS]
      refine lk ⟨some 33,.pick (.tmp 29) (.tmp 32) (.const (.bool false)),4, "item.go:52",#[⟨13,.data⟩,⟨16,.data⟩],none⟩ hS ?_;simp only [Act.put,sA,s0,sS]
      refine lk ⟨some 34,.move (.tmp 33),4, "item.go:52",#[⟨17,.data⟩,⟨13,.chain⟩],none⟩ hS ?_;simp only [Act.put,sA,s0,sS]
      refine lu ⟨some 35,.fieldAddr 110 (.tmp 3) 2,0, "item.go:52",#[⟨18,.guard⟩],some (18,true)⟩ hS ?_;simp only [Act.put,sA,s0,sS]
      refine lu ⟨some 36,.load 3 (.tmp 35),3, "item.go:52",#[⟨19,.data⟩,⟨18,.guard⟩],some (18,true)⟩ hS ?_;simp only [Act.put,sA,s0,sS]
      refine lu ⟨some 37,.load 50 (.tmp 2),50, "item.go:52",#[⟨18,.guard⟩],some (18,true)⟩ hS ?_;simp only [Act.put,sA,s0,sS]
      refine lu ⟨some 38,.call ⟨.value (.func 77),#[.tmp 37],#[50]⟩,3, "item.go:52",#[⟨21,.data⟩,⟨18,.chain⟩,⟨18,.guard⟩],some (18,true)⟩ hS ?_;simp only [Act.put,sA,s0,sS]
      refine lu ⟨some 39,.binOp .leq 3 (.tmp 36) (.tmp 38) 3,4, "item.go:52",#[⟨20,.data⟩,⟨22,.data⟩,⟨18,.guard⟩],some (18,true)⟩ hS ?_;simp only [Act.put,sA,s0,sS]
      refine lk ⟨some 40,.pick (.tmp 34) (.tmp 39) (.const (.bool false)),4, "item.go:52",#[⟨18,.data⟩,⟨23,.data⟩],none⟩ hS ?_;simp only [Act.put,sA,s0,sS]
      refine lk ⟨some 4,.assign (.tmp 40),4, "item.go:52",#[⟨24,.data⟩,⟨22,.chain⟩,⟨0,.phase⟩,⟨1,.phase⟩,⟨2,.phase⟩,⟨3,.phase⟩,⟨4,.phase⟩,⟨5,.phase⟩,⟨6,.phase⟩,⟨7,.phase⟩,⟨8,.phase⟩,⟨9,.phase⟩,⟨10,.phase⟩,⟨11,.phase⟩,⟨12,.phase⟩,⟨13,.phase⟩,⟨14,.phase⟩,⟨15,.phase⟩,⟨16,.phase⟩,⟨17,.phase⟩,⟨18,.phase⟩,⟨19,.phase⟩,⟨20,.phase⟩,⟨21,.phase⟩,⟨22,.phase⟩,⟨23,.phase⟩,⟨24,.phase⟩],none⟩ hS ?_;simp only [Act.put,sA,s0,sS]
      refine wpAnyL_done (by kernel_rfl) ?_ _
      have HBx:Hid (Below w.heap.size w w'):=HBB.out _ hS.2.2.2.2.2.2
      clear hS hR' HBB
      go_wp2_with fail
      go_ret
      exact ⟨ret_bool HZ.out.symm,HBx.out⟩
  · have HZ:Hid (fitI f (x0,x1,x2)=false):=by show _=_; rw [HW.out]; exact decide_eq_false (by omega)
    have d1':decide (0≤x1)=false:=decide_eq_false d1
    obtain ⟨z0,z1,z2,y0,y1,y2,hb0⟩:=HS0.out
    have HBx:Hid (Below w.heap.size w w0.drew):=HBB.out _ hb0
    clear HW hE' hR' HBB hb0
    refine wp_region_L (fun W=>W.cell? ⟨w.heap.size,0,none⟩=some (.slice ta f.terms.length tc)∧W.cell? ⟨w.heap.size,1,none⟩=some (.slice na f.nons.length nc)∧W.cell? ⟨w.heap.size,2,none⟩=some (.slice pa f.prods.length pc)∧W.cell? ⟨w.heap.size+1,0,none⟩=some (.int .i64 x0)∧W.cell? ⟨w.heap.size+1,1,none⟩=some (.int .i64 x1)∧W.cell? ⟨w.heap.size+1,2,none⟩=some (.int .i64 x2)∧Below w0.heap.size w0 W) 26 (by kernel_rfl) 26 rfl ?_
    refine lk ⟨some 16,.fieldAddr 110 (.tmp 3) 1,0, "item.go:52",#[],none⟩ HS0.out ?_;simp only [Act.put,sA,s0,sS]
    refine lk ⟨some 17,.load 3 (.tmp 16),3, "item.go:52",#[⟨0,.data⟩],none⟩ HS0.out ?_;simp only [Act.put,sA,s0,sS]
    refine lk ⟨some 18,.binOp .leq 3 (.const (.int .i64 0)) (.tmp 17) 3,4, "item.go:52",#[⟨1,.data⟩],none⟩ HS0.out ?_;simp only [Act.put,sA,s0,sS]
    refine lk ⟨some 19,.move (.tmp 18),4, "item.go:52",#[⟨2,.data⟩],none⟩ HS0.out ?_;simp only [Act.put,sA,s0,sS]
    refine lu ⟨some 20,.fieldAddr 110 (.tmp 3) 1,0, "item.go:52",#[⟨3,.guard⟩],some (3,true)⟩ HS0.out ?_;simp only [Act.put,sA,s0,sS]
    refine lu ⟨some 21,.load 3 (.tmp 20),3, "item.go:52",#[⟨4,.data⟩,⟨3,.guard⟩],some (3,true)⟩ HS0.out ?_;simp only [Act.put,sA,s0,sS]
    refine lu ⟨some 22,.load 50 (.tmp 2),50, "item.go:52",#[⟨3,.guard⟩],some (3,true)⟩ HS0.out ?_;simp only [Act.put,sA,s0,sS]
    refine lu ⟨some 23,.fieldAddr 110 (.tmp 3) 0,0, "item.go:52",#[⟨3,.guard⟩],some (3,true)⟩ HS0.out ?_;simp only [Act.put,sA,s0,sS]
    refine lu ⟨some 24,.load 3 (.tmp 23),3, "item.go:52",#[⟨7,.data⟩,⟨3,.guard⟩],some (3,true)⟩ HS0.out ?_;simp only [Act.put,sA,s0,sS]
    refine lu ⟨some 25,.call ⟨.value (.func 64),#[.tmp 22,.tmp 24],#[50,3]⟩,45, "item.go:52",#[⟨6,.data⟩,⟨8,.data⟩,⟨3,.chain⟩,⟨3,.guard⟩],some (3,true)⟩ HS0.out ?_;simp only [Act.put,sA,s0,sS]
    refine lu ⟨some 26,.call ⟨.builtin .len,#[.tmp 25],#[45]⟩,3, "item.go:52",#[⟨9,.data⟩,⟨3,.guard⟩],some (3,true)⟩ HS0.out ?_;simp only [Act.put,sA,s0,sS]
    refine lu ⟨some 27,.binOp .leq 3 (.tmp 21) (.tmp 26) 3,4, "item.go:52",#[⟨5,.data⟩,⟨10,.data⟩,⟨3,.guard⟩],some (3,true)⟩ HS0.out ?_;simp only [Act.put,sA,s0,sS]
    refine lk ⟨some 28,.pick (.tmp 19) (.tmp 27) (.const (.bool false)),4, "item.go:52",#[⟨3,.data⟩,⟨11,.data⟩],none⟩ HS0.out ?_;simp only [Act.put,sA,s0,sS]
    refine lk ⟨some 29,.move (.tmp 28),4, "item.go:52",#[⟨12,.data⟩,⟨9,.chain⟩],none⟩ HS0.out ?_;simp only [Act.put,sA,s0,sS]
    refine lu ⟨some 30,.fieldAddr 110 (.tmp 3) 2,0, "item.go:52",#[⟨13,.guard⟩],some (13,true)⟩ HS0.out ?_;simp only [Act.put,sA,s0,sS]
    refine lu ⟨some 31,.load 3 (.tmp 30),3, "item.go:52",#[⟨14,.data⟩,⟨13,.guard⟩],some (13,true)⟩ HS0.out ?_;simp only [Act.put,sA,s0,sS]
    refine lu ⟨some 32,.binOp .leq 3 (.const (.int .i64 0)) (.tmp 31) 3,4, "item.go:52",#[⟨15,.data⟩,⟨13,.guard⟩],some (13,true)⟩ HS0.out ?_;simp only [Act.put,sA,s0,sS]
    refine lk ⟨some 33,.pick (.tmp 29) (.tmp 32) (.const (.bool false)),4, "item.go:52",#[⟨13,.data⟩,⟨16,.data⟩],none⟩ HS0.out ?_;simp only [Act.put,sA,s0,sS]
    refine lk ⟨some 34,.move (.tmp 33),4, "item.go:52",#[⟨17,.data⟩,⟨13,.chain⟩],none⟩ HS0.out ?_;simp only [Act.put,sA,s0,sS]
    refine lu ⟨some 35,.fieldAddr 110 (.tmp 3) 2,0, "item.go:52",#[⟨18,.guard⟩],some (18,true)⟩ HS0.out ?_;simp only [Act.put,sA,s0,sS]
    refine lu ⟨some 36,.load 3 (.tmp 35),3, "item.go:52",#[⟨19,.data⟩,⟨18,.guard⟩],some (18,true)⟩ HS0.out ?_;simp only [Act.put,sA,s0,sS]
    refine lu ⟨some 37,.load 50 (.tmp 2),50, "item.go:52",#[⟨18,.guard⟩],some (18,true)⟩ HS0.out ?_;simp only [Act.put,sA,s0,sS]
    refine lu ⟨some 38,.call ⟨.value (.func 77),#[.tmp 37],#[50]⟩,3, "item.go:52",#[⟨21,.data⟩,⟨18,.chain⟩,⟨18,.guard⟩],some (18,true)⟩ HS0.out ?_;simp only [Act.put,sA,s0,sS]
    refine lu ⟨some 39,.binOp .leq 3 (.tmp 36) (.tmp 38) 3,4, "item.go:52",#[⟨20,.data⟩,⟨22,.data⟩,⟨18,.guard⟩],some (18,true)⟩ HS0.out ?_;simp only [Act.put,sA,s0,sS]
    refine lk ⟨some 40,.pick (.tmp 34) (.tmp 39) (.const (.bool false)),4, "item.go:52",#[⟨18,.data⟩,⟨23,.data⟩],none⟩ HS0.out ?_;simp only [Act.put,sA,s0,sS]
    refine lk ⟨some 4,.assign (.tmp 40),4, "item.go:52",#[⟨24,.data⟩,⟨22,.chain⟩,⟨0,.phase⟩,⟨1,.phase⟩,⟨2,.phase⟩,⟨3,.phase⟩,⟨4,.phase⟩,⟨5,.phase⟩,⟨6,.phase⟩,⟨7,.phase⟩,⟨8,.phase⟩,⟨9,.phase⟩,⟨10,.phase⟩,⟨11,.phase⟩,⟨12,.phase⟩,⟨13,.phase⟩,⟨14,.phase⟩,⟨15,.phase⟩,⟨16,.phase⟩,⟨17,.phase⟩,⟨18,.phase⟩,⟨19,.phase⟩,⟨20,.phase⟩,⟨21,.phase⟩,⟨22,.phase⟩,⟨23,.phase⟩,⟨24,.phase⟩],none⟩ HS0.out ?_;simp only [Act.put,sA,s0,sS]
    refine wpAnyL_done (by kernel_rfl) ?_ _
    go_wp2_with fail
    go_ret
    exact ⟨ret_bool HZ.out.symm,HBx.out⟩
end Go.Proofs.YtiamjafecbpfpaaGreatDoor
namespace Go.Proofs.YtiamjafecbpfpaaGreatDoor
open Go.RowKit
end Go.Proofs.YtiamjafecbpfpaaGreatDoor
namespace Go.Proofs.YtiamjafecbpfpaaGreatDoor
open Go.RowKit
section
variable {P:Program} {ops:Array Oper} {Q:Exit→Act→World→Prop} {md:Region.Mode} {S:World→Prop} {n:Nat}
theorem wpAnyL_two {i j:Nat} {oi oj:Oper} {fuel:Nat} {listed l1 l2:Array Bool} {a:Act} {w:World} (hr:Region.ready md ops listed=[i,j]) (hi:ops[i]?=some oi) (hj:ops[j]?=some oj)
    (hl1:listed.setIfInBounds i true=l1) (hl2:listed.setIfInBounds j true=l2)
    (h1:∀ K':Act→World→Prop,Shut (∀ a w,(i<n→S w)→wpAnyL P md ops Q S n fuel l1 a w→K' a w)→if Region.wanted oi (yielded ops a.tmps)=true then Oper.wp P oi a w K' Q else K' (a.put oi.dst undef) w)
    (h2:∀ K':Act→World→Prop,Shut (∀ a w,(j<n→S w)→wpAnyL P md ops Q S n fuel l2 a w→K' a w)→if Region.wanted oj (yielded ops a.tmps)=true then Oper.wp P oj a w K' Q else K' (a.put oj.dst undef) w) :
    wpAnyL P md ops Q S n (fuel+1) listed a w:=by
  subst hl1 hl2
  refine ⟨fun h0=>(by rw [hr] at h0; cases h0),fun k hk=>?_⟩
  rw [hr] at hk
  simp at hk
  rcases hk with rfl | rfl
  · exact wpOp_step hi (fun K' hK=>h1 K' (fun a w hS hW=>hK a w ⟨hS,hW⟩))
  · exact wpOp_step hj (fun K' hK=>h2 K' (fun a w hS hW=>hK a w ⟨hS,hW⟩))
theorem wpAnyL_one' {i:Nat} {o:Oper} {fuel:Nat} {listed l1:Array Bool} {a:Act} {w:World} (hr:Region.ready md ops listed=[i]) (ho:ops[i]?=some o) (hl1:listed.setIfInBounds i true=l1)
    (h:∀ K':Act→World→Prop,Shut (∀ a w,(i<n→S w)→wpAnyL P md ops Q S n fuel l1 a w→K' a w)→if Region.wanted o (yielded ops a.tmps)=true then Oper.wp P o a w K' Q else K' (a.put o.dst undef) w) :
    wpAnyL P md ops Q S n (fuel+1) listed a w:=by
  subst hl1
  exact wpAnyL_one hr ho h
theorem wpAnyL_take' {i:Nat} {oi:Oper} {v:Value} {fuel:Nat} {listed l1:Array Bool} {a:Act} {w:World} (hi:ops[i]?=some oi)
    (hs:Region.noSelect ops=true) (hf:Region.free md ops listed i=true) (hr:(Region.ready md ops listed).contains i=true) (hl:lateB md ops n i=true) (hl1:listed.setIfInBounds i true=l1)
    (hQ:∀ c a w,Q (.panic c) (a.put oi.dst v) w→Q (.panic c) a w) (hy:YieldsIf P ops S oi v a) (hS:S w)
    (h:wpAnyL P md ops Q S n fuel l1 (a.put oi.dst v) w):wpAnyL P md ops Q S n (fuel+1) listed a w:=by
  subst hl1
  exact wpAnyL_take hi hs hf hr hl hQ hy hS h
end
theorem tk {P:Program} {md:Region.Mode} {ops:Array Oper} {Q:Exit→Act→World→Prop} {S:World→Prop} {n:Nat} (i:Nat) (oi:Oper) {v:Value} {fuel:Nat} {listed l1:Array Bool} {a:Act} {w:World} (hS:S w) (h:wpAnyL P md ops Q S n fuel l1 (a.put oi.dst v) w)
 (hy:∀ w,S w→(execOp a.eval oi).run P w=.ok (.value v) w:=by intro W hSW; go_simp; try with_reducible rfl)
 (hi:ops[i]?=some oi:=by rfl) (hs:Region.noSelect ops=true:=by kernel_rfl) (hf:Region.free md ops listed i=true:=by kernel_rfl) (hr:(Region.ready md ops listed).contains i=true:=by kernel_rfl) (hl:lateB md ops n i=true:=by kernel_rfl) (hl1:listed.setIfInBounds i true=l1:=by rfl)
 (hQ:∀ c a w,Q (.panic c) (a.put oi.dst v) w→Q (.panic c) a w:=by first | exact fun _ _ _ h=>h | exact fun _ _ _ h=>(And.left (show (∀ c,_≠Exit.panic c)∧_ from h) _ rfl).elim) (hw:Region.wanted oi (yielded ops a.tmps)=true:=by rfl):wpAnyL P md ops Q S n (fuel+1) listed a w :=
 wpAnyL_take' hi hs hf hr hl hl1 hQ (Or.inl ⟨hw,hy⟩) hS h
theorem tu {P:Program} {md:Region.Mode} {ops:Array Oper} {Q:Exit→Act→World→Prop} {S:World→Prop} {n:Nat} (i:Nat) (oi:Oper) {fuel:Nat} {listed l1:Array Bool} {a:Act} {w:World} (hS:S w) (h:wpAnyL P md ops Q S n fuel l1 (a.put oi.dst undef) w)
 (hi:ops[i]?=some oi:=by rfl) (hs:Region.noSelect ops=true:=by kernel_rfl) (hf:Region.free md ops listed i=true:=by kernel_rfl) (hr:(Region.ready md ops listed).contains i=true:=by kernel_rfl) (hl:lateB md ops n i=true:=by kernel_rfl) (hl1:listed.setIfInBounds i true=l1:=by rfl)
 (hQ:∀ c a w,Q (.panic c) (a.put oi.dst undef) w→Q (.panic c) a w:=by first | exact fun _ _ _ h=>h | exact fun _ _ _ h=>(And.left (show (∀ c,_≠Exit.panic c)∧_ from h) _ rfl).elim) (hw:Region.wanted oi (yielded ops a.tmps)=false:=by rfl):wpAnyL P md ops Q S n (fuel+1) listed a w :=
 wpAnyL_take' hi hs hf hr hl hl1 hQ (Or.inr ⟨hw,rfl⟩) hS h
theorem wp_append_any {P:Program} {w:World} {o:Oper} {a:Act} {K:Act→World→Prop} {Q:Exit→Act→World→Prop} (s x:Operand) (t:TypeId)
    (ho:o.op=.call { callee:=.builtin .append,args:=#[s,x],argTypes:=#[t,t] })
    (base:Nat) (e:TypeId) (i:TypeInfo) (z:Value) (size bytes:Nat) (ht:P.underlying t=some (.slice e)) (hi:P.info? e=some i) (hz:i.zero=some z)
    (hsize:i.size=size) (hby:i.bytes=bytes) (hzs:z.cells.size=size) (hsz:0<size)
    (v:Value) (n:Nat) (xs:List Value) (hs:a.eval s=v) (hown:w.ownsRow base e size v n xs)
    (ao:Option Addr) (m c:Nat) (news:List Value) (hx:a.eval x=.slice ao m c) (hn:ao=none→m=0∧c=0) (hl:news.length=m * size) (hnews:∀ ad,ao=some ad→∀ j u,news[j]?=some u→w.cell? (ad.add j)=some u) (h1:∀ u∈news,u.oneCell'=true)
    (h63:n+m≤maxLen) (hbytes:(n+m) * bytes≤140737488355328) (hbase:base≤w.heap.size)
    (h:∀ v' w',w'.ownsRow base e size v' (n+m) (xs++news)→w.grownBy w' v.ownBlock→K (a.put o.dst v') w'):o.wp P a w K Q:=by
  cases ao with
  | some ad=>exact wp_append_own w s x t ho base e i z size bytes ht hi hz hsize hby hzs hsz v n xs hs hown ad m c news hx hl (hnews ad rfl) h1 h63 hbytes hbase (fun v' w' h2 h3 _=>h v' w' h2 h3)
  | none =>
    obtain ⟨rfl,rfl⟩:=hn rfl
    obtain rfl:news=[]:=List.eq_nil_of_length_eq_zero (by simpa using hl)
    have hrun:=run_append_owned_none (P:=P) (w:=w) base t o.type e i size ht hi v n xs hown
    unfold Oper.wp
    simp [execOp,ho,resolve,invoke,builtin,hs,hx,hrun,Result.andThen]
    exact h v w (by simpa using hown) ⟨rfl,rfl,rfl,Nat.le_refl _,fun _ _ _=>rfl⟩
theorem wpList_append_any {P:Program} {w:World} {ops:Array Oper} {rest:List Oper} {o:Oper} {a:Act} {Q:Exit→Act→World→Prop} (hgd:o.guard=none) (s x:Operand) (t:TypeId)
    (ho:o.op=.call { callee:=.builtin .append,args:=#[s,x],argTypes:=#[t,t] })
    (base:Nat) (e:TypeId) (i:TypeInfo) (z:Value) (size bytes:Nat) (ht:P.underlying t=some (.slice e)) (hi:P.info? e=some i) (hz:i.zero=some z)
    (hsize:i.size=size) (hby:i.bytes=bytes) (hzs:z.cells.size=size) (hsz:0<size)
    (v:Value) (n:Nat) (xs:List Value) (hs:a.eval s=v) (hown:w.ownsRow base e size v n xs)
    (ao:Option Addr) (m c:Nat) (news:List Value) (hx:a.eval x=.slice ao m c) (hn:ao=none→m=0∧c=0) (hl:news.length=m * size) (hnews:∀ ad,ao=some ad→∀ j u,news[j]?=some u→w.cell? (ad.add j)=some u) (h1:∀ u∈news,u.oneCell'=true)
    (h63:n+m≤maxLen) (hbytes:(n+m) * bytes≤140737488355328) (hbase:base≤w.heap.size)
    (h:∀ v' w',w'.ownsRow base e size v' (n+m) (xs++news)→w.grownBy w' v.ownBlock→wpList P ops Q rest (a.put o.dst v') w'):wpList P ops Q (o :: rest) a w :=
  wpList_plain hgd fun _ hK=>wp_append_any s x t ho base e i z size bytes ht hi hz hsize hby hzs hsz v n xs hs hown ao m c news hx hn hl hnews h1 h63 hbytes hbase fun v' w' h2 h3=>hK _ _ (h v' w' h2 h3)
set_option maxRecDepth 100000 in
set_option maxHeartbeats 4000000 in
theorem next_item (f:Fl) (a:FlA) (x:Ir) (w:World) (hf:FlAt f a w) (hn:f.n≤600) :
    Calls Tryz.prog 38 #[a.val f,valR x] w fun e w'=>e=.returned (.tuple #[.int .i64 ((nextI f x).getD 0),.bool (nextI f x).isSome])∧Below w.heap.size w w':=by
  have hR:=fun W (hb:Below w.heap.size w W) (h1:-1≤x.1) (h2:x.1<f.prods.length)=>right_any f a x.1 W (hf.next hb) hn h1 h2
  have hF:=fun W (hb:Below w.heap.size w W)=>fit_item f a x W (hf.next hb) hn
  obtain ⟨ta,tc,na,nc,pa,pc⟩:=a
  obtain ⟨x0,x1,x2⟩:=x
  have X0:=FBox.new f ⟨ta,tc,na,nc,pa,pc⟩ 50 w
  have B0:Below w.heap.size w (w.alloc (fobj f ⟨ta,tc,na,nc,pa,pc⟩ 50)):=(Below.refl _ _).alloc (Nat.le_refl _) _
  have Y0:=RBox.new (x0,x1,x2) 110 (w.alloc (fobj f ⟨ta,tc,na,nc,pa,pc⟩ 50))
  have X1:=X0.next ((Below.refl _ _).alloc (Nat.le_refl _) (Obj.cells #[.int .i64 x0,.int .i64 x1,.int .i64 x2] 110))
  have B1:=B0.alloc B0.size (Obj.cells #[.int .i64 x0,.int .i64 x1,.int .i64 x2] 110)
  have hz:(w.alloc (fobj f ⟨ta,tc,na,nc,pa,pc⟩ 50)).heap.size=w.heap.size+1:=by simp
  rw [hz] at Y0
  clear X0 B0 hz
  unfold fobj at X1 B1 Y0
  clear hf
  unfold FlA.val at hR hF ⊢
  unfold valR at hF ⊢
  simp only at *
  obtain ⟨b1,y0,y1,y2⟩:=id Y0
  obtain ⟨b0,z0,z1,z2⟩:=id X1
  simp only at y0 y1 y2 z0 z1 z2
  have HFI:Hid (∀ W,Below w.heap.size w W→Calls Tryz.prog 63 #[.agg #[.slice ta f.terms.length tc,.slice na f.nons.length nc,.slice pa f.prods.length pc],.agg #[.int .i64 x0,.int .i64 x1,.int .i64 x2]] W fun e w'=>e=.returned (.bool (fitI f (x0,x1,x2)))∧Below W.heap.size W w'):=hF
  have HRI:Hid (∀ W,Below w.heap.size w W→-1≤x0→x0<f.prods.length→Calls Tryz.prog 64 #[.agg #[.slice ta f.terms.length tc,.slice na f.nons.length nc,.slice pa f.prods.length pc],.int .i64 x0] W fun e w'=>∃ v,e=.returned v∧SlT (rightI f x0) v w'∧Below W.heap.size W w'):=hR
  clear hF hR
  go_enter Tryz.func38,Tryz.ntmps38
  go_wp2_with fail
  refine (HFI.out _ B1).mono ?_
  rintro e w0 ⟨rfl,hb0⟩
  have X2:=X1.next hb0
  have Y2:=Y0.next hb0
  have B2:=below_then B1 hb0 B1.size
  clear HFI X1 Y0 B1 b0 b1 z0 z1 z2 y0 y1 y2 hb0
  cases hft:fitI f (x0,x1,x2) with
  | false =>
    have HNI:Hid (nextI f (x0,x1,x2)=none):=by show _=_; unfold nextI; rw [hft]; rfl
    clear hft X2 Y2 HRI
    go_wp2_with fail
    go_ret2
    exact ⟨by rw [HNI.out]; rfl,B2⟩
  | true =>
  have hfi:=fitI_iff.1 hft
  simp only at hfi
  obtain ⟨p1,p2,p3,p4,p5,p6⟩:=hfi
  obtain ⟨d,rfl⟩:∃ d:Nat,x1=d:=⟨x1.toNat,by omega⟩
  have HNI:Hid (nextI f (x0,(d:Int),x2)=((rightI f x0)[d]?).map (·.sym)):=by show _=_; unfold nextI; rw [hft,if_pos rfl]; simp only; rw [Int.toNat_natCast]
  clear hft
  obtain ⟨_,y0,y1,y2⟩:=id Y2
  obtain ⟨_,z0,z1,z2⟩:=id X2
  simp only at y0 y1 y2 z0 z1 z2
  have HSI:Hid (∀ W,Below w0.heap.size w0 W→(W.cell? ⟨w.heap.size,0,none⟩=some (.slice ta f.terms.length tc)∧W.cell? ⟨w.heap.size,1,none⟩=some (.slice na f.nons.length nc)∧W.cell? ⟨w.heap.size,2,none⟩=some (.slice pa f.prods.length pc)∧W.cell? ⟨w.heap.size+1,0,none⟩=some (.int .i64 x0)∧W.cell? ⟨w.heap.size+1,1,none⟩=some (.int .i64 d)∧W.cell? ⟨w.heap.size+1,2,none⟩=some (.int .i64 x2)∧Below w0.heap.size w0 W)):=fun W hb=>by
    obtain ⟨_,l0,l1,l2⟩:=Y2.next hb
    obtain ⟨_,k0,k1,k2⟩:=X2.next hb
    exact ⟨k0,k1,k2,l0,l1,l2,hb⟩
  have HS0:Hid (w0.drew.cell? ⟨w.heap.size,0,none⟩=some (.slice ta f.terms.length tc)∧w0.drew.cell? ⟨w.heap.size,1,none⟩=some (.slice na f.nons.length nc)∧w0.drew.cell? ⟨w.heap.size,2,none⟩=some (.slice pa f.prods.length pc)∧w0.drew.cell? ⟨w.heap.size+1,0,none⟩=some (.int .i64 x0)∧w0.drew.cell? ⟨w.heap.size+1,1,none⟩=some (.int .i64 d)∧w0.drew.cell? ⟨w.heap.size+1,2,none⟩=some (.int .i64 x2)∧Below w0.heap.size w0 w0.drew):=HSI.out _ (Below.refl _ _).drew
  have HRR:Hid (Calls Tryz.prog 64 #[.agg #[.slice ta f.terms.length tc,.slice na f.nons.length nc,.slice pa f.prods.length pc],.int .i64 x0] w0.drew fun e w'=>∃ va vc,e=.returned (.slice va (rightI f x0).length vc)∧Hid (SlT (rightI f x0) (.slice va (rightI f x0).length vc) w')∧(rightI f x0).length≤vc∧vc≤140737488351232∧(va=none→vc=0)∧(w'.cell? ⟨w.heap.size,0,none⟩=some (.slice ta f.terms.length tc)∧w'.cell? ⟨w.heap.size,1,none⟩=some (.slice na f.nons.length nc)∧w'.cell? ⟨w.heap.size,2,none⟩=some (.slice pa f.prods.length pc)∧w'.cell? ⟨w.heap.size+1,0,none⟩=some (.int .i64 x0)∧w'.cell? ⟨w.heap.size+1,1,none⟩=some (.int .i64 d)∧w'.cell? ⟨w.heap.size+1,2,none⟩=some (.int .i64 x2)∧Below w0.heap.size w0 w')):=by
    refine (HRI.out _ (below_then B2 (Below.refl _ _).drew B2.size) p1 p2).mono ?_
    rintro e w' ⟨v,rfl,hv,hb⟩
    obtain ⟨va,vc,rfl,k1,k2,k3,k4⟩:=id hv
    exact ⟨va,vc,rfl,hv,k3,k4,k2,HSI.out _ (below_then (Below.refl _ _).drew hb (Nat.le_refl _))⟩
  have HBB:Hid (∀ W,Below w0.heap.size w0 W→Below w.heap.size w W):=fun W hb=>below_then B2 hb B2.size
  obtain ⟨r,hr⟩:∃ r,rightI f x0=r:=⟨_,rfl⟩
  rw [hr] at HRR HNI p4
  have hdr:d≤r.length:=by omega
  clear hr HSI HRI X2 Y2 B2 y0 y1 y2 z0 z1 z2
  have hd0:(d:Int)≤r.length:=by omega
  go_wp2_with fail
  refine wp_region_L (fun W=>W.cell? ⟨w.heap.size,0,none⟩=some (.slice ta f.terms.length tc)∧W.cell? ⟨w.heap.size,1,none⟩=some (.slice na f.nons.length nc)∧W.cell? ⟨w.heap.size,2,none⟩=some (.slice pa f.prods.length pc)∧W.cell? ⟨w.heap.size+1,0,none⟩=some (.int .i64 x0)∧W.cell? ⟨w.heap.size+1,1,none⟩=some (.int .i64 d)∧W.cell? ⟨w.heap.size+1,2,none⟩=some (.int .i64 x2)∧Below w0.heap.size w0 W) 8 (by kernel_rfl) 8 rfl ?_
  refine tk 0 ⟨some 11,.load 50 (.tmp 2),50, "item.go:40",#[],none⟩ HS0.out ?_;simp only [Act.put,sA,s0,sS]
  refine tk 1 ⟨some 12,.fieldAddr 110 (.tmp 3) 0,0, "item.go:40",#[],none⟩ HS0.out ?_;simp only [Act.put,sA,s0,sS]
  refine tk 2 ⟨some 13,.load 3 (.tmp 12),3, "item.go:40",#[⟨1,.data⟩],none⟩ HS0.out ?_;simp only [Act.put,sA,s0,sS]
  refine tk 4 ⟨some 15,.fieldAddr 110 (.tmp 3) 1,0, "item.go:40",#[],none⟩ HS0.out ?_;simp only [Act.put,sA,s0,sS]
  refine tk 5 ⟨some 16,.load 3 (.tmp 15),3, "item.go:40",#[⟨4,.data⟩],none⟩ HS0.out ?_;simp only [Act.put,sA,s0,sS]
  refine wpAnyL_one' (i:=3) (o:=⟨some 14,.call ⟨.value (.func 64),#[.tmp 11,.tmp 13],#[50,3]⟩,45, "item.go:40",#[⟨0,.data⟩,⟨2,.data⟩],none⟩) (by kernel_rfl) rfl rfl (fun K hK=>?_)
  go_simp
  refine (HRR.out).mono ?_
  rintro e w' ⟨va,vc,rfl,hSl,hvc,hvm,hvn,hS⟩
  refine hK.out _ _ (fun _=>hS) ?_
  clear hK
  have HSL:Hid (SlT r (.slice va r.length vc) w'):=hSl
  clear hSl HRR
  have hdv:(d:Int)≤vc:=by omega
  rcases Nat.lt_or_ge d r.length with hlt | hge
  · obtain ⟨ao,cap,e,hI,_⟩:=HSL.out
    cases e
    obtain ⟨b,off,rfl,hb,c0,c1,c2,_⟩:=hI.at (Below.refl _ _) hlt
    have HNX:Hid (nextI f (x0,(d:Int),x2)=some r[d].sym):=by show _=_; rw [HNI.out,List.getElem?_eq_getElem hlt]; rfl
    generalize r[d]=it at *
    have hdc:d<vc:=by omega
    have hdc2:¬ vc - d=0:=by omega
    have HF:Hid (Below w.heap.size w w'):=HBB.out _ hS.2.2.2.2.2.2
    have hrl:¬ r.length - d=0:=by omega
    have hrl2:(((r.length - d:Nat):Int) == 0)=false:=by simp; omega
    clear HNI HSL hI HBB
    refine tk 6 ⟨some 17,.slice 45 (.tmp 14) (some (.tmp 16)) none none,45, "item.go:40",#[⟨3,.data⟩,⟨5,.data⟩],none⟩ hS ?_;simp only [Act.put,sA,s0,sS]
    refine tk 7 ⟨some 6,.assign (.tmp 17),45, "item.go:40",#[⟨6,.data⟩,⟨3,.chain⟩,⟨0,.phase⟩,⟨1,.phase⟩,⟨2,.phase⟩,⟨3,.phase⟩,⟨4,.phase⟩,⟨5,.phase⟩,⟨6,.phase⟩],none⟩ hS ?_;simp only [Act.put,sA,s0,sS]
    refine wpAnyL_done (by kernel_rfl) ?_ _
    clear hS
    go_wp2_with fail
    go_ret2
    exact ⟨by rw [HNX.out]; rfl,HF.out⟩
  · obtain rfl:d=r.length:=by omega
    have HNX:Hid (nextI f (x0,(r.length:Int),x2)=none):=by show _=_; rw [HNI.out]; simp
    have HF:Hid (Below w.heap.size w w'):=HBB.out _ hS.2.2.2.2.2.2
    clear HNI HSL HBB
    rcases Nat.lt_or_ge r.length vc with hdc | hdc
    · cases va with
      | none=>exfalso; have:=hvn rfl; omega
      | some ad =>
      have hdc2:¬ vc - r.length=0:=by omega
      clear hvn
      refine tk 6 ⟨some 17,.slice 45 (.tmp 14) (some (.tmp 16)) none none,45, "item.go:40",#[⟨3,.data⟩,⟨5,.data⟩],none⟩ hS ?_;simp only [Act.put,sA,s0,sS]
      refine tk 7 ⟨some 6,.assign (.tmp 17),45, "item.go:40",#[⟨6,.data⟩,⟨3,.chain⟩,⟨0,.phase⟩,⟨1,.phase⟩,⟨2,.phase⟩,⟨3,.phase⟩,⟨4,.phase⟩,⟨5,.phase⟩,⟨6,.phase⟩],none⟩ hS ?_;simp only [Act.put,sA,s0,sS]
      refine wpAnyL_done (by kernel_rfl) ?_ _
      clear hS
      go_wp2_with fail
      go_ret2
      exact ⟨by rw [HNX.out]; rfl,HF.out⟩
    · obtain rfl:vc=r.length:=by omega
      clear hvn
      refine tk 6 ⟨some 17,.slice 45 (.tmp 14) (some (.tmp 16)) none none,45, "item.go:40",#[⟨3,.data⟩,⟨5,.data⟩],none⟩ hS ?_;simp only [Act.put,sA,s0,sS]
      refine tk 7 ⟨some 6,.assign (.tmp 17),45, "item.go:40",#[⟨6,.data⟩,⟨3,.chain⟩,⟨0,.phase⟩,⟨1,.phase⟩,⟨2,.phase⟩,⟨3,.phase⟩,⟨4,.phase⟩,⟨5,.phase⟩,⟨6,.phase⟩],none⟩ hS ?_;simp only [Act.put,sA,s0,sS]
      refine wpAnyL_done (by kernel_rfl) ?_ _
      clear hS
      go_wp2_with fail
      go_ret2
      exact ⟨by rw [HNX.out]; rfl,HF.out⟩
end Go.Proofs.YtiamjafecbpfpaaGreatDoor
