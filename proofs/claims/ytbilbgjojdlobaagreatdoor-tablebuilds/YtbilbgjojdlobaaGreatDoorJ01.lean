import Derived.Test.YtbilbgjojdlobaaGreatDoorProg
import Derived.WalkKit
import Derived.WalkSpells
import Derived.WalkLawsBesides
import Derived.Deep.QuietTactic
import Derived.BigQuiet
import Derived.Laws.AppendOwnNone
import Derived.Laws.OwnMore
import Derived.Deep.RegionHeld3
import Derived.Deep.AppendLies
import Derived.Deep.DrawnRows
import Derived.OwnWalk
import Derived.Deep.LoopGhost
import Derived.Deep.Cut

namespace Go.Proofs.YtbilbgjojdlobaaGreatDoor
theorem sA {α:Type} (l:List α) (i:Nat) (a:α):l.toArray.setIfInBounds i a=(l.set i a).toArray:=List.setIfInBounds_toArray ..
theorem s0 {α:Type} (xs:List α) (x a:α):(x :: xs).set 0 a=a :: xs:=List.set_cons_zero ..
theorem sS {α:Type} (xs:List α) (x a:α) (i:Nat):(x :: xs).set (i+1) a=x :: xs.set i a:=List.set_cons_succ ..
def putL (x:Int):List Int→List Int
  | []=>[x]
  | y :: ys=>if y<x then y :: putL x ys else if y=x then y :: ys else x :: y :: ys
def unionL (a b:List Int):List Int:=b.foldl (fun l x=>putL x l) a
def Rising (l:List Int):Prop:=l.Pairwise (· < ·)
theorem mem_putL {x z:Int} {l:List Int}:z∈putL x l↔z=x∨z∈l:=by
  induction l with
  | nil=>simp [putL]
  | cons y ys ih =>
    unfold putL
    split
    · simp [ih]; constructor
      · rintro (h | h | h) <;> simp [h]
      · rintro (h | h | h) <;> simp [h]
    · split
      · rename_i h; subst h; simp
      · simp
theorem rising_putL {x:Int} {l:List Int} (h:Rising l):Rising (putL x l):=by
  induction l with
  | nil=>simp [putL,Rising]
  | cons y ys ih =>
    have h2:=List.pairwise_cons.1 h
    unfold putL
    split
    · rename_i hlt
      refine List.pairwise_cons.2 ⟨?_,ih h2.2⟩
      intro z hz
      rcases mem_putL.1 hz with rfl | hz
      · exact hlt
      · exact h2.1 z hz
    · split
      · exact h
      · rename_i h3 h4
        refine List.pairwise_cons.2 ⟨?_,h⟩
        intro z hz
        rcases List.mem_cons.1 hz with rfl | hz
        · omega
        · have:=h2.1 z hz; omega
theorem mem_unionL {z:Int} {a b:List Int}:z∈unionL a b↔z∈a∨z∈b:=by
  unfold unionL
  induction b generalizing a with
  | nil=>simp
  | cons x xs ih=>simp only [List.foldl_cons]; rw [ih]; rw [mem_putL]; simp only [List.mem_cons,or_assoc,or_left_comm]
theorem rising_unionL {a b:List Int} (h:Rising a):Rising (unionL a b):=by
  unfold unionL
  induction b generalizing a with
  | nil=>exact h
  | cons x xs ih=>exact ih (rising_putL h)
theorem putL_of_mem {x:Int} {l:List Int} (h:Rising l) (hx:x∈l):putL x l=l:=by
  induction l with
  | nil=>cases hx
  | cons y ys ih =>
    have h2:=List.pairwise_cons.1 h
    unfold putL
    split
    · rename_i hlt
      rcases List.mem_cons.1 hx with rfl | hx
      · omega
      · rw [ih h2.2 hx]
    · split
      · rfl
      · rename_i h3 h4
        rcases List.mem_cons.1 hx with rfl | hx
        · exact absurd rfl h4
        · have:=h2.1 x hx; omega
theorem length_putL (x:Int) (l:List Int):l.length≤(putL x l).length∧(putL x l).length≤l.length+1:=by
  induction l with
  | nil=>simp [putL]
  | cons y ys ih =>
    unfold putL
    split
    · simp; omega
    · split <;> simp
theorem length_putL_new {x:Int} {l:List Int} (hx:x ∉ l):(putL x l).length=l.length+1:=by
  induction l with
  | nil=>simp [putL]
  | cons y ys ih =>
    have hy:¬ y=x:=fun h=>hx (by simp [h])
    have hys:x ∉ ys:=fun h=>hx (by simp [h])
    unfold putL
    split
    · simp [ih hys]
    · simp
theorem unionL_of_sub {a b:List Int} (h:Rising a) (hs:∀ x∈b,x∈a):unionL a b=a:=by
  unfold unionL
  induction b with
  | nil=>rfl
  | cons x xs ih =>
    simp only [List.foldl_cons]
    rw [putL_of_mem h (hs x (by simp))]
    exact ih (fun y hy=>hs y (by simp [hy]))
theorem length_unionL (a b:List Int):a.length≤(unionL a b).length∧(unionL a b).length≤a.length+b.length:=by
  unfold unionL
  induction b generalizing a with
  | nil=>simp
  | cons x xs ih =>
    have h1:=ih (putL x a); have h2:=length_putL x a
    simp only [List.foldl_cons,List.length_cons]; omega
theorem sub_of_length_unionL {a b:List Int} (h:Rising a) (hl:(unionL a b).length≤a.length):∀ x∈b,x∈a:=by
  unfold unionL at hl
  induction b generalizing a with
  | nil=>intro x hx; cases hx
  | cons y ys ih =>
    simp only [List.foldl_cons] at hl
    have h1:=length_unionL (putL y a) ys
    unfold unionL at h1
    by_cases hy:y∈a
    · rw [putL_of_mem h hy] at hl
      intro x hx
      rcases List.mem_cons.1 hx with rfl | hx
      · exact hy
      · exact ih h hl x hx
    · have:=length_putL_new hy; omega
theorem rising_ext {a b:List Int} (ha:Rising a) (hb:Rising b) (h:∀ x,x∈a↔x∈b):a=b:=by
  induction a generalizing b with
  | nil =>
    cases b with
    | nil=>rfl
    | cons y ys=>exact absurd ((h y).2 (by simp)) (by simp)
  | cons x xs ih =>
    have h1:=List.pairwise_cons.1 ha
    cases b with
    | nil=>exact absurd ((h x).1 (by simp)) (by simp)
    | cons y ys =>
      have h2:=List.pairwise_cons.1 hb
      have hxy:x=y:=by
        rcases List.mem_cons.1 ((h x).1 (by simp)) with e | e
        · exact e
        · rcases List.mem_cons.1 ((h y).2 (by simp)) with e' | e'
          · exact e'.symm
          · have:=h1.1 y e'; have:=h2.1 x e; omega
      subst hxy
      congr 1
      refine ih h1.2 h2.2 (fun z=>?_)
      constructor
      · intro hz
        rcases List.mem_cons.1 ((h z).1 (by simp [hz])) with e | e
        · have:=h1.1 z hz; omega
        · exact e
      · intro hz
        rcases List.mem_cons.1 ((h z).2 (by simp [hz])) with e | e
        · have:=h2.1 z hz; omega
        · exact e
theorem rising_length {l:List Int} {n:Nat} (h:Rising l) (h0:∀ x∈l,0≤x∧x<n):l.length≤n:=by
  induction n generalizing l with
  | zero =>
    cases l with
    | nil=>simp
    | cons x xs=>have:=h0 x (by simp); omega
  | succ n ih =>
    -- leave n out
    have key:∀ (l:List Int) (lo:Int),Rising l→(∀ x∈l,lo≤x)→∀ (k:Nat),(∀ x∈l,x<lo+k)→l.length≤k:=by
      intro l
      induction l with
      | nil=>intros; simp
      | cons x xs ihx =>
        intro lo hr hlo k hk
        have hr2:=List.pairwise_cons.1 hr
        have hx:=hlo x (by simp); have hx':=hk x (by simp)
        cases k with
        | zero=>omega
        | succ k =>
          have:=ihx (lo+1) hr2.2 (fun z hz=>by have:=hr2.1 z hz; omega) k (fun z hz=>by have:=hk z (by simp [hz]); omega)
          simp; omega
    exact key l 0 h (fun x hx=>(h0 x hx).1) (n+1) (fun x hx=>by have:=(h0 x hx).2; omega)
abbrev Gr:=List (Nat × List Nat)
inductive Der (base:Nat→Prop) (g:Gr):Nat→Prop
  | base {s}:base s→Der base g s
  | prod {l r}:(l,r)∈g→(∀ x,x∈r→Der base g x)→Der base g l
def OnB (L:List Bool) (s:Nat):Prop:=L[s]?=some true
instance (L:List Bool) (s:Nat):Decidable (OnB L s):=inferInstanceAs (Decidable (_=_))
def SoundB (base:Nat→Prop) (g:Gr) (L:List Bool):Prop:=∀ s,OnB L s→Der base g s
def ClosedB (L:List Bool) (p:Nat × List Nat):Prop:=(∀ x∈p.2,OnB L x)→OnB L p.1
theorem onB_set {L:List Bool} {l s:Nat} (h:OnB L s):OnB (L.set l true) s:=by
  unfold OnB at *
  rw [List.getElem?_set]
  split
  · rename_i h1; subst h1
    have:l<L.length:=by
      rcases Nat.lt_or_ge l L.length with h2 | h2
      · exact h2
      · rw [List.getElem?_eq_none h2] at h; cases h
    simp [this]
  · exact h
theorem onB_set_iff {L:List Bool} {l s:Nat} (hl:l<L.length):OnB (L.set l true) s↔s=l∨OnB L s:=by
  unfold OnB
  rw [List.getElem?_set]
  constructor
  · intro h
    split at h
    · rename_i h1; exact Or.inl h1.symm
    · exact Or.inr h
  · rintro (rfl | h)
    · simp [hl]
    · split
      · simp
      · exact h
theorem soundB_set {base g} {L:List Bool} {l r} (h:SoundB base g L) (hl:l<L.length) (hm:(l,r)∈g) (hr:∀ x∈r,OnB L x):SoundB base g (L.set l true):=by
  intro s hs
  rcases (onB_set_iff hl).1 hs with rfl | hs
  · exact .prod hm (fun x hx=>h x (hr x hx))
  · exact h s hs
theorem complete_B {base g} {L:List Bool} (hb:∀ s,base s→OnB L s) (hc:∀ p∈g,ClosedB L p) {s} (h:Der base g s):OnB L s:=by
  induction h with
  | base h=>exact hb _ h
  | prod hm _ ih=>exact hc _ hm ih
def GivesB (base:Nat→Prop) (g:Gr) (n:Nat) (L:List Bool):Prop:=L.length=n∧∀ s,s<n→(OnB L s↔Der base g s)
def offs (L:List Bool):Nat:=(L.filter (fun b=>!b)).length
theorem offs_set {L:List Bool} {l:Nat} (hl:l<L.length) (h:¬ OnB L l):offs (L.set l true)<offs L:=by
  unfold offs
  induction L generalizing l with
  | nil=>simp at hl
  | cons b bs ih =>
    cases l with
    | zero =>
      have:b=false:=by
        unfold OnB at h; simp at h; exact h
      subst this; simp
    | succ l =>
      have:=ih (l:=l) (by simpa using hl) (by unfold OnB at *; simpa using h)
      cases b <;> simp_all
def InR (R:List (List Int)) (s:Nat) (t:Int):Prop:=∃ l,R[s]?=some l∧t∈l
inductive Fst (emp:Nat→Prop) (terms:Nat) (g:Gr):Nat→Int→Prop
  | term {t:Nat}:t<terms→Fst emp terms g t t
  | prod {l pre x post t}:(l,pre++x :: post)∈g→(∀ y,y∈pre→emp y)→Fst emp terms g x t→Fst emp terms g l t
inductive Beg (emp:Nat→Prop) (fst:Nat→Int→Prop) (b:Int→Prop):List Nat→Int→Prop
  | here {x xs t}:fst x t→Beg emp fst b (x :: xs) t
  | next {x xs t}:emp x→Beg emp fst b xs t→Beg emp fst b (x :: xs) t
  | behind {t}:b t→Beg emp fst b [] t
inductive Fol (emp:Nat→Prop) (fst:Nat→Int→Prop) (terms:Nat) (g:Gr):Nat→Int→Prop
  | last:Fol emp fst terms g terms terms
  | first {l pre x post t}:(l,pre++x :: post)∈g→terms≤x→Beg emp fst (fun _=>False) post t→Fol emp fst terms g x t
  | left {l pre x post t}:(l,pre++x :: post)∈g→terms≤x→(∀ y,y∈post→emp y)→Fol emp fst terms g l t→Fol emp fst terms g x t
theorem beg_iff {emp fst} {b:Int→Prop} {l t}:Beg emp fst b l t↔Beg emp fst (fun _=>False) l t∨(∀ y,y∈l→emp y)∧b t:=by
  induction l with
  | nil =>
    constructor
    · intro h; cases h with | behind h=>exact Or.inr ⟨by simp,h⟩
    · rintro (h | h)
      · cases h with | behind h=>exact h.elim
      · exact .behind h.2
  | cons x xs ih =>
    constructor
    · intro h
      cases h with
      | here h=>exact Or.inl (.here h)
      | next h1 h2 =>
        rcases ih.1 h2 with h3 | h3
        · exact Or.inl (.next h1 h3)
        · exact Or.inr ⟨fun y hy=>by rcases List.mem_cons.1 hy with rfl | hy; exact h1; exact h3.1 y hy,h3.2⟩
    · rintro (h | h)
      · cases h with
        | here h=>exact .here h
        | next h1 h2=>exact .next h1 (ih.2 (Or.inl h2))
      · exact .next (h.1 x (by simp)) (ih.2 (Or.inr ⟨fun y hy=>h.1 y (by simp [hy]),h.2⟩))
def ClosedF (emp:Nat→Prop) (R:List (List Int)) (p:Nat × List Nat):Prop :=
  ∀ pre x post,p.2=pre++x :: post→(∀ y,y∈pre→emp y)→∀ t,InR R x t→InR R p.1 t
theorem complete_F {emp terms g} {R:List (List Int)} (hb:∀ t:Nat,t<terms→InR R t t) (hc:∀ p∈g,ClosedF emp R p) {s t} (h:Fst emp terms g s t):InR R s t:=by
  induction h with
  | term h=>exact hb _ h
  | prod hm he _ ih=>exact hc _ hm _ _ _ rfl he _ ih
def GivesR (P:Nat→Int→Prop) (n:Nat) (R:List (List Int)):Prop:=R.length=n∧(∀ l∈R,Rising l)∧∀ s,s<n→∀ t,(InR R s t↔P s t)
theorem inR_get {R:List (List Int)} {s:Nat} (h:s<R.length) {t}:InR R s t↔t∈R[s]:=by
  unfold InR; rw [List.getElem?_eq_getElem h]; simp
theorem inR_set {R:List (List Int)} {s:Nat} {l:List Int} (hs:s<R.length) {x t}:InR (R.set s l) x t↔(x=s∧t∈l)∨(x≠s∧InR R x t):=by
  unfold InR
  rw [List.getElem?_set]
  constructor
  · rintro ⟨m,h,ht⟩
    split at h
    · rename_i e; simp at h; subst h; exact Or.inl ⟨e.symm,ht⟩
    · rename_i e; exact Or.inr ⟨fun h'=>e h'.symm,m,h,ht⟩
  · rintro (⟨rfl,ht⟩ | ⟨hne,m,h,ht⟩)
    · exact ⟨l,by simp [hs],ht⟩
    · exact ⟨m,by rw [if_neg (fun h'=>hne h'.symm)]; exact h,ht⟩
def bulk (R:List (List Int)):Nat:=(R.map List.length).sum
theorem bulk_set {R:List (List Int)} {s:Nat} {l:List Int} (hs:s<R.length):bulk (R.set s l)+(R[s]).length=bulk R+l.length:=by
  unfold bulk
  induction R generalizing s with
  | nil=>simp at hs
  | cons x xs ih =>
    cases s with
    | zero=>simp; omega
    | succ s=>have:=ih (s:=s) (by simpa using hs); simp at this ⊢; omega
theorem bulk_le {R:List (List Int)} {k:Nat} (h:∀ l∈R,l.length≤k):bulk R≤R.length * k:=by
  unfold bulk
  induction R with
  | nil=>simp
  | cons x xs ih =>
    have h1:=h x (by simp); have h2:=ih (fun l hl=>h l (by simp [hl]))
    simp [Nat.succ_mul]; omega
end Go.Proofs.YtbilbgjojdlobaaGreatDoor
namespace Go.Proofs.YtbilbgjojdlobaaGreatDoor
open Go.RowKit
theorem ret_int {k:IntKind} {a b:Int} (h:a=b):Ending.returned (.int k a)=.returned (.int k b):=by rw [h]
theorem ret_bool {a b:Bool} (h:a=b):Ending.returned (.bool a)=.returned (.bool b):=by rw [h]
theorem below_then {n:Nat} {w W W':World} (h:Below n w W) (hb:Below W.heap.size W W') (hn:n≤W.heap.size):Below n w W':=h.trans (hb.mono hn)
theorem below_drewN {B:Nat} {a w:World} (h:Below B a w) (n:Nat):Below B a (w.drewN n):=⟨h.os,h.tape,h.output,h.size,h.block⟩
theorem drewN_two (w:World) (a b:Nat):∃ m,(w.drewN a).drewN b=w.drewN m:=⟨a+b,by rw [World.drewN_drewN]⟩
theorem add_plain (b o j:Nat):(⟨b,o,none⟩:Addr).add j=⟨b,o+j,none⟩:=by unfold Addr.add; split <;> simp_all
def i64B (x:Int):Prop:=-9223372036854775808≤x∧x≤9223372036854775807
def RowAt {α:Type} (enc:α→Value) (l:List α) (ao:Option Addr) (W:World):Prop :=
  ∀ (i:Nat) (x:α),l[i]?=some x→∃ b off,ao=some ⟨b,off,none⟩∧b<W.heap.size∧W.cell? ⟨b,off+i,none⟩=some (enc x)
theorem RowAt.next {α:Type} {enc:α→Value} {l:List α} {ao:Option Addr} {W W':World} (h:RowAt enc l ao W) (hb:Below W.heap.size W W'):RowAt enc l ao W':=fun i r hr=>by
  obtain ⟨b,off,h0,h1,h2⟩:=h i r hr
  exact ⟨b,off,h0,Nat.lt_of_lt_of_le h1 hb.size,(hb.cell (p:=⟨b,off+i,none⟩) h1).trans h2⟩
theorem RowAt.nil {α:Type} (enc:α→Value) (ao:Option Addr) (W:World):RowAt enc [] ao W:=fun i r hr=>by simp at hr
theorem RowAt.at {α:Type} {enc:α→Value} {l:List α} {ao:Option Addr} {w W:World} (h:RowAt enc l ao w) (hb:Below w.heap.size w W) {j:Nat} (hj:j<l.length) :
    ∃ b off,ao=some ⟨b,off,none⟩∧b<W.heap.size∧W.cell? ⟨b,off+j,none⟩=some (enc l[j]):=h.next hb j l[j] (by simp [hj])
theorem RowAt.cons_none {α:Type} {enc:α→Value} {l:List α} {W:World} (h:RowAt enc l none W):l=[]:=by
  cases l with
  | nil=>rfl
  | cons r t=>obtain ⟨b,off,h0,_⟩:=h 0 r rfl; cases h0
def encI (x:Int):Value:=.int .i64 x
def encB (x:Bool):Value:=.bool x
def SlI (l:List Int) (v:Value) (W:World):Prop :=
  ∃ ao cap,v=.slice ao l.length cap∧RowAt encI l ao W∧(ao=none→cap=0)∧l.length≤cap∧(∀ x∈l,i64B x)
theorem SlI.next {l:List Int} {v:Value} {W W':World} (h:SlI l v W) (hb:Below W.heap.size W W'):SlI l v W':=by
  obtain ⟨ao,cap,h0,h1,h2,h3,h4⟩:=h
  exact ⟨ao,cap,h0,h1.next hb,h2,h3,h4⟩
def SlB (l:List Bool) (v:Value) (W:World):Prop :=
  ∃ ao cap,v=.slice ao l.length cap∧RowAt encB l ao W∧(ao=none→cap=0)∧l.length≤cap
theorem SlB.next {l:List Bool} {v:Value} {W W':World} (h:SlB l v W) (hb:Below W.heap.size W W'):SlB l v W':=by
  obtain ⟨ao,cap,h0,h1,h2,h3⟩:=h
  exact ⟨ao,cap,h0,h1.next hb,h2,h3⟩
def RowsAt (R:List (List Int)) (ao:Option Addr) (W:World):Prop :=
  ∀ (i:Nat) (l:List Int),R[i]?=some l→∃ b off v,ao=some ⟨b,off,none⟩∧b<W.heap.size∧W.cell? ⟨b,off+i,none⟩=some v∧SlI l v W
theorem RowsAt.next {R:List (List Int)} {ao:Option Addr} {W W':World} (h:RowsAt R ao W) (hb:Below W.heap.size W W'):RowsAt R ao W':=fun i r hr=>by
  obtain ⟨b,off,v,h0,h1,h2,h3⟩:=h i r hr
  exact ⟨b,off,v,h0,Nat.lt_of_lt_of_le h1 hb.size,(hb.cell (p:=⟨b,off+i,none⟩) h1).trans h2,h3.next hb⟩
theorem RowsAt.at {R:List (List Int)} {ao:Option Addr} {w W:World} (h:RowsAt R ao w) (hb:Below w.heap.size w W) {j:Nat} (hj:j<R.length) :
    ∃ b off v,ao=some ⟨b,off,none⟩∧b<W.heap.size∧W.cell? ⟨b,off+j,none⟩=some v∧SlI R[j] v W:=h.next hb j R[j] (by simp [hj])
def SlR (R:List (List Int)) (v:Value) (W:World):Prop :=
  ∃ ao cap,v=.slice ao R.length cap∧RowsAt R ao W∧(ao=none→cap=0)∧R.length≤cap
theorem SlR.next {R:List (List Int)} {v:Value} {W W':World} (h:SlR R v W) (hb:Below W.heap.size W W'):SlR R v W':=by
  obtain ⟨ao,cap,h0,h1,h2,h3⟩:=h
  exact ⟨ao,cap,h0,h1.next hb,h2,h3⟩
def Apart (B:Nat) (v:Value):Prop:=∀ ad n c,v=.slice (some ad) n c→B≤ad.block
theorem Apart.mono {B B':Nat} {v:Value} (h:Apart B v) (hb:B'≤B):Apart B' v:=fun ad n c e=>Nat.le_trans hb (h ad n c e)
theorem Apart.none (B n c:Nat):Apart B (.slice none n c):=fun ad n c e=>by cases e
structure It where
  sym:Int
  fld:ByteArray
  als:ByteArray
structure Pr where
  left:Int
  right:List It
  prec:Int
structure Fl where
  terms:List ByteArray
  nons:List ByteArray
  prods:List Pr
def ItsAt (l:List It) (ao:Option Addr) (W:World):Prop :=
  ∀ (i:Nat) (x:It),l[i]?=some x→∃ b off,ao=some ⟨b,off,none⟩∧b<W.heap.size∧W.cell? ⟨b,off+i * 3,none⟩=some (.int .i64 x.sym)∧W.cell? ⟨b,off+i * 3+1,none⟩=some (.string x.fld)∧W.cell? ⟨b,off+i * 3+2,none⟩=some (.string x.als)∧i64B x.sym∧x.fld.size≤9223372036854775807∧x.als.size≤9223372036854775807
theorem ItsAt.next {l:List It} {ao:Option Addr} {W W':World} (h:ItsAt l ao W) (hb:Below W.heap.size W W'):ItsAt l ao W':=fun i r hr=>by
  obtain ⟨b,off,h0,h1,h2,h3,h4,h5⟩:=h i r hr
  exact ⟨b,off,h0,Nat.lt_of_lt_of_le h1 hb.size,(hb.cell (p:=⟨b,off+i * 3,none⟩) h1).trans h2,(hb.cell (p:=⟨b,off+i * 3+1,none⟩) h1).trans h3,(hb.cell (p:=⟨b,off+i * 3+2,none⟩) h1).trans h4,h5⟩
theorem ItsAt.at {l:List It} {ao:Option Addr} {w W:World} (h:ItsAt l ao w) (hb:Below w.heap.size w W) {j:Nat} (hj:j<l.length) :
    ∃ b off,ao=some ⟨b,off,none⟩∧b<W.heap.size∧W.cell? ⟨b,off+j * 3,none⟩=some (.int .i64 l[j].sym)∧W.cell? ⟨b,off+j * 3+1,none⟩=some (.string l[j].fld)∧W.cell? ⟨b,off+j * 3+2,none⟩=some (.string l[j].als)∧i64B l[j].sym∧l[j].fld.size≤9223372036854775807∧l[j].als.size≤9223372036854775807:=h.next hb j l[j] (by simp [hj])
def SlT (l:List It) (v:Value) (W:World):Prop :=
  ∃ ao cap,v=.slice ao l.length cap∧ItsAt l ao W∧(ao=none→cap=0)∧l.length≤cap∧cap≤140737488351232
theorem SlT.next {l:List It} {v:Value} {W W':World} (h:SlT l v W) (hb:Below W.heap.size W W'):SlT l v W':=by
  obtain ⟨ao,cap,h0,h1,h2,h3⟩:=h
  exact ⟨ao,cap,h0,h1.next hb,h2,h3⟩
def PrsAt (l:List Pr) (ao:Option Addr) (W:World):Prop :=
  ∀ (i:Nat) (p:Pr),l[i]?=some p→∃ b off v,ao=some ⟨b,off,none⟩∧b<W.heap.size∧W.cell? ⟨b,off+i * 3,none⟩=some (.int .i64 p.left)∧W.cell? ⟨b,off+i * 3+1,none⟩=some v∧W.cell? ⟨b,off+i * 3+2,none⟩=some (.int .i64 p.prec)∧SlT p.right v W∧i64B p.left∧i64B p.prec
theorem PrsAt.next {l:List Pr} {ao:Option Addr} {W W':World} (h:PrsAt l ao W) (hb:Below W.heap.size W W'):PrsAt l ao W':=fun i r hr=>by
  obtain ⟨b,off,v,h0,h1,h2,h3,h4,h5,h6⟩:=h i r hr
  exact ⟨b,off,v,h0,Nat.lt_of_lt_of_le h1 hb.size,(hb.cell (p:=⟨b,off+i * 3,none⟩) h1).trans h2,(hb.cell (p:=⟨b,off+i * 3+1,none⟩) h1).trans h3,(hb.cell (p:=⟨b,off+i * 3+2,none⟩) h1).trans h4,h5.next hb,h6⟩
theorem PrsAt.at {l:List Pr} {ao:Option Addr} {w W:World} (h:PrsAt l ao w) (hb:Below w.heap.size w W) {j:Nat} (hj:j<l.length) :
    ∃ b off v,ao=some ⟨b,off,none⟩∧b<W.heap.size∧W.cell? ⟨b,off+j * 3,none⟩=some (.int .i64 l[j].left)∧W.cell? ⟨b,off+j * 3+1,none⟩=some v∧W.cell? ⟨b,off+j * 3+2,none⟩=some (.int .i64 l[j].prec)∧SlT l[j].right v W∧i64B l[j].left∧i64B l[j].prec:=h.next hb j l[j] (by simp [hj])
structure FlA where
  ta:Option Addr
  tc:Nat
  na:Option Addr
  nc:Nat
  pa:Option Addr
  pc:Nat
def FlA.val (a:FlA) (f:Fl):Value:=.agg #[.slice a.ta f.terms.length a.tc,.slice a.na f.nons.length a.nc,.slice a.pa f.prods.length a.pc]
def FlAt (f:Fl) (a:FlA) (W:World):Prop :=
  RowAt Value.string f.terms a.ta W∧RowAt Value.string f.nons a.na W∧PrsAt f.prods a.pa W∧f.terms.length≤140737488351232∧f.nons.length≤140737488351232∧f.prods.length≤140737488351232∧f.prods.length≤a.pc∧(a.pa=none→a.pc=0)
theorem FlAt.next {f:Fl} {a:FlA} {W W':World} (h:FlAt f a W) (hb:Below W.heap.size W W'):FlAt f a W':=by
  obtain ⟨h0,h1,h2,h3⟩:=h
  exact ⟨h0.next hb,h1.next hb,h2.next hb,h3⟩
def Own1 {α:Type} (e:TypeId) (enc:α→Value) (B:Nat) (l:List α) (v:Value) (W:World):Prop:=W.ownsRow B e 1 v l.length (l.map enc)
theorem Own1.nil {α:Type} (e:TypeId) (enc:α→Value) (B:Nat) (W:World):Own1 e enc B [] (.slice none 0 0) W:=World.ownsRow_nil W B e 1
theorem Own1.at_ {α:Type} {e:TypeId} {enc:α→Value} {B:Nat} {l:List α} {v:Value} {W:World} (h:Own1 e enc B l v W) :
    ∃ ao cap,v=.slice ao l.length cap∧RowAt enc l ao W∧(ao=none→cap=0)∧l.length≤cap∧(ao=none∨∃ g,ao=some ⟨g,0,none⟩∧B≤g∧g<W.heap.size):=by
  have h0:=h
  obtain ⟨h1,h2⟩:=h
  rcases h2 with ⟨rfl,hn⟩ | ⟨g,cap,cur,rfl,hB,hg,hcap,hm,hsz,hx⟩
  · obtain rfl:l=[]:=List.eq_nil_of_length_eq_zero hn
    exact ⟨none,0,by simp,RowAt.nil _ _ _,fun _=>rfl,by simp,.inl rfl⟩
  · have hgl:g<W.heap.size:=by
      rcases Nat.lt_or_ge g W.heap.size with h | h
      · exact h
      · rw [Array.getElem?_eq_none h] at hg; cases hg
    refine ⟨some ⟨g,0,none⟩,cap,rfl,fun i x hi=>⟨g,0,rfl,hgl,?_⟩,(fun h=>by cases h),hcap,.inr ⟨g,rfl,hB,hgl⟩⟩
    have:=World.ownsRow.cells h0 (g:=g) rfl i (enc x) (by simp [hi])
    rw [add_plain] at this
    exact this
theorem info3:(Tryz.prog.info? 3).map (fun i=>(i.zero,i.size,i.bytes))=some (some (.int .i64 0),1,8):=by kernel_rfl
theorem info_parts {P:Program} {t:TypeId} {z:Option Value} {s b:Nat} (h:(P.info? t).map (fun i=>(i.zero,i.size,i.bytes))=some (z,s,b)):∃ i,P.info? t=some i∧i.zero=z∧i.size=s∧i.bytes=b:=by
  cases hi:P.info? t with
  | none=>rw [hi] at h; cases h
  | some i=>rw [hi] at h; simp at h; exact ⟨i,rfl,h.1,h.2.1,h.2.2⟩
theorem news_row {l:List Int} {b off:Nat} {W:World} (h:RowAt encI l (some ⟨b,off,none⟩) W) (i n:Nat):∀ (j:Nat) (u:Value),(((l.drop i).take n).map encI)[j]?=some u→W.cell? ((⟨b,off+i,none⟩:Addr).add j)=some u:=by
  intro j u hj
  rw [List.getElem?_map] at hj
  obtain ⟨x,hx,rfl⟩:=Option.map_eq_some_iff.1 hj
  have hx2:l[i+j]?=some x:=by
    rw [List.getElem?_take] at hx
    split at hx
    · rw [List.getElem?_drop] at hx; exact hx
    · cases hx
  obtain ⟨b',o',e,_,h2⟩:=h (i+j) x hx2
  cases e
  rw [add_plain,Nat.add_assoc]
  exact h2
theorem one_row (l:List Int):∀ u∈l.map encI,u.oneCell'=true:=by
  intro u hu
  obtain ⟨x,_,rfl⟩:=List.mem_map.1 hu
  rfl
theorem slice_of_own {W:World} {B n:Nat} {e:TypeId} {v:Value} {xs:List Value} (h:W.ownsRow B e 1 v n xs):∃ a c,v=.slice a n c:=by
  rcases h.2 with ⟨rfl,h'⟩ | ⟨g,c,cur,rfl,_⟩
  · exact ⟨none,0,by rw [h']⟩
  · exact ⟨_,_,rfl⟩
theorem apart_own {W:World} {B n:Nat} {e:TypeId} {v:Value} {xs:List Value} (h:W.ownsRow B e 1 v n xs):Apart B v:=by
  intro ad k c hv
  rcases h.2 with ⟨rfl,_⟩ | ⟨g,c,cur,rfl,hb,_⟩
  · cases hv
  · cases hv; exact hb
theorem new_cell (W:World) (x:Value) (t:TypeId):∀ (k:Nat) (u:Value),[x][k]?=some u→(W.alloc (Obj.cells #[x] t)).cell? ((⟨W.heap.size,0,none⟩:Addr).add k)=some u:=by
  intro k u hk
  cases k with
  | zero=>simp at hk; subst hk; rw [add_plain]; simp
  | succ k=>simp at hk
theorem own1_news {W W':World} {l:List Value} {b off:Nat} (h:∀ (j:Nat) (u:Value),l[j]?=some u→W.cell? ((⟨b,off,none⟩:Addr).add j)=some u) (hb:b<W.heap.size) (B:Below W.heap.size W W'):∀ (j:Nat) (u:Value),l[j]?=some u→W'.cell? ((⟨b,off,none⟩:Addr).add j)=some u:=by
  intro j u hj
  have:=h j u hj
  rw [add_plain] at this ⊢
  exact (B.cell (p:=⟨b,off+j,none⟩) hb).trans this
theorem sli_own {l:List Int} {B:Nat} {v:Value} {W:World} (h:Own1 3 encI B l v W) (hi:∀ y∈l,i64B y):SlI l v W:=by
  obtain ⟨ao,cap,h0,h1,h2,h3,_⟩:=h.at_
  exact ⟨ao,cap,h0,h1,h2,h3,hi⟩
theorem putL_lt {x:Int}:∀ {a b:List Int},(∀ y∈a,y<x)→putL x (a++b)=a++putL x b
  | [],_,_=>rfl
  | y :: a,b,h=>by
    rw [List.cons_append,putL,if_pos (h y (by simp)),putL_lt (fun z hz=>h z (by simp [hz]))]
    rfl
set_option maxHeartbeats 1600000 in
theorem put_any (l:List Int) (x:Int) (v:Value) (w:World) (hc:SlI l v w) (hx:i64B x) (hl:l.length≤1000000) :
    Calls Tryz.prog 138 #[v,.int .i64 x] w fun e w'=>∃ v',e=.returned v'∧SlI (putL x l) v' w'∧(v'=v∨Apart w.heap.size v')∧Below w.heap.size w w':=by
  have hc0:=hc
  obtain ⟨i0,hi0,hz0,hz1,hz2⟩:=info_parts info3
  obtain ⟨ao,cap,rfl,hc,hn,hcap,hi⟩:=hc
  go_enter Tryz.func138,Tryz.ntmps138
  go_wp2
  go_loopw [5] (fun i wr=>∃ (j:Nat),i=.int .i64 j∧j≤l.length∧(∀ y∈l.take j,y<x)∧wr=w) (fun i _=>l.length - (intOf i).toNat)
  case atStart=>exact ⟨0,rfl,Nat.zero_le _,by simp,rfl⟩
  case round =>
    obtain ⟨j,rfl,hj,hrel,rfl⟩:=hrel
    by_cases hlt:j<l.length
    · obtain ⟨b,off,rfl,hbl,c0⟩:=hc.at (Below.refl _ _) hlt
      have HT:Hid (l=l.take j++(l[j] :: l.drop (j+1))∧l.take (j+1)=l.take j++[l[j]]):=by
        refine ⟨?_,List.take_succ_eq_append_getElem hlt⟩
        rw [← List.drop_eq_getElem_cons hlt,List.take_append_drop]
      generalize l[j]=r at *
      have HR:Hid (∀ y∈l.take j,y<x):=hrel
      simp only [encI] at c0
      have hc2:=hc
      clear hrel hc
      by_cases h1:r<x
      · have HR2:Hid (∀ y∈l.take (j+1),y<x):=by
          show ∀ _,_
          rw [HT.out.2]
          intro y hy
          rcases List.mem_append.1 hy with h | h
          · exact HR.out y h
          · simp at h; omega
        clear HT HR hc0
        go_wp2
        exact ⟨⟨j+1,by go_num,by omega,HR2.out,trivial⟩,by simp [intOf]; omega⟩
      · by_cases h2:r=x
        · have HP:Hid (putL x l=l):=by
            show _=_
            rw [HT.out.1,putL_lt HR.out,putL,if_neg (by omega),if_pos h2]
          clear HT HR
          subst h2
          go_wp2
          go_ret
          exact ⟨_,rfl,by rw [HP.out]; exact hc0,.inl rfl,Below.refl _ _⟩
        · have HP:Hid (putL x l=l.take j++x :: l.drop j):=by
            show _=_
            have e:=HT.out.1
            have hd:l.drop j=r :: l.drop (j+1):=by
              have:=congrArg (List.drop j) e
              rw [List.drop_append_of_le_length (by simp; omega)] at this
              simpa using this
            rw [hd]
            rw [e]
            rw [putL_lt HR.out,putL,if_neg (by omega),if_neg h2,← e]
          clear HT HR
          have k1:(r == x)=false:=by simpa using h2
          have k2:(j:Int)≤l.length:=by omega
          have B0:Below wr.heap.size wr wr:=Below.refl _ _
          have n1:=news_row hc2 0 j
          have n3:=news_row hc2 j (l.length - j)
          rw [List.drop_zero,Nat.add_zero] at n1
          rw [List.take_of_length_le (by simp)] at n3
          obtain ⟨T,hT⟩:∃ T,l.take j=T:=⟨_,rfl⟩
          obtain ⟨D,hD⟩:∃ D,l.drop j=D:=⟨_,rfl⟩
          have e1:T.length=j:=by rw [← hT]; simp; omega
          have e3:D.length=l.length - j:=by rw [← hD]; simp
          have HI:Hid (∀ y∈T++x :: D,i64B y):=by
            intro y hy
            rcases List.mem_append.1 hy with h | h
            · exact hi y (by rw [← hT] at h; exact List.mem_of_mem_take h)
            · rcases List.mem_cons.1 h with rfl | h
              · exact hx
              · exact hi y (by rw [← hD] at h; exact List.mem_of_mem_drop h)
          have HP2:Hid (putL x l=T++x :: D):=by show _=_; rw [← hT,← hD]; exact HP.out
          rw [hT] at n1
          rw [hD] at n3
          clear HP hT hD hi hc0 hc2
          have m1:(T.map encI).length=j * 1:=by simp [e1]
          have m3:(D.map encI).length=(l.length - j) * 1:=by simp [e3]
          have o1:=one_row T
          have o3:=one_row D
          obtain ⟨TV,hTV⟩:∃ TV,T.map encI=TV:=⟨_,rfl⟩
          obtain ⟨DV,hDV⟩:∃ DV,D.map encI=DV:=⟨_,rfl⟩
          have HTV:Hid (T.map encI=TV):=hTV
          have HDV:Hid (D.map encI=DV):=hDV
          rw [hTV] at n1 o1 m1
          rw [hDV] at n3 o3 m3
          clear hTV hDV
          go_wp2_with (at_builtin; refine wpList_append_own _ rfl _ _ 43 rfl wr.heap.size 3 i0 _ 1 8 Tryz.underlying43 hi0 hz0 hz1 hz2 rfl (by decide) _ 0 [] rfl (World.ownsRow_nil _ _ _ _) ⟨b,off,none⟩ j cap TV rfl m1 n1 o1 (by unfold maxLen; omega) (by omega) (Nat.le_refl _) ?_)
          intro v1 w1 hown1 hg1 _
          have B1:Below wr.heap.size wr w1:=B0.grown hg1 (Nat.le_refl _) (fun k e=>by cases e)
          have hs1:=B1.size
          obtain ⟨a1,c1,rfl⟩:=slice_of_own (show w1.ownsRow wr.heap.size 3 1 v1 j TV by simpa using hown1)
          have w1own:w1.ownsRow wr.heap.size 3 1 (.slice a1 j c1) j TV:=by simpa using hown1
          clear hown1 hg1
          go_wp2_with (at_builtin; refine wpList_append_own _ rfl _ _ 43 rfl wr.heap.size 3 i0 _ 1 8 Tryz.underlying43 hi0 hz0 hz1 hz2 rfl (by decide) _ j TV rfl (World.ownsRow.alloc w1own _) ⟨w1.heap.size,0,none⟩ 1 1 [encI x] rfl rfl (new_cell _ _ _) (by simp [encI]; rfl) (by unfold maxLen; omega) (by omega) (by simp; omega) ?_)
          intro v2 w2 hown2 hg2 _
          have B2:Below wr.heap.size wr w2:=(B1.alloc hs1 _).grown hg2 (by simp; omega) (fun k e=>(World.ownsRow.lt w1own k e).1)
          have hs2:=B2.size
          obtain ⟨a2,c2,rfl⟩:=slice_of_own hown2
          have n4:=own1_news n3 hbl B2
          clear hg2 w1own n1 n3
          go_wp2_with (at_builtin; refine wpList_append_own _ rfl _ _ 43 rfl wr.heap.size 3 i0 _ 1 8 Tryz.underlying43 hi0 hz0 hz1 hz2 rfl (by decide) _ (j+1) (TV++[encI x]) rfl hown2 ⟨b,off+j,none⟩ (l.length - j) (cap - j) DV rfl m3 n4 o3 (by unfold maxLen; omega) (by omega) hs2 ?_)
          intro v3 w3 hown3 hg3 _
          have B3:Below wr.heap.size wr w3:=B2.grown hg3 hs2 (fun k e=>(World.ownsRow.lt hown2 k e).1)
          have HO:Hid (w3.ownsRow wr.heap.size 3 1 v3 (j+1+(l.length - j)) (TV++encI x :: DV)):=hown3
          clear hg3 hown3 hown2
          obtain ⟨a3,c3,rfl⟩:=slice_of_own HO.out
          go_wp2_with fail
          go_ret
          refine ⟨_,rfl,?_,.inr (apart_own HO.out),B3⟩
          rw [HP2.out]
          refine sli_own (B:=wr.heap.size) ?_ HI.out
          have:=HO.out
          unfold Own1
          have q1:(T++x :: D).length=j+1+(l.length - j):=by simp [e1,e3]; omega
          rw [q1]
          simpa [HTV.out,HDV.out] using this
    · have hjl:j=l.length:=by omega
      subst hjl
      have HP:Hid (putL x l=l++[x]):=by
        show _=_
        have:=putL_lt (b:=[]) (x:=x) (fun y hy=>hrel y (by simpa using hy))
        simpa [putL] using this
      have HI:Hid (∀ y∈l++[x],i64B y):=by
        intro y hy
        rcases List.mem_append.1 hy with h | h
        · exact hi y h
        · simp at h; subst h; exact hx
      have B0:Below wr.heap.size wr wr:=Below.refl _ _
      rcases ao with _ | ad
      · obtain rfl:l=[]:=hc.cons_none
        obtain rfl:cap=0:=hn rfl
        clear hrel hc hc0 hi
        go_wp2_with (at_builtin; first | (refine wpList_append_own_none rfl (.tmp 34) (.tmp 37) 43 rfl wr.heap.size 3 i0 1 Tryz.underlying43 hi0 _ 0 [] rfl (World.ownsRow_nil _ _ _ _) rfl ?_) | (refine wpList_append_own _ rfl (.tmp 39) (.tmp 41) 43 rfl wr.heap.size 3 i0 _ 1 8 Tryz.underlying43 hi0 hz0 hz1 hz2 rfl (by decide) _ 0 [] rfl (World.ownsRow_nil _ _ _ _) ⟨wr.heap.size,0,none⟩ 1 1 [encI x] rfl rfl (new_cell _ _ _) (by simp [encI]; rfl) (by unfold maxLen; omega) (by omega) (by simp) ?_))
        intro v2 w2 hown2 hg2 _
        have B2:Below wr.heap.size wr w2:=(B0.alloc (Nat.le_refl _) _).grown hg2 (by simp) (fun k e=>by cases e)
        have hs2:=B2.size
        obtain ⟨a2,c2,rfl⟩:=slice_of_own hown2
        clear hg2
        go_wp2_with (at_builtin; refine wpList_append_own_none rfl (.tmp 43) (.tmp 46) 43 rfl wr.heap.size 3 i0 1 Tryz.underlying43 hi0 _ 1 [encI x] rfl hown2 rfl ?_)
        have HO:Hid (w2.ownsRow wr.heap.size 3 1 (.slice a2 1 c2) 1 [encI x]):=hown2
        clear hown2
        go_wp2_with fail
        go_ret
        refine ⟨_,rfl,?_,.inr (apart_own HO.out),B2⟩
        rw [HP.out]
        exact sli_own (B:=wr.heap.size) HO.out HI.out
      · have n1:∀ (j:Nat) (u:Value),(l.map encI)[j]?=some u→wr.cell? (ad.add j)=some u:=by
          intro k u hk
          rw [List.getElem?_map] at hk
          obtain ⟨y,hy,rfl⟩:=Option.map_eq_some_iff.1 hk
          obtain ⟨b,off,e,_,h2⟩:=hc k y hy
          cases e
          rw [add_plain]; exact h2
        have m1:(l.map encI).length=l.length * 1:=by simp
        have o1:=one_row l
        obtain ⟨TV,hTV⟩:∃ TV,l.map encI=TV:=⟨_,rfl⟩
        have HTV:Hid (l.map encI=TV):=hTV
        rw [hTV] at n1 o1 m1
        clear hTV hrel hc hc0 hi
        go_wp2_with (at_builtin; refine wpList_append_own _ rfl _ _ 43 rfl wr.heap.size 3 i0 _ 1 8 Tryz.underlying43 hi0 hz0 hz1 hz2 rfl (by decide) _ 0 [] rfl (World.ownsRow_nil _ _ _ _) ad l.length cap TV rfl m1 n1 o1 (by unfold maxLen; omega) (by omega) (Nat.le_refl _) ?_)
        intro v1 w1 hown1 hg1 _
        have B1:Below wr.heap.size wr w1:=B0.grown hg1 (Nat.le_refl _) (fun k e=>by cases e)
        have hs1:=B1.size
        obtain ⟨a1,c1,rfl⟩:=slice_of_own (show w1.ownsRow wr.heap.size 3 1 v1 l.length TV by simpa using hown1)
        have w1own:w1.ownsRow wr.heap.size 3 1 (.slice a1 l.length c1) l.length TV:=by simpa using hown1
        clear hown1 hg1
        go_wp2_with (at_builtin; refine wpList_append_own _ rfl _ _ 43 rfl wr.heap.size 3 i0 _ 1 8 Tryz.underlying43 hi0 hz0 hz1 hz2 rfl (by decide) _ l.length TV rfl (World.ownsRow.alloc w1own _) ⟨w1.heap.size,0,none⟩ 1 1 [encI x] rfl rfl (new_cell _ _ _) (by simp [encI]; rfl) (by unfold maxLen; omega) (by omega) (by simp; omega) ?_)
        intro v2 w2 hown2 hg2 _
        have B2:Below wr.heap.size wr w2:=(B1.alloc hs1 _).grown hg2 (by simp; omega) (fun k e=>(World.ownsRow.lt w1own k e).1)
        have hs2:=B2.size
        obtain ⟨a2,c2,rfl⟩:=slice_of_own hown2
        clear hg2 w1own n1
        by_cases hcl:cap=l.length
        · subst hcl
          go_wp2_with (at_builtin; refine wpList_append_own _ rfl (.tmp 43) (.tmp 46) 43 rfl wr.heap.size 3 i0 _ 1 8 Tryz.underlying43 hi0 hz0 hz1 hz2 rfl (by decide) _ (l.length+1) (TV++[encI x]) rfl hown2 ad 0 0 [] rfl rfl (by simp) (by simp) (by unfold maxLen; omega) (by omega) hs2 ?_)
          intro v3 w3 hown3 hg3 _
          have B3:Below wr.heap.size wr w3:=B2.grown hg3 hs2 (fun k e=>(World.ownsRow.lt hown2 k e).1)
          have HO:Hid (w3.ownsRow wr.heap.size 3 1 v3 (l.length+1) (TV++[encI x])):=by show World.ownsRow _ _ _ _ _ _ _; simpa using hown3
          clear hg3 hown3 hown2
          obtain ⟨a3,c3,rfl⟩:=slice_of_own HO.out
          go_wp2_with fail
          go_ret
          refine ⟨_,rfl,?_,.inr (apart_own HO.out),B3⟩
          rw [HP.out]
          refine sli_own (B:=wr.heap.size) ?_ HI.out
          have:=HO.out
          unfold Own1
          rw [show (l++[x]).length=l.length+1 by simp]
          simpa [HTV.out] using this
        · have hcl2:¬ cap - l.length=0:=by omega
          have hcl3:l.length<cap:=by omega
          go_wp2_with (at_builtin; refine wpList_append_own _ rfl (.tmp 43) (.tmp 46) 43 rfl wr.heap.size 3 i0 _ 1 8 Tryz.underlying43 hi0 hz0 hz1 hz2 rfl (by decide) _ (l.length+1) (TV++[encI x]) rfl hown2 (ad.add l.length) 0 (cap - l.length) [] rfl rfl (by simp) (by simp) (by unfold maxLen; omega) (by omega) hs2 ?_)
          intro v3 w3 hown3 hg3 _
          have B3:Below wr.heap.size wr w3:=B2.grown hg3 hs2 (fun k e=>(World.ownsRow.lt hown2 k e).1)
          have HO:Hid (w3.ownsRow wr.heap.size 3 1 v3 (l.length+1) (TV++[encI x])):=by show World.ownsRow _ _ _ _ _ _ _; simpa using hown3
          clear hg3 hown3 hown2
          obtain ⟨a3,c3,rfl⟩:=slice_of_own HO.out
          go_wp2_with fail
          go_ret
          refine ⟨_,rfl,?_,.inr (apart_own HO.out),B3⟩
          rw [HP.out]
          refine sli_own (B:=wr.heap.size) ?_ HI.out
          have:=HO.out
          unfold Own1
          rw [show (l++[x]).length=l.length+1 by simp]
          simpa [HTV.out] using this
theorem length_putL_le (x:Int) (l:List Int):(putL x l).length≤l.length+1:=(length_putL x l).2
set_option maxHeartbeats 1600000 in
theorem union_any (a b:List Int) (u v:Value) (w:World) (ha:SlI a u w) (hb:SlI b v w) (hl:a.length+b.length≤1000000) :
    Calls Tryz.prog 107 #[u,v] w fun e w'=>∃ v',e=.returned v'∧SlI (unionL a b) v' w'∧(v'=u∨Apart w.heap.size v')∧Below w.heap.size w w':=by
  obtain ⟨bo,bc,rfl,hb,hbn,hbc,hbi⟩:=hb
  have hu:∃ ua ul uc,u=.slice ua ul uc:=by obtain ⟨ao,cap,h,_⟩:=ha; exact ⟨_,_,_,h⟩
  obtain ⟨ua,ul,uc,rfl⟩:=hu
  have HA:Hid (SlI a (.slice ua ul uc) w):=ha
  clear ha
  go_enter Tryz.func107,Tryz.ntmps107
  go_wp2
  go_loopw [0,5] (fun s i wr=>∃ (j:Nat) (A:List Int),i=.int .i64 j∧j≤b.length∧SlI A s wr∧(s=.slice ua ul uc∨Apart w.heap.size s)∧A.length≤a.length+j∧unionL a b=unionL A (b.drop j)∧Below w.heap.size w wr) (fun _ i _=>b.length - (intOf i).toNat)
  case atStart=>exact ⟨0,a,rfl,Nat.zero_le _,HA.out,.inl rfl,by omega,by simp,Below.refl _ _⟩
  case round =>
    clear HA
    obtain ⟨j,A,rfl,hj,hA,hap,hAl,hrel,B1⟩:=hrel
    obtain ⟨sa,sc,rfl,_⟩:=id hA
    have HAP:Hid (Value.slice sa A.length sc=.slice ua ul uc∨Apart w.heap.size (.slice sa A.length sc)):=hap
    clear hap
    have HA:Hid (SlI A (.slice sa A.length sc) wr):=hA
    clear hA
    by_cases hlt:j<b.length
    · obtain ⟨bb,off,rfl,_,c0⟩:=hb.at B1 hlt
      have hxi:=hbi _ (List.getElem_mem hlt)
      have HR:Hid (unionL a b=unionL (putL b[j] A) (b.drop (j+1))):=by
        show _=_
        rw [hrel,List.drop_eq_getElem_cons hlt]
        rfl
      generalize b[j]=r at *
      simp only [encI] at c0
      have HC:Hid (Calls Tryz.prog 138 #[.slice sa A.length sc,.int .i64 r] wr fun e w'=>∃ v',e=.returned v'∧SlI (putL r A) v' w'∧(v'=.slice sa A.length sc∨Apart wr.heap.size v')∧Below wr.heap.size wr w'):=put_any A r _ wr HA.out hxi (by omega)
      have hAl2:=length_putL_le r A
      clear hrel HA hb hbi
      go_wp2_with fail
      refine HC.out.mono ?_
      rintro e w1 ⟨v',rfl,hv,hap2,hb1⟩
      obtain ⟨va,vc,rfl,_⟩:=id hv
      have HAP2:Hid (Value.slice va (putL r A).length vc=.slice ua ul uc∨Apart w.heap.size (.slice va (putL r A).length vc)):=by
        rcases hap2 with e | e
        · rw [e]; exact HAP.out
        · exact .inr (e.mono B1.size)
      clear hap2 HAP
      have HV:Hid (SlI (putL r A) (.slice va (putL r A).length vc) w1):=hv
      have B2:=below_then B1 hb1 B1.size
      clear hv HC
      generalize putL r A=A2 at *
      go_wp2_with fail
      exact ⟨⟨j+1,A2,by go_num,by omega,HV.out,HAP2.out,by omega,HR.out,B2⟩,by simp [intOf]; omega⟩
    · have HS:Hid (unionL a b=A):=by
        show _=_
        rw [hrel,List.drop_of_length_le (by omega)]
        rfl
      clear hrel hb hbi
      go_wp2
      go_ret
      exact ⟨_,rfl,by rw [HS.out]; exact HA.out,HAP.out,B1⟩
def letB (n:Nat):Bool:=decide ((97≤n∧n≤122)∨(65≤n∧n≤90)∨n=95)
def digB (n:Nat):Bool:=decide (48≤n∧n≤57)
set_option maxHeartbeats 400000 in
theorem letter_any (c:Nat) (w:World):Calls Tryz.prog 119 #[.int .u8 c] w fun e w'=>e=.returned (.bool (letB c))∧w'=w:=by
  go_enter Tryz.func119,Tryz.ntmps119
  go_wp2
  all_goals
    go_ret
    refine ⟨ret_bool ?_,rfl⟩
    unfold letB
    rw [Bool.eq_iff_iff]
    simp
    omega
set_option maxHeartbeats 400000 in
theorem digit_any (c:Nat) (w:World):Calls Tryz.prog 120 #[.int .u8 c] w fun e w'=>e=.returned (.bool (digB c))∧w'=w:=by
  go_enter Tryz.func120,Tryz.ntmps120
  go_wp2
  all_goals
    go_ret
    refine ⟨ret_bool ?_,rfl⟩
    unfold digB
    rw [Bool.eq_iff_iff]
    simp
    omega
theorem loop_len (bs:ByteArray):∀ (n i:Nat) (r:List UInt8),bs.size - i=n→(ByteArray.toList.loop bs i r).length=r.length+(bs.size - i)
  | 0,i,r,h=>by unfold ByteArray.toList.loop; rw [if_neg (by omega)]; simp; omega
  | n+1,i,r,h=>by
    unfold ByteArray.toList.loop
    rw [if_pos (by omega),loop_len bs n (i+1) _ (by omega)]
    simp; omega
theorem toList_nil (s:ByteArray):s.toList=[]↔s.size=0:=by
  have:=loop_len s s.size 0 [] (by omega)
  unfold ByteArray.toList
  rw [← List.length_eq_zero_iff,this]
  simp
def okB (i:Nat) (c:Nat):Bool:=letB c || (decide (i≠0) && digB c)
def okAt (s:ByteArray) (k:Nat):Bool:=if h:k<s.size then okB k s[k].toNat else true
def nameB (s:ByteArray):Bool:=decide (s.size≠0) && decide (s.size≤32) && (List.range s.size).all (okAt s)
set_option maxHeartbeats 1600000 in
theorem name7_any (s:ByteArray) (w:World) (hs:s.size≤9223372036854775807):Calls Tryz.prog 87 #[.string s] w fun e w'=>e=.returned (.bool (nameB s))∧w'=w:=by
  go_enter Tryz.func87,Tryz.ntmps87
  go_wp2
  go_loopw [3] (fun i wr=>∃ (j:Nat),i=.int .i64 j∧j≤s.size∧(∀ k,k<j→okAt s k=true)∧wr=w) (fun i _=>s.size - (intOf i).toNat)
  case atStart=>exact ⟨0,rfl,Nat.zero_le _,by simp,rfl⟩
  case round =>
    obtain ⟨j,rfl,hj,hrel,rfl⟩:=hrel
    by_cases hlt:j<s.size
    · have hL:=letter_any (s[j].toNat) wr
      have hD:=digit_any (s[j].toNat) wr
      have HR:Hid (∀ k,k<j→okAt s k=true):=hrel
      have HO:Hid (okAt s j=okB j s[j].toNat):=by show _=_; unfold okAt; rw [dif_pos hlt]
      clear hrel
      have yes:okB j s[j].toNat=true→∀ k,k<j+1→okAt s k=true:=fun h k hk=>by
        by_cases e:k=j
        · subst e; rw [HO.out]; exact h
        · exact HR.out k (by omega)
      have no:okB j s[j].toNat=false→nameB s=false:=fun h=>by
        unfold nameB
        have:(List.range s.size).all (okAt s)=false:=by
          rw [List.all_eq_false]
          exact ⟨j,List.mem_range.2 hlt,by rw [HO.out,h]; simp⟩
        rw [this,Bool.and_false]
      have HY:Hid (okB j s[j].toNat=true→∀ k,k<j+1→okAt s k=true):=yes
      have HN:Hid (okB j s[j].toNat=false→nameB s=false):=no
      clear yes no HR HO
      cases hl:letB s[j].toNat with
      | true =>
        rw [hl] at hL
        have HK:Hid (okB j s[j].toNat=true):=by show _=_; unfold okB; rw [hl]; rfl
        clear hl
        go_wp2_with (go_at_call 119; refine hL.mono ?_; rintro e w1 ⟨rfl,rfl⟩)
        exact ⟨⟨j+1,by go_num,by omega,HY.out HK.out,trivial⟩,by simp [intOf]; omega⟩
      | false =>
        rw [hl] at hL
        by_cases hz:j=0
        · have HK:Hid (okB j s[j].toNat=false):=by show _=_; unfold okB; rw [hl,decide_eq_false (by simpa using hz)]; rfl
          clear hl
          subst hz
          clear hD
          go_wp2_with (go_at_call 119; refine hL.mono ?_; rintro e w1 ⟨rfl,rfl⟩)
          go_ret
          exact ⟨ret_bool (HN.out HK.out).symm,rfl⟩
        · have hz2:((j:Int) == 0)=false:=by simpa using hz
          cases hd:digB s[j].toNat with
          | true =>
            rw [hd] at hD
            have HK:Hid (okB j s[j].toNat=true):=by show _=_; unfold okB; rw [hl,hd,decide_eq_true (by simpa using hz)]; rfl
            clear hl hd
            go_wp2_with (first | (go_at_call 119; refine hL.mono ?_; rintro e w1 ⟨rfl,rfl⟩) | (go_at_call 120; refine hD.mono ?_; rintro e w1 ⟨rfl,rfl⟩))
            exact ⟨⟨j+1,by go_num,by omega,HY.out HK.out,trivial⟩,by simp [intOf]; omega⟩
          | false =>
            rw [hd] at hD
            have HK:Hid (okB j s[j].toNat=false):=by show _=_; unfold okB; rw [hl,hd,Bool.and_false]; rfl
            clear hl hd
            go_wp2_with (first | (go_at_call 119; refine hL.mono ?_; rintro e w1 ⟨rfl,rfl⟩) | (go_at_call 120; refine hD.mono ?_; rintro e w1 ⟨rfl,rfl⟩))
            go_ret
            exact ⟨ret_bool (HN.out HK.out).symm,rfl⟩
    · have hjl:j=s.size:=by omega
      have HA:Hid (nameB s=(decide (s.size≠0) && decide (s.size≤32))):=by
        show _=_
        unfold nameB
        have:(List.range s.size).all (okAt s)=true:=by
          rw [List.all_eq_true]
          intro k hk
          exact hrel k (by rw [hjl]; exact List.mem_range.1 hk)
        rw [this,Bool.and_true]
      clear hrel
      have hnil:=toList_nil s
      by_cases hz:s.size=0
      · have h0:s.toList=[]:=hnil.2 hz
        have HZ:Hid (s.size=0):=hz
        clear hnil hz
        go_wp2
        go_ret
        refine ⟨ret_bool ?_,rfl⟩
        rw [HA.out,HZ.out]
        simp
      · have h0:¬ s.toList=[]:=fun h=>hz (hnil.1 h)
        have h1:s.toList.isEmpty=false:=by simpa using h0
        have HZ:Hid (¬ s.size=0):=hz
        clear hnil hz
        go_wp2
        go_ret
        refine ⟨ret_bool ?_,rfl⟩
        rw [HA.out,decide_eq_true (show s.size≠0 from HZ.out)]
        simp
        try omega
set_option maxHeartbeats 800000 in
theorem name9_any (s:ByteArray) (w:World) (hs:s.size≤9223372036854775807):Calls Tryz.prog 56 #[.string s] w fun e w'=>e=.returned (.bool (decide (s.size=0) || nameB s))∧w'=w:=by
  have hN:=name7_any s w hs
  have hnil:=toList_nil s
  by_cases hz:s.size=0
  · have h0:s.toList=[]:=hnil.2 hz
    have HZ:Hid (s.size=0):=hz
    clear hnil hz
    go_enter Tryz.func56,Tryz.ntmps56
    go_wp2_with (go_at_call 87; refine hN.mono ?_; rintro e w1 ⟨rfl,rfl⟩)
    go_ret
    refine ⟨ret_bool ?_,rfl⟩
    rw [decide_eq_true HZ.out]
    simp
  · have h0:¬ s.toList=[]:=fun h=>hz (hnil.1 h)
    have h1:s.toList.isEmpty=false:=by simpa using h0
    have HZ:Hid (¬ s.size=0):=hz
    clear hnil hz
    go_enter Tryz.func56,Tryz.ntmps56
    go_wp2_with (go_at_call 87; refine hN.mono ?_; rintro e w1 ⟨rfl,rfl⟩)
    go_ret
    refine ⟨ret_bool ?_,rfl⟩
    rw [decide_eq_false HZ.out]
    simp
def titlesB (l:List ByteArray):Bool:=l.all fun s=>decide (s.size≠0) && decide (s.size≤80)
set_option maxHeartbeats 800000 in
theorem titles_any (l:List ByteArray) (ao:Option Addr) (cap:Nat) (w:World) (hc:RowAt Value.string l ao w) (hl:l.length≤140737488351232) :
    Calls Tryz.prog 55 #[.slice ao l.length cap] w fun e w'=>e=.returned (.bool (titlesB l))∧w'=w:=by
  go_enter Tryz.func55,Tryz.ntmps55
  go_wp2
  go_loopw [3] (fun i wr=>∃ (j:Nat),i=.int .i64 j∧j≤l.length∧titlesB l=titlesB (l.drop j)∧wr=w) (fun i _=>l.length - (intOf i).toNat)
  case atStart=>exact ⟨0,rfl,Nat.zero_le _,by simp,rfl⟩
  case round =>
    obtain ⟨j,rfl,hj,hrel,rfl⟩:=hrel
    by_cases hlt:j<l.length
    · obtain ⟨b,off,rfl,_,c0⟩:=hc.at (Below.refl _ _) hlt
      rw [List.drop_eq_getElem_cons hlt] at hrel
      generalize l[j]=s at *
      have HR:Hid (titlesB l=((decide (s.size≠0) && decide (s.size≤80)) && titlesB (l.drop (j+1)))):=hrel
      have hnil:=toList_nil s
      clear hrel hc
      by_cases hz:s.size=0
      · have h0:s.toList=[]:=hnil.2 hz
        have HZ:Hid (titlesB l=false):=by show _=_; rw [HR.out,decide_eq_false (by simpa using hz)]; rfl
        clear hnil hz HR
        go_wp2
        go_ret
        exact ⟨ret_bool HZ.out.symm,rfl⟩
      · have h0:¬ s.toList=[]:=fun h=>hz (hnil.1 h)
        have h1:s.toList.isEmpty=false:=by simpa using h0
        by_cases h80:s.size≤80
        · have HZ:Hid (titlesB l=titlesB (l.drop (j+1))):=by show _=_; rw [HR.out,decide_eq_true (by simpa using hz),decide_eq_true h80]; rfl
          clear hnil hz HR
          go_wp2
          exact ⟨⟨j+1,by go_num,by omega,HZ.out,trivial⟩,by simp [intOf]; omega⟩
        · have HZ:Hid (titlesB l=false):=by show _=_; rw [HR.out,decide_eq_false h80,Bool.and_false]; rfl
          clear hnil hz HR
          go_wp2
          go_ret
          exact ⟨ret_bool HZ.out.symm,rfl⟩
    · have HZ:Hid (titlesB l=true):=by show _=_; rw [hrel,List.drop_of_length_le (by omega)]; rfl
      clear hrel hc
      go_wp2
      go_ret
      exact ⟨ret_bool HZ.out.symm,rfl⟩
def FBox (f:Fl) (a:FlA) (n:Nat) (W:World):Prop :=
  n<W.heap.size∧W.cell? ⟨n,0,none⟩=some (.slice a.ta f.terms.length a.tc)∧W.cell? ⟨n,1,none⟩=some (.slice a.na f.nons.length a.nc)∧W.cell? ⟨n,2,none⟩=some (.slice a.pa f.prods.length a.pc)
theorem FBox.next {f:Fl} {a:FlA} {n:Nat} {W W':World} (h:FBox f a n W) (hb:Below W.heap.size W W'):FBox f a n W' :=
  ⟨Nat.lt_of_lt_of_le h.1 hb.size,(hb.cell (p:=⟨n,0,none⟩) h.1).trans h.2.1,(hb.cell (p:=⟨n,1,none⟩) h.1).trans h.2.2.1,(hb.cell (p:=⟨n,2,none⟩) h.1).trans h.2.2.2⟩
def fobj (f:Fl) (a:FlA) (t:TypeId):Obj:=Obj.cells #[Value.slice a.ta f.terms.length a.tc,Value.slice a.na f.nons.length a.nc,Value.slice a.pa f.prods.length a.pc] t
theorem FBox.new (f:Fl) (a:FlA) (t:TypeId) (w:World):FBox f a w.heap.size (w.alloc (fobj f a t)):=by
  unfold fobj
  refine ⟨by simp,?_,?_,?_⟩ <;> simp
def leftN (n:Int):List Pr→Int
  | []=>n
  | p :: t=>if n<0 then n else leftN (n - 1 - p.right.length) t
def lightB (f:Fl):Bool:=decide (0≤leftN (20000 - f.terms.length - f.nons.length) f.prods)
theorem leftN_neg {n:Int} (h:n<0) (l:List Pr):leftN n l=n:=by
  cases l with
  | nil=>rfl
  | cons p t=>rw [leftN,if_pos h]
set_option maxHeartbeats 800000 in
theorem light_any (f:Fl) (a:FlA) (w:World) (hf:FlAt f a w) :
    Calls Tryz.prog 28 #[a.val f] w fun e w'=>e=.returned (.bool (lightB f))∧Below w.heap.size w w':=by
  obtain ⟨ta,tc,na,nc,pa,pc⟩:=a
  obtain ⟨h0,h1,h2,h3,h4,h5,h6,h7⟩:=hf
  simp only at h0 h1 h2 h3 h4 h5 h6 h7
  have HL:Hid (lightB f=decide (0≤leftN (20000 - f.terms.length - f.nons.length) f.prods)):=rfl
  unfold FlA.val
  simp only
  obtain ⟨ts,ns,ps⟩:=f
  simp only at *
  clear h0 h1
  generalize ts.length=tl at *
  generalize ns.length=nl at *
  go_enter Tryz.func28,Tryz.ntmps28
  go_wp2
  have B0:Below w.heap.size w (w.alloc (Obj.cells #[Value.slice ta tl tc,Value.slice na nl nc,Value.slice pa ps.length pc] 25)):=(Below.refl _ _).alloc (Nat.le_refl _) _
  have d2:(w.alloc (Obj.cells #[Value.slice ta tl tc,Value.slice na nl nc,Value.slice pa ps.length pc] 25)).cell? ⟨w.heap.size,2,none⟩=some (.slice pa ps.length pc):=by simp
  generalize w.alloc (Obj.cells #[Value.slice ta tl tc,Value.slice na nl nc,Value.slice pa ps.length pc] 25)=w0 at *
  go_loopw [3,4] (fun t i wr=>∃ (T:Int) (j:Nat),t=.int .i64 T∧i=.int .i64 j∧j≤ps.length∧leftN (20000 - tl - nl) ps=leftN T (ps.drop j)∧T≤20000∧-1000000000000000≤T∧wr=w0) (fun _ i _=>ps.length - (intOf i).toNat)
  case atStart=>exact ⟨20000 - tl - nl,0,rfl,rfl,Nat.zero_le _,by simp,by omega,by omega,rfl⟩
  case round =>
    obtain ⟨T,j,rfl,rfl,hj,hrel,hT1,hT2,rfl⟩:=hrel
    by_cases hlt:j<ps.length
    · by_cases hT:T<0
      · have HZ:Hid (leftN (20000 - tl - nl) ps=T):=by show _=_; rw [hrel,leftN_neg hT]
        clear hrel h2
        go_wp2
        go_ret
        exact ⟨ret_bool (by rw [HL.out,HZ.out]),B0⟩
      · obtain ⟨b,off,v,rfl,_,c0,c1,c2,hv,_⟩:=h2.at B0 hlt
        obtain ⟨ra,rc,rfl,_,_,hr1,hr2⟩:=hv
        rw [List.drop_eq_getElem_cons hlt,leftN,if_neg hT] at hrel
        generalize ps[j]=p at *
        have HZ:Hid (leftN (20000 - tl - nl) ps=leftN (T - 1 - p.right.length) (ps.drop (j+1))):=hrel
        clear hrel h2
        go_wp2
        exact ⟨⟨T - 1 - p.right.length,j+1,by go_num,by go_num,by omega,HZ.out,by omega,by omega,trivial⟩,by simp [intOf]; omega⟩
    · have HZ:Hid (leftN (20000 - tl - nl) ps=T):=by show _=_; rw [hrel,List.drop_of_length_le (by omega)]; rfl
      clear hrel h2
      go_wp2
      go_ret
      exact ⟨ret_bool (by rw [HL.out,HZ.out]),B0⟩
def nameN (s:ByteArray):Bool:=decide (s.size=0) || nameB s
def itemB (n:Int) (x:It):Bool:=decide (0≤x.sym∧x.sym<n) && nameN x.fld && nameN x.als
def prodB (t n:Int) (p:Pr):Bool:=decide (t≤p.left∧p.left<n∧p.right.length≤64∧-10000≤p.prec∧p.prec≤10000) && p.right.all (itemB n)
def prodsB (t n:Int):Int→List Pr→Bool
  | _,[]=>true
  | prev,p :: ps=>decide (prev≤p.left) && prodB t n p && prodsB t n p.left ps
def headB (f:Fl):Bool:=decide (f.nons.length≠0∧f.terms.length+f.nons.length≤600∧f.prods.length≤400) && titlesB f.terms && titlesB f.nons
def fitB (f:Fl):Bool:=headB f && prodsB f.terms.length (f.terms.length+f.nons.length:Nat) f.terms.length f.prods
def prevL (f:Fl) (j:Nat):Int:=if h:0<j∧j≤f.prods.length then (f.prods[j - 1]'(by omega)).left else f.terms.length
set_option maxRecDepth 100000 in
set_option maxHeartbeats 3200000 in
theorem fit_any (f:Fl) (a:FlA) (w:World) (hf:FlAt f a w) :
    Calls Tryz.prog 29 #[a.val f] w fun e w'=>e=.returned (.bool (fitB f))∧Below w.heap.size w w':=by
  have hf0:=hf
  obtain ⟨ta,tc,na,nc,pa,pc⟩:=a
  obtain ⟨h0,h1,h2,h3,h4,h5,h6,h7⟩:=hf
  simp only at h0 h1 h2 h3 h4 h5 h6 h7
  have HF:Hid (fitB f=(headB f && prodsB f.terms.length (f.terms.length+f.nons.length:Nat) f.terms.length f.prods)):=rfl
  unfold FlA.val
  simp only
  by_cases g1:f.nons.length=0
  · have HZ:Hid (fitB f=false):=by show _=_; rw [HF.out]; unfold headB; rw [decide_eq_false (by omega)]; rfl
    have g1':((f.nons.length:Int) == 0)=true:=by simpa using g1
    clear h0 h1 h2 HF hf0
    go_enter Tryz.func29,Tryz.ntmps29
    go_wp2
    go_ret
    exact ⟨ret_bool HZ.out.symm,(Below.refl _ _).alloc (Nat.le_refl _) _⟩
  by_cases g2:600<f.terms.length+f.nons.length
  · have HZ:Hid (fitB f=false):=by show _=_; rw [HF.out]; unfold headB; rw [decide_eq_false (by omega)]; rfl
    have g1':((f.nons.length:Int) == 0)=false:=by simpa using g1
    clear h0 h1 h2 HF hf0
    go_enter Tryz.func29,Tryz.ntmps29
    go_wp2
    go_ret
    exact ⟨ret_bool HZ.out.symm,(Below.refl _ _).alloc (Nat.le_refl _) _⟩
  have g1':((f.nons.length:Int) == 0)=false:=by simpa using g1
  by_cases g3:400<f.prods.length
  · have HZ:Hid (fitB f=false):=by show _=_; rw [HF.out]; unfold headB; rw [decide_eq_false (by omega)]; rfl
    clear h0 h1 h2 HF hf0
    go_enter Tryz.func29,Tryz.ntmps29
    go_wp2
    go_ret
    exact ⟨ret_bool HZ.out.symm,(Below.refl _ _).alloc (Nat.le_refl _) _⟩
  have HT:Hid (∀ W,Below w.heap.size w W→Calls Tryz.prog 55 #[.slice ta f.terms.length tc] W fun e w'=>e=.returned (.bool (titlesB f.terms))∧w'=W):=fun W hb=>titles_any f.terms ta tc W (h0.next hb) (by omega)
  have HN:Hid (∀ W,Below w.heap.size w W→Calls Tryz.prog 55 #[.slice na f.nons.length nc] W fun e w'=>e=.returned (.bool (titlesB f.nons))∧w'=W):=fun W hb=>titles_any f.nons na nc W (h1.next hb) (by omega)
  have B0:Below w.heap.size w (w.alloc (Obj.cells #[Value.slice ta f.terms.length tc,Value.slice na f.nons.length nc,Value.slice pa f.prods.length pc] 25)):=(Below.refl _ _).alloc (Nat.le_refl _) _
  have d0:(w.alloc (Obj.cells #[Value.slice ta f.terms.length tc,Value.slice na f.nons.length nc,Value.slice pa f.prods.length pc] 25)).cell? ⟨w.heap.size,0,none⟩=some (Value.slice ta f.terms.length tc):=by simp
  have HD:Hid (headB f=(titlesB f.terms && titlesB f.nons)):=by show _=_; unfold headB; rw [decide_eq_true (by omega),Bool.true_and]
  go_enter Tryz.func29,Tryz.ntmps29
  go_wp2_with fail
  refine (HT.out _ B0).mono ?_
  rintro e w1 ⟨rfl,rfl⟩
  cases ht:titlesB f.terms with
  | false =>
    have HZ:Hid (fitB f=false):=by show _=_; rw [HF.out,HD.out,ht]; rfl
    clear ht h0 h1 h2 HF hf0 HT HN HD d0
    go_wp2_with fail
    go_ret
    exact ⟨ret_bool HZ.out.symm,B0⟩
  | true =>
  go_wp2_with fail
  refine (HN.out _ B0).mono ?_
  rintro e w1 ⟨rfl,rfl⟩
  cases hn:titlesB f.nons with
  | false =>
    have HZ:Hid (fitB f=false):=by show _=_; rw [HF.out,HD.out,hn,Bool.and_false]; rfl
    clear hn ht h0 h1 h2 HF hf0 HT HN HD d0
    go_wp2_with fail
    go_ret
    exact ⟨ret_bool HZ.out.symm,B0⟩
  | true =>
  have HF2:Hid (fitB f=prodsB f.terms.length (f.terms.length+f.nons.length:Nat) f.terms.length f.prods):=by show _=_; rw [HF.out,HD.out,ht,hn]; rfl
  have X0:=FBox.new f ⟨ta,tc,na,nc,pa,pc⟩ 25 w
  unfold fobj at X0
  simp only at X0
  clear hn ht h0 h1 HF hf0 HT HN HD d0
  go_wp2_with fail
  generalize w.alloc (Obj.cells #[Value.slice ta f.terms.length tc,Value.slice na f.nons.length nc,Value.slice pa f.prods.length pc] 25)=w0 at *
  go_loopw [4] (fun i wr=>∃ (j:Nat),i=.int .i64 j∧j≤f.prods.length∧fitB f=prodsB f.terms.length (f.terms.length+f.nons.length:Nat) (prevL f j) (f.prods.drop j)∧FBox f ⟨ta,tc,na,nc,pa,pc⟩ w.heap.size wr∧Below w.heap.size w wr) (fun i _=>f.prods.length - (intOf i).toNat)
  case atStart=>exact ⟨0,rfl,Nat.zero_le _,HF2.out,X0,B0⟩
  case round =>
    clear HF2 X0 B0
    obtain ⟨j,rfl,hj,hrel,X1,B1⟩:=hrel
    obtain ⟨x1,d0,d1,d2⟩:=id X1
    simp only at d0 d1 d2
    by_cases hlt:j<f.prods.length
    · obtain ⟨b,off,v,rfl,hb,c0,c1,c2,hv,hl,hp⟩:=h2.at B1 hlt
      obtain ⟨ra,rc,rfl,hI,_,hr1,hr2⟩:=hv
      rw [List.drop_eq_getElem_cons hlt,prodsB] at hrel
      have HR:Hid (fitB f=(decide (prevL f j≤f.prods[j].left) && prodB f.terms.length (f.terms.length+f.nons.length:Nat) f.prods[j] && prodsB f.terms.length (f.terms.length+f.nons.length:Nat) f.prods[j].left (f.prods.drop (j+1)))):=hrel
      have HL:Hid (prevL f (j+1)=f.prods[j].left):=by show _=_; unfold prevL; rw [dif_pos (by omega:0<j+1∧j+1≤f.prods.length)]; rfl
      clear hrel
      have prv:∃ q:Int,0<j→prevL f j=q∧wr.cell? ⟨b,off+(j - 1) * 3,none⟩=some (.int .i64 q):=by
        refine ⟨prevL f j,fun h=>⟨rfl,?_⟩⟩
        obtain ⟨b',off',v',e,_,q0,_⟩:=h2.at B1 (j:=j - 1) (by omega)
        cases e
        unfold prevL
        rw [dif_pos (by omega:0<j∧j≤f.prods.length)]
        exact q0
      have HPV:Hid (j=0→prevL f j=f.terms.length):=by intro h; unfold prevL; rw [dif_neg (by omega)]
      generalize f.prods[j]=p at *
      obtain ⟨rest,hrest⟩:∃ rest,f.prods.drop (j+1)=rest:=⟨_,rfl⟩
      have HRS:Hid (f.prods.drop (j+1)=rest):=hrest
      rw [hrest] at HR
      clear hrest
      have HH:Hid (PrsAt f.prods (some ⟨b,off,none⟩) w):=h2
      have B2:Below w.heap.size w (wr.alloc (Obj.cells #[Value.int IntKind.i64 p.left,Value.slice ra p.right.length rc,Value.int IntKind.i64 p.prec] 58)):=B1.alloc B1.size _
      have B3:Below wr.heap.size wr (wr.alloc (Obj.cells #[Value.int IntKind.i64 p.left,Value.slice ra p.right.length rc,Value.int IntKind.i64 p.prec] 58)):=(Below.refl _ _).alloc (Nat.le_refl _) _
      have X2:=X1.next B3
      have HI2:Hid (ItsAt p.right ra (wr.alloc (Obj.cells #[Value.int IntKind.i64 p.left,Value.slice ra p.right.length rc,Value.int IntKind.i64 p.prec] 58))):=hI.next B3
      obtain ⟨q,hq⟩:=prv
      have HQ:Hid (0<j→prevL f j=q):=fun h=>(hq h).1
      have HQ2:Hid (0<j→(wr.alloc (Obj.cells #[Value.int IntKind.i64 p.left,Value.slice ra p.right.length rc,Value.int IntKind.i64 p.prec] 58)).cell? ⟨b,off+(j - 1) * 3,none⟩=some (.int .i64 q)):=fun h=>(B3.cell (p:=⟨b,off+(j - 1) * 3,none⟩) hb).trans (hq h).2
      have E:(wr.alloc (Obj.cells #[Value.int IntKind.i64 p.left,Value.slice ra p.right.length rc,Value.int IntKind.i64 p.prec] 58)).cell? ⟨wr.heap.size,0,none⟩=some (.int .i64 p.left)∧(wr.alloc (Obj.cells #[Value.int IntKind.i64 p.left,Value.slice ra p.right.length rc,Value.int IntKind.i64 p.prec] 58)).cell? ⟨wr.heap.size,1,none⟩=some (.slice ra p.right.length rc)∧(wr.alloc (Obj.cells #[Value.int IntKind.i64 p.left,Value.slice ra p.right.length rc,Value.int IntKind.i64 p.prec] 58)).cell? ⟨wr.heap.size,2,none⟩=some (.int .i64 p.prec)∧wr.heap.size<(wr.alloc (Obj.cells #[Value.int IntKind.i64 p.left,Value.slice ra p.right.length rc,Value.int IntKind.i64 p.prec] 58)).heap.size:=by refine ⟨?_,?_,?_,?_⟩ <;> simp
      clear hI hq h2
      go_wp2_with fail
      generalize wr.alloc (Obj.cells #[Value.int IntKind.i64 p.left,Value.slice ra p.right.length rc,Value.int IntKind.i64 p.prec] 58)=W1 at *
      obtain ⟨e0,e1,e2,e3⟩:=E
      obtain ⟨x2,D0,D1,D2⟩:=id X2
      simp only at D0 D1 D2
      clear c0 c1 c2 d0 d1 d2 X1 x1 B3
      have HG:Hid (fitB f=(decide (prevL f j≤p.left) && (decide ((f.terms.length:Int)≤p.left∧p.left<(f.terms.length+f.nons.length:Nat)∧p.right.length≤64∧-10000≤p.prec∧p.prec≤10000) && p.right.all (itemB (f.terms.length+f.nons.length:Nat))) && prodsB f.terms.length (f.terms.length+f.nons.length:Nat) p.left rest)):=HR.out
      clear HR
      by_cases k1:p.left<f.terms.length
      · have HZ:Hid (fitB f=false):=by show _=_; rw [HG.out,decide_eq_false (p:=_∧_) (by omega)]; simp
        have k1':decide (p.left<(f.terms.length:Int))=true:=decide_eq_true k1
        clear HG
        go_big_quiet (fail)
        go_wp2_with fail
        go_ret
        exact ⟨ret_bool HZ.out.symm,below_drewN B2 _⟩
      have k1':decide (p.left<(f.terms.length:Int))=false:=decide_eq_false k1
      by_cases k2:(f.terms.length+f.nons.length:Int)≤p.left
      · have HZ:Hid (fitB f=false):=by show _=_; rw [HG.out,decide_eq_false (p:=_∧_) (by omega)]; simp
        have k2':decide ((f.terms.length+f.nons.length:Int)≤p.left)=true:=decide_eq_true (by omega)
        clear HG
        go_big_quiet (fail)
        go_wp2_with fail
        go_ret
        exact ⟨ret_bool HZ.out.symm,below_drewN B2 _⟩
      have k2':decide ((f.terms.length+f.nons.length:Int)≤p.left)=false:=decide_eq_false (by omega)
      by_cases hz:0<j
      · have hz':decide (0<(j:Int))=true:=decide_eq_true (by omega)
        have c0:=HQ2.out hz
        have hjs:((j:Int) - 1)=((j - 1:Nat):Int):=by omega
        by_cases k3:p.left<q
        · have HZ:Hid (fitB f=false):=by show _=_; rw [HG.out,HQ.out hz,decide_eq_false (p:=q≤p.left) (by omega)]; simp
          have k3':decide (p.left<q)=true:=decide_eq_true k3
          clear HG
          go_big_quiet (fail)
          go_wp2_with fail
          go_ret
          exact ⟨ret_bool HZ.out.symm,below_drewN B2 _⟩
        have k3':decide (p.left<q)=false:=decide_eq_false k3
        by_cases k4:64<p.right.length
        · have HZ:Hid (fitB f=false):=by show _=_; rw [HG.out,decide_eq_false (p:=_∧_) (by omega)]; simp
          have k4':decide (64<(p.right.length:Int))=true:=decide_eq_true (by omega)
          clear HG
          go_big_quiet (fail)
          go_wp2_with fail
          go_ret
          exact ⟨ret_bool HZ.out.symm,below_drewN B2 _⟩
        have k4':decide (64<(p.right.length:Int))=false:=decide_eq_false (by omega)
        by_cases k5:p.prec < -10000
        · have HZ:Hid (fitB f=false):=by show _=_; rw [HG.out,decide_eq_false (p:=_∧_) (by omega)]; simp
          have k5':decide (p.prec < -10000)=true:=decide_eq_true (by omega)
          clear HG
          go_big_quiet (fail)
          go_wp2_with fail
          go_ret
          exact ⟨ret_bool HZ.out.symm,below_drewN B2 _⟩
        have k5':decide (p.prec < -10000)=false:=decide_eq_false (by omega)
        by_cases k6:10000<p.prec
        · have HZ:Hid (fitB f=false):=by show _=_; rw [HG.out,decide_eq_false (p:=_∧_) (by omega)]; simp
          have k6':decide (10000<p.prec)=true:=decide_eq_true (by omega)
          clear HG
          go_big_quiet (fail)
          go_wp2_with fail
          go_ret
          exact ⟨ret_bool HZ.out.symm,below_drewN B2 _⟩
        have k6':decide (10000<p.prec)=false:=decide_eq_false (by omega)
        have HG2:Hid (fitB f=(p.right.all (itemB (f.terms.length+f.nons.length:Nat)) && prodsB f.terms.length (f.terms.length+f.nons.length:Nat) (prevL f (j+1)) rest)):=by
          show _=_
          rw [HG.out,decide_eq_true (p:=_∧_) (by omega),decide_eq_true (by rw [HQ.out hz]; omega),HL.out]
          rfl
        clear HG
        go_big_quiet (fail)
        go_wp2_with fail
        have HM:Hid (prodsB f.terms.length (f.terms.length+f.nons.length:Nat) (prevL f (j+1)) rest=prodsB f.terms.length (f.terms.length+f.nons.length:Nat) (prevL f (j+1)) rest):=rfl
        clear HM
        have HX2:Hid (FBox f ⟨ta,tc,na,nc,some ⟨b,off,none⟩,pc⟩ w.heap.size W1):=X2
        clear D0 D1 D2 X2 e0 e2 hb
        generalize wr.heap.size=Z at e1 e3 ⊢
        clear B1 wr
        go_loopw [6] (fun k wq=>∃ (m:Nat),k=.int .i64 m∧m≤p.right.length∧p.right.all (itemB (f.terms.length+f.nons.length:Nat))=(p.right.drop m).all (itemB (f.terms.length+f.nons.length:Nat))∧Below W1.heap.size W1 wq) (fun k _=>p.right.length - (intOf k).toNat)
        case atStart=>exact ⟨0,rfl,Nat.zero_le _,by simp,below_drewN (Below.refl _ _) _⟩
        case round =>
          obtain ⟨m,rfl,hm,hrl,Bq⟩:=hrel
          have f1:=(Bq.cell (p:=⟨Z,1,none⟩) e3).trans e1
          have Bz:=below_then B2 Bq B2.size
          by_cases hml:m<p.right.length
          · obtain ⟨bi,oi,rfl,hbi,i0,i1,i2,si,sf,sa⟩:=HI2.out.at Bq hml
            rw [List.drop_eq_getElem_cons hml,List.all_cons] at hrl
            generalize p.right[m]=x at *
            have HQ3:Hid (p.right.all (itemB (f.terms.length+f.nons.length:Nat))=((decide (0≤x.sym∧x.sym<(f.terms.length+f.nons.length:Nat)) && nameN x.fld && nameN x.als) && (p.right.drop (m+1)).all (itemB (f.terms.length+f.nons.length:Nat)))):=hrl
            clear hrl
            have n1:=fun W=>name9_any x.fld W sf
            have n2:=fun W=>name9_any x.als W sa
            have HN1:Hid (∀ W,Calls Tryz.prog 56 #[.string x.fld] W fun e w'=>e=.returned (.bool (nameN x.fld))∧w'=W):=n1
            have HN2:Hid (∀ W,Calls Tryz.prog 56 #[.string x.als] W fun e w'=>e=.returned (.bool (nameN x.als))∧w'=W):=n2
            clear n1 n2 HI2
            by_cases y1:x.sym<0
            · have HZ:Hid (fitB f=false):=by show _=_; rw [HG2.out,HQ3.out,decide_eq_false (by omega)]; rfl
              clear HG2 HQ3
              go_wp2_with fail
              go_ret
              exact ⟨ret_bool HZ.out.symm,Bz.alloc Bz.size _⟩
            by_cases y2:(f.terms.length+f.nons.length:Int)≤x.sym
            · have HZ:Hid (fitB f=false):=by show _=_; rw [HG2.out,HQ3.out,decide_eq_false (by omega)]; rfl
              clear HG2 HQ3
              go_wp2_with fail
              go_ret
              exact ⟨ret_bool HZ.out.symm,Bz.alloc Bz.size _⟩
            go_wp2_with fail
            refine (HN1.out _).mono ?_
            rintro e w5 ⟨rfl,rfl⟩
            cases hy3:nameN x.fld with
            | false =>
              have HZ:Hid (fitB f=false):=by show _=_; rw [HG2.out,HQ3.out,hy3,Bool.and_false]; rfl
              clear HG2 HQ3 hy3
              go_wp2_with fail
              go_ret
              exact ⟨ret_bool HZ.out.symm,Bz.alloc Bz.size _⟩
            | true =>
            go_wp2_with fail
            refine (HN2.out _).mono ?_
            rintro e w5 ⟨rfl,rfl⟩
            cases hy4:nameN x.als with
            | false =>
              have HZ:Hid (fitB f=false):=by show _=_; rw [HG2.out,HQ3.out,hy4,Bool.and_false]; rfl
              clear HG2 HQ3 hy3 hy4
              go_wp2_with fail
              go_ret
              exact ⟨ret_bool HZ.out.symm,Bz.alloc Bz.size _⟩
            | true =>
            have HQ4:Hid (p.right.all (itemB (f.terms.length+f.nons.length:Nat))=(p.right.drop (m+1)).all (itemB (f.terms.length+f.nons.length:Nat))):=by show _=_; rw [HQ3.out,hy3,hy4,decide_eq_true (by omega)]; rfl
            clear HQ3 hy3 hy4 HG2
            go_wp2_with fail
            exact ⟨⟨m+1,by go_num,by omega,HQ4.out,Bq.alloc Bq.size _⟩,by simp [intOf]; omega⟩
          · have HZ:Hid (fitB f=prodsB f.terms.length (f.terms.length+f.nons.length:Nat) (prevL f (j+1)) rest):=by
              show _=_
              rw [HG2.out,hrl,List.drop_of_length_le (by omega)]
              rfl
            clear hrl HG2
            go_wp2_with fail
            exact ⟨⟨j+1,by go_num,by omega,by rw [HZ.out,HRS.out],HX2.out.next Bq,Bz⟩,by simp [intOf]; omega⟩
      · have hz':decide (0<(j:Int))=false:=decide_eq_false (by omega)
        by_cases k4:64<p.right.length
        · have HZ:Hid (fitB f=false):=by show _=_; rw [HG.out,decide_eq_false (p:=_∧_) (by omega)]; simp
          have k4':decide (64<(p.right.length:Int))=true:=decide_eq_true (by omega)
          clear HG
          go_big_quiet (fail)
          go_wp2_with fail
          go_ret
          exact ⟨ret_bool HZ.out.symm,below_drewN B2 _⟩
        have k4':decide (64<(p.right.length:Int))=false:=decide_eq_false (by omega)
        by_cases k5:p.prec < -10000
        · have HZ:Hid (fitB f=false):=by show _=_; rw [HG.out,decide_eq_false (p:=_∧_) (by omega)]; simp
          have k5':decide (p.prec < -10000)=true:=decide_eq_true (by omega)
          clear HG
          go_big_quiet (fail)
          go_wp2_with fail
          go_ret
          exact ⟨ret_bool HZ.out.symm,below_drewN B2 _⟩
        have k5':decide (p.prec < -10000)=false:=decide_eq_false (by omega)
        by_cases k6:10000<p.prec
        · have HZ:Hid (fitB f=false):=by show _=_; rw [HG.out,decide_eq_false (p:=_∧_) (by omega)]; simp
          have k6':decide (10000<p.prec)=true:=decide_eq_true (by omega)
          clear HG
          go_big_quiet (fail)
          go_wp2_with fail
          go_ret
          exact ⟨ret_bool HZ.out.symm,below_drewN B2 _⟩
        have k6':decide (10000<p.prec)=false:=decide_eq_false (by omega)
        have HG2:Hid (fitB f=(p.right.all (itemB (f.terms.length+f.nons.length:Nat)) && prodsB f.terms.length (f.terms.length+f.nons.length:Nat) (prevL f (j+1)) rest)):=by
          show _=_
          rw [HG.out,decide_eq_true (p:=_∧_) (by omega),decide_eq_true (by rw [HPV.out (by omega)]; omega),HL.out]
          rfl
        clear HG
        go_big_quiet (fail)
        go_wp2_with fail
        have HM:Hid (prodsB f.terms.length (f.terms.length+f.nons.length:Nat) (prevL f (j+1)) rest=prodsB f.terms.length (f.terms.length+f.nons.length:Nat) (prevL f (j+1)) rest):=rfl
        clear HM
        have HX2:Hid (FBox f ⟨ta,tc,na,nc,some ⟨b,off,none⟩,pc⟩ w.heap.size W1):=X2
        clear D0 D1 D2 X2 e0 e2 hb
        generalize wr.heap.size=Z at e1 e3 ⊢
        clear B1 wr
        go_loopw [6] (fun k wq=>∃ (m:Nat),k=.int .i64 m∧m≤p.right.length∧p.right.all (itemB (f.terms.length+f.nons.length:Nat))=(p.right.drop m).all (itemB (f.terms.length+f.nons.length:Nat))∧Below W1.heap.size W1 wq) (fun k _=>p.right.length - (intOf k).toNat)
        case atStart=>exact ⟨0,rfl,Nat.zero_le _,by simp,below_drewN (Below.refl _ _) _⟩
        case round =>
          obtain ⟨m,rfl,hm,hrl,Bq⟩:=hrel
          have f1:=(Bq.cell (p:=⟨Z,1,none⟩) e3).trans e1
          have Bz:=below_then B2 Bq B2.size
          by_cases hml:m<p.right.length
          · obtain ⟨bi,oi,rfl,hbi,i0,i1,i2,si,sf,sa⟩:=HI2.out.at Bq hml
            rw [List.drop_eq_getElem_cons hml,List.all_cons] at hrl
            generalize p.right[m]=x at *
            have HQ3:Hid (p.right.all (itemB (f.terms.length+f.nons.length:Nat))=((decide (0≤x.sym∧x.sym<(f.terms.length+f.nons.length:Nat)) && nameN x.fld && nameN x.als) && (p.right.drop (m+1)).all (itemB (f.terms.length+f.nons.length:Nat)))):=hrl
            clear hrl
            have n1:=fun W=>name9_any x.fld W sf
            have n2:=fun W=>name9_any x.als W sa
            have HN1:Hid (∀ W,Calls Tryz.prog 56 #[.string x.fld] W fun e w'=>e=.returned (.bool (nameN x.fld))∧w'=W):=n1
            have HN2:Hid (∀ W,Calls Tryz.prog 56 #[.string x.als] W fun e w'=>e=.returned (.bool (nameN x.als))∧w'=W):=n2
            clear n1 n2 HI2
            by_cases y1:x.sym<0
            · have HZ:Hid (fitB f=false):=by show _=_; rw [HG2.out,HQ3.out,decide_eq_false (by omega)]; rfl
              clear HG2 HQ3
              go_wp2_with fail
              go_ret
              exact ⟨ret_bool HZ.out.symm,Bz.alloc Bz.size _⟩
            by_cases y2:(f.terms.length+f.nons.length:Int)≤x.sym
            · have HZ:Hid (fitB f=false):=by show _=_; rw [HG2.out,HQ3.out,decide_eq_false (by omega)]; rfl
              clear HG2 HQ3
              go_wp2_with fail
              go_ret
              exact ⟨ret_bool HZ.out.symm,Bz.alloc Bz.size _⟩
            go_wp2_with fail
            refine (HN1.out _).mono ?_
            rintro e w5 ⟨rfl,rfl⟩
            cases hy3:nameN x.fld with
            | false =>
              have HZ:Hid (fitB f=false):=by show _=_; rw [HG2.out,HQ3.out,hy3,Bool.and_false]; rfl
              clear HG2 HQ3 hy3
              go_wp2_with fail
              go_ret
              exact ⟨ret_bool HZ.out.symm,Bz.alloc Bz.size _⟩
            | true =>
            go_wp2_with fail
            refine (HN2.out _).mono ?_
            rintro e w5 ⟨rfl,rfl⟩
            cases hy4:nameN x.als with
            | false =>
              have HZ:Hid (fitB f=false):=by show _=_; rw [HG2.out,HQ3.out,hy4,Bool.and_false]; rfl
              clear HG2 HQ3 hy3 hy4
              go_wp2_with fail
              go_ret
              exact ⟨ret_bool HZ.out.symm,Bz.alloc Bz.size _⟩
            | true =>
            have HQ4:Hid (p.right.all (itemB (f.terms.length+f.nons.length:Nat))=(p.right.drop (m+1)).all (itemB (f.terms.length+f.nons.length:Nat))):=by show _=_; rw [HQ3.out,hy3,hy4,decide_eq_true (by omega)]; rfl
            clear HQ3 hy3 hy4 HG2
            go_wp2_with fail
            exact ⟨⟨m+1,by go_num,by omega,HQ4.out,Bq.alloc Bq.size _⟩,by simp [intOf]; omega⟩
          · have HZ:Hid (fitB f=prodsB f.terms.length (f.terms.length+f.nons.length:Nat) (prevL f (j+1)) rest):=by
              show _=_
              rw [HG2.out,hrl,List.drop_of_length_le (by omega)]
              rfl
            clear hrl HG2
            go_wp2_with fail
            exact ⟨⟨j+1,by go_num,by omega,by rw [HZ.out,HRS.out],HX2.out.next Bq,Bz⟩,by simp [intOf]; omega⟩
    · have HZ:Hid (fitB f=true):=by show _=_; rw [hrel,List.drop_of_length_le (by omega)]; rfl
      clear hrel h2
      go_wp2_with fail
      go_ret
      exact ⟨ret_bool HZ.out.symm,B1⟩
structure FitP (f:Fl):Prop where
  nons:0<f.nons.length
  size:f.terms.length+f.nons.length≤600
  prods:f.prods.length≤400
  left:∀ p∈f.prods,(f.terms.length:Int)≤p.left∧p.left<(f.terms.length+f.nons.length:Nat)
  right:∀ p∈f.prods,p.right.length≤64
  sym:∀ p∈f.prods,∀ x∈p.right,0≤x.sym∧x.sym<(f.terms.length+f.nons.length:Nat)
theorem prodsB_all {t n:Int}:∀ {l:List Pr} {prev:Int},prodsB t n prev l=true→∀ p∈l,prodB t n p=true
  | [],_,_=>by simp
  | q :: l,prev,h=>by
    rw [prodsB] at h
    simp only [Bool.and_eq_true] at h
    intro p hp
    rcases List.mem_cons.1 hp with rfl | hp
    · exact h.1.2
    · exact prodsB_all h.2 p hp
theorem fit_facts {f:Fl} (h:fitB f=true):FitP f:=by
  unfold fitB headB at h
  simp only [Bool.and_eq_true,decide_eq_true_eq] at h
  obtain ⟨⟨⟨⟨h1,h2,h3⟩,_⟩,_⟩,h4⟩:=h
  have h5:∀ p∈f.prods,(((f.terms.length:Int)≤p.left∧p.left<(f.terms.length+f.nons.length:Nat)∧p.right.length≤64∧-10000≤p.prec∧p.prec≤10000)∧p.right.all (itemB (f.terms.length+f.nons.length:Nat))=true):=fun p hp=>by
    have:=prodsB_all h4 p hp
    unfold prodB at this
    simpa only [Bool.and_eq_true,decide_eq_true_eq] using this
  refine ⟨by omega,h2,h3,fun p hp=>⟨(h5 p hp).1.1,(h5 p hp).1.2.1⟩,fun p hp=>(h5 p hp).1.2.2.1,fun p hp x hx=>?_⟩
  have:=List.all_eq_true.1 (h5 p hp).2 x hx
  unfold itemB at this
  simp only [Bool.and_eq_true,decide_eq_true_eq] at this
  exact this.1.1
def Pr.syms (p:Pr):List Nat:=p.right.map fun x=>x.sym.toNat
def Fl.gr (f:Fl):Gr:=f.prods.map fun p=>(p.left.toNat,p.syms)
def Fl.n (f:Fl):Nat:=f.terms.length+f.nons.length
theorem info4:(Tryz.prog.info? 4).map (fun i=>(i.zero,i.size,i.bytes))=some (some (.bool false),1,1):=by kernel_rfl
set_option maxHeartbeats 800000 in
theorem rsize_any (f:Fl) (a:FlA) (w:World) (hp:f.n≤600) :
    Calls Tryz.prog 136 #[a.val f] w fun e w'=>e=.returned (.int .i64 f.n)∧Below w.heap.size w w':=by
  obtain ⟨ta,tc,na,nc,pa,pc⟩:=a
  unfold FlA.val
  simp only
  unfold Fl.n at *
  go_enter Tryz.func136,Tryz.ntmps136
  go_wp2_with fail
  go_ret
  exact ⟨ret_int (by omega),(Below.refl _ _).alloc (Nat.le_refl _) _⟩
def GaveB (base:Nat→Prop) (f:Fl) (w:World) (e:Ending) (w':World):Prop:=∃ v L,e=.returned v∧GivesB base f.gr f.n L∧SlB L v w'∧Apart w.heap.size v∧Below w.heap.size w w'
structure RowB (base:Nat→Prop) (g:Gr) (N G:Nat) (w1:World) (L:List Bool) (W:World):Prop where
  own:Own1 4 encB G L (.slice (some ⟨G,0,none⟩) L.length N) W
  len:L.length=N
  sound:SoundB base g L
  basic:∀ s,base s→OnB L s
  below:Below G w1 W
theorem RowB.drewN {base g N G w1 L W} (h:RowB base g N G w1 L W) (m:Nat):RowB base g N G w1 L (W.drewN m):=⟨h.own,h.len,h.sound,h.basic,below_drewN h.below m⟩
theorem RowB.alloc {base g N G w1 L W} (h:RowB base g N G w1 L W) (hG:G≤W.heap.size) (o:Obj):RowB base g N G w1 L (W.alloc o):=⟨World.ownsRow.alloc h.own o,h.len,h.sound,h.basic,h.below.alloc hG o⟩
theorem RowB.store {base g N G w1 L W} (h:RowB base g N G w1 L W) {l:Nat} {r:List Nat} (hl:l<N) (hm:(l,r)∈g) (hr:∀ x∈r,OnB L x):RowB base g N G w1 (L.set l true) (W.setCell ⟨G,l,none⟩ (.bool true)):=by
  have h1:=(World.ownsRow.stored h.own l (.bool true)).1
  refine ⟨?_,by simpa using h.len,soundB_set h.sound (by rw [h.len]; exact hl) hm hr,fun s hs=>onB_set (h.basic s hs),h.below.setCell (p:=⟨G,l,none⟩) (Nat.le_refl _) _⟩
  unfold Own1
  rw [List.length_set,List.map_set]
  exact h1
theorem RowB.size {base g N G w1 L W} (h:RowB base g N G w1 L W) (hG:G=w1.heap.size):G≤W.heap.size:=by rw [hG]; have:=h.below.size; exact this
theorem made_false (N:Nat):(madeCells #[Value.bool false] N).toList=(List.replicate N false).map encB:=by rw [toList_madeCells_one]; simp [encB]
theorem onB_false {N s:Nat}:¬ OnB (List.replicate N false) s:=by
  unfold OnB
  rw [List.getElem?_replicate]
  split <;> simp
def b2n (b:Bool):Nat:=if b then 1 else 0
def onb (L:List Bool) (s:Nat):Bool:=L.getD s false
theorem onb_iff {L:List Bool} {s:Nat}:onb L s=true↔OnB L s:=by
  unfold onb OnB
  rw [List.getD_eq_getElem?_getD]
  cases h:L[s]? with
  | none=>simp
  | some b=>simp
theorem onb_get {L:List Bool} {s:Nat} (h:s<L.length):onb L s=L[s]:=by
  unfold onb; rw [List.getD_eq_getElem?_getD,List.getElem?_eq_getElem h]; rfl
theorem RowB.cell {base g N G w1 L W} (h:RowB base g N G w1 L W) {s:Nat} (hs:s<N):W.cell? ⟨G,s,none⟩=some (.bool (onb L s)):=by
  have hl:s<L.length:=by rw [h.len]; exact hs
  have:=World.ownsRow.cellAt h.own s (by omega)
  rw [this,List.getElem?_map,List.getElem?_eq_getElem hl,onb_get hl]
  rfl
theorem gr_mem {f:Fl} {j:Nat} (h:j<f.prods.length):(f.prods[j].left.toNat,f.prods[j].syms)∈f.gr:=List.mem_map.2 ⟨_,List.getElem_mem h,rfl⟩
theorem gr_take {f:Fl} {j:Nat} (h:j<f.prods.length):f.gr.take (j+1)=f.gr.take j++[(f.prods[j].left.toNat,f.prods[j].syms)]:=by
  unfold Fl.gr
  rw [← List.map_take,← List.map_take,List.take_succ_eq_append_getElem h,List.map_append]
  rfl
def RoundB (f:Fl) (L L':List Bool) (b:Bool) (j:Nat):Prop:=(b=true→offs L'<offs L)∧(b=false→L'=L∧∀ q∈f.gr.take j,ClosedB L q)
theorem RoundB.start (f:Fl) (L:List Bool):RoundB f L L false 0:=⟨by simp,fun _=>⟨rfl,by simp⟩⟩
theorem RoundB.no {f:Fl} {L L':List Bool} {b:Bool} {j:Nat} (h:RoundB f L L' b j) (hj:j<f.prods.length) (hc:ClosedB L' (f.prods[j].left.toNat,f.prods[j].syms)):RoundB f L L' b (j+1):=by
  refine ⟨h.1,fun hb=>⟨(h.2 hb).1,fun q hq=>?_⟩⟩
  rw [gr_take hj] at hq
  rcases List.mem_append.1 hq with hq | hq
  · exact (h.2 hb).2 q hq
  · simp at hq; subst hq; rw [← (h.2 hb).1]; exact hc
theorem RoundB.yes {f:Fl} {L L':List Bool} {b:Bool} {j l:Nat} (h:RoundB f L L' b j) (hl:l<L'.length) (ho:¬ OnB L' l):RoundB f L (L'.set l true) true (j+1):=by
  refine ⟨fun _=>?_,fun hb=>by cases hb⟩
  have h1:=offs_set hl ho
  cases b with
  | true=>have:=h.1 rfl; omega
  | false=>have:=(h.2 rfl).1; subst this; omega
theorem RowB.done {base} {f:Fl} {N G w1 L W} (h:RowB base f.gr N G w1 L W) (hn:f.n=N) (hc:∀ q∈f.gr,ClosedB L q):GivesB base f.gr f.n L :=
  ⟨by rw [h.len,hn],fun s _=>⟨h.sound s,fun hd=>complete_B h.basic hc hd⟩⟩
set_option maxRecDepth 100000 in
set_option maxHeartbeats 3200000 in
theorem rempty_any (f:Fl) (a:FlA) (w:World) (hf:FlAt f a w) (hp:FitP f) :
    Calls Tryz.prog 105 #[a.val f] w fun e w'=>GaveB (fun _=>False) f w e w':=by
  have hn:f.n≤600:=hp.size
  have hS:=fun W=>rsize_any f a W hn
  obtain ⟨i0,hi0,hz0,hz1,hz2⟩:=info_parts info4
  obtain ⟨ta,tc,na,nc,pa,pc⟩:=a
  have X0:=FBox.new f ⟨ta,tc,na,nc,pa,pc⟩ 25 w
  have B0:Below w.heap.size w (w.alloc (fobj f ⟨ta,tc,na,nc,pa,pc⟩ 25)):=(Below.refl _ _).alloc (Nat.le_refl _) _
  obtain ⟨h0,h1,h2,h3,h4,h5,h6,h7⟩:=hf
  unfold fobj at X0 B0
  unfold FlA.val at hS ⊢
  simp only at *
  clear h0 h1
  have HS:Hid (∀ W,Calls Tryz.prog 136 #[.agg #[.slice ta f.terms.length tc,.slice na f.nons.length nc,.slice pa f.prods.length pc]] W fun e w'=>e=.returned (.int .i64 f.n)∧Below W.heap.size W w'):=hS
  clear hS
  obtain ⟨N,hN⟩:∃ N,f.n=N:=⟨_,rfl⟩
  rw [hN] at hn HS
  have HNN:Hid (f.n=N):=hN
  clear hN
  go_enter Tryz.func105,Tryz.ntmps105
  go_wp2_with fail
  refine (HS.out _).mono ?_
  rintro e w1 ⟨rfl,hb1⟩
  have X1:=X0.next hb1
  have B1:=below_then B0 hb1 B0.size
  clear X0 B0 hb1 HS
  go_wp2_with (at_make; refine wpList_make_full _ rfl _ _ 147 rfl w1.heap.size 4 i0 _ 1 Tryz.underlying147 hi0 hz0 hz1 _ _ _ _ N rfl rfl rfl rfl (by rw [hz2]; omega) (by unfold maxLen; omega) (Nat.le_refl _) ?_)
  intro w2 hown hg2
  have X2:=X1.next ((Below.refl _ _).grown hg2 (Nat.le_refl _) (fun k e=>by cases e))
  obtain ⟨G,hG⟩:∃ G,w1.heap.size=G:=⟨_,rfl⟩
  have R0:RowB (fun _=>False) f.gr N G w1 (List.replicate N false) w2:=by
    rw [← hG]
    refine ⟨?_,by simp,fun s hs=>absurd hs onB_false,fun _ h=>h.elim,(Below.refl _ _).grown hg2 (Nat.le_refl _) (fun k e=>by cases e)⟩
    unfold Own1
    rw [← made_false,List.length_replicate]
    simpa using hown
  have hwG:w.heap.size<G:=by rw [← hG]; exact X1.1
  have BG:Below G w1 w1:=Below.refl _ _
  have HX:Hid (∀ W,Below G w1 W→FBox f ⟨ta,tc,na,nc,pa,pc⟩ w.heap.size W):=fun W hb=>X1.next (by rw [hG]; exact hb)
  have HP:Hid (∀ W,Below G w1 W→PrsAt f.prods pa W):=fun W hb=>(h2.next B1).next (by rw [hG]; exact hb)
  have HB:Hid (∀ W,Below G w1 W→Below w.heap.size w W):=fun W hb=>below_then B1 (by rw [hG]; exact hb) B1.size
  have HG:Hid (G=w1.heap.size):=hG.symm
  have HR0:Hid (RowB (fun _=>False) f.gr N G w1 (List.replicate N false) w2):=R0
  have HQ:Hid (FitP f):=hp
  rw [hG]
  clear R0 X1 X2 h2 B1 hown hg2 BG hG hp
  go_wp2_with fail
  go_loopg [4] (2 * offs (List.replicate N false)+1) (fun k ag wr=>∃ (b:Bool) (L:List Bool),ag=.bool b∧k=2 * offs L+b2n b∧RowB (fun _=>False) f.gr N G w1 L wr∧(b=false→∀ q∈f.gr,ClosedB L q))
  case atStart=>exact ⟨true,_,rfl,rfl,HR0.out,by simp⟩
  case round =>
    obtain ⟨b,L,rfl,rfl,R,hc⟩:=hrel
    clear HR0
    cases b with
    | false =>
      have HZ:Hid (GivesB (fun _=>False) f.gr f.n L∧RowB (fun _=>False) f.gr N G w1 L wr):=⟨R.done HNN.out (hc rfl),R⟩
      clear R hc
      go_wp2_with fail
      go_ret
      obtain ⟨z1,z2⟩:=HZ.out
      obtain ⟨ao,cap,e1,e2,e3,e4,_⟩:=z2.own.at_
      refine ⟨_,L,rfl,z1,⟨some ⟨G,0,none⟩,N,by rw [z2.len]; rfl,?_,(fun h=>by cases h),by rw [z2.len]; exact Nat.le_refl _⟩,(fun ad n c e=>by cases e; exact Nat.le_of_lt hwG),HB.out _ z2.below⟩
      cases e1
      exact e2
    | true =>
    have HK:Hid (True):=trivial
    have HR:Hid (RowB (fun _=>False) f.gr N G w1 L wr):=R
    clear R hc HK
    go_wp2_with fail
    go_loopw [4,5] (fun ag i wx=>∃ (b:Bool) (j:Nat) (L':List Bool),ag=.bool b∧i=.int .i64 j∧j≤f.prods.length∧RowB (fun _=>False) f.gr N G w1 L' wx∧RoundB f L L' b j) (fun _ i _=>f.prods.length - (intOf i).toNat)
    case atStart=>exact ⟨false,0,L,rfl,rfl,Nat.zero_le _,HR.out,RoundB.start f L⟩
    case round =>
      clear HR
      obtain ⟨b,j,L',rfl,rfl,hj,R,hr⟩:=hrel
      obtain ⟨x1,d0,d1,d2⟩:=HX.out _ R.below
      simp only at d0 d1 d2
      have hGs:=R.size HG.out
      by_cases hlt:j<f.prods.length
      · obtain ⟨pb,off,v,rfl,hb,c0,c1,c2,hv,hl,hpr⟩:=(HP.out _ R.below).at (Below.refl _ _) hlt
        obtain ⟨ra,rc,rfl,hI,_,hr1,hr2⟩:=hv
        have hlf:=HQ.out.left _ (List.getElem_mem hlt)
        have hrl:=HQ.out.right _ (List.getElem_mem hlt)
        have hsy:=HQ.out.sym _ (List.getElem_mem hlt)
        have HM:Hid ((f.prods[j].left.toNat,f.prods[j].syms)∈f.gr):=gr_mem hlt
        have HY:Hid ((¬ OnB L' f.prods[j].left.toNat)→RoundB f L (L'.set f.prods[j].left.toNat true) true (j+1)):=fun ho=>hr.yes (by rw [R.len,← HNN.out]; unfold Fl.n; omega) ho
        have HZ:Hid (ClosedB L' (f.prods[j].left.toNat,f.prods[j].syms)→RoundB f L L' b (j+1)):=fun hc=>hr.no hlt hc
        have hln:(f.terms.length+f.nons.length:Nat)=N:=HNN.out
        rw [hln] at hlf hsy
        generalize f.prods[j]=p at *
        obtain ⟨pl,pr,pp⟩:=p
        simp only at *
        obtain ⟨l,rfl⟩:∃ l:Nat,pl=l:=⟨pl.toNat,by omega⟩
        simp only [Int.toNat_natCast] at HM HY HZ
        have hlN:l<N:=by omega
        have hc3:=R.cell hlN
        have HW:Hid (RowB (fun _=>False) f.gr N G w1 L' (wr.alloc (Obj.cells #[Value.int IntKind.i64 l,Value.slice ra pr.length rc,Value.int IntKind.i64 pp] 58))):=R.alloc hGs _
        have BP:Below wr.heap.size wr (wr.alloc (Obj.cells #[Value.int IntKind.i64 l,Value.slice ra pr.length rc,Value.int IntKind.i64 pp] 58)):=(Below.refl _ _).alloc (Nat.le_refl _) _
        have E:(wr.alloc (Obj.cells #[Value.int IntKind.i64 l,Value.slice ra pr.length rc,Value.int IntKind.i64 pp] 58)).cell? ⟨wr.heap.size,0,none⟩=some (.int .i64 l)∧(wr.alloc (Obj.cells #[Value.int IntKind.i64 l,Value.slice ra pr.length rc,Value.int IntKind.i64 pp] 58)).cell? ⟨wr.heap.size,1,none⟩=some (.slice ra pr.length rc):=by refine ⟨?_,?_⟩ <;> simp
        have HI:Hid (ItsAt pr ra (wr.alloc (Obj.cells #[Value.int IntKind.i64 l,Value.slice ra pr.length rc,Value.int IntKind.i64 pp] 58))):=hI.next BP
        have hc4:=HW.out.cell hlN
        have HLN:Hid (L'.length=N):=R.len
        clear hI R hr HP
        go_upto_region 9 with fail
        generalize wr.alloc (Obj.cells #[Value.int IntKind.i64 l,Value.slice ra pr.length rc,Value.int IntKind.i64 pp] 58)=Wp at *
        obtain ⟨e0,e1⟩:=E
        generalize wr.heap.size=Z at e0 e1 ⊢
        clear c0 c1 c2 d0 d1 d2 hc3 BP hb x1 hGs
        go_wp2_with fail
        obtain ⟨sy,hsyd⟩:∃ sy,(⟨(l:Int),pr,pp⟩:Pr).syms=sy:=⟨_,rfl⟩
        rw [hsyd] at HM HZ
        have HSY:Hid (pr.map (fun x=>x.sym.toNat)=sy):=hsyd
        clear hsyd
        go_loopw [7,8] (fun al k wq=>∃ (m:Nat),k=.int .i64 m∧m≤pr.length∧al=.bool (!onb L' l && (sy.take m).all (onb L'))∧∃ d,wq=Wp.drewN d) (fun _ k _=>pr.length - (intOf k).toNat)
        case atStart=>exact ⟨0,rfl,Nat.zero_le _,by simp,0,rfl⟩
        case round =>
          obtain ⟨m,rfl,hm,rfl,d,rfl⟩:=hrel
          by_cases hml:m<pr.length
          · obtain ⟨bi,oi,rfl,hbi,i0,i1,i2,si,sf,sa⟩:=HI.out.at (Below.refl _ _) hml
            have hs:=hsy _ (List.getElem_mem hml)
            have HT:Hid (sy.take (m+1)=sy.take m++[pr[m].sym.toNat]):=by
              show _=_
              rw [← HSY.out,← List.map_take,← List.map_take,List.take_succ_eq_append_getElem hml,List.map_append]
              rfl
            generalize pr[m]=x at *
            obtain ⟨xs,xf,xa⟩:=x
            simp only at *
            obtain ⟨q,rfl⟩:∃ q:Nat,xs=q:=⟨xs.toNat,by omega⟩
            simp only [Int.toNat_natCast] at HT
            have hq:=HW.out.cell (s:=q) (by omega)
            obtain ⟨c,hc⟩:∃ c,(!onb L' l && (sy.take m).all (onb L'))=c:=⟨_,rfl⟩
            rw [hc]
            have HC:Hid ((!onb L' l && (sy.take (m+1)).all (onb L'))=(c && onb L' q)):=by
              show _=_
              rw [HT.out,List.all_append,← Bool.and_assoc,hc]
              simp
            clear hc HT
            cases c with
            | true =>
              have HC2:Hid ((!onb L' l && (sy.take (m+1)).all (onb L'))=onb L' q):=by show _=_; rw [HC.out]; rfl
              clear HC
              generalize onb L' q=oq at *
              go_wp2_with fail
              exact ⟨⟨m+1,by go_num,by omega,by rw [HC2.out],d,rfl⟩,by simp [intOf]; omega⟩
            | false =>
              have HC2:Hid ((!onb L' l && (sy.take (m+1)).all (onb L'))=false):=by show _=_; rw [HC.out]; rfl
              clear HC
              go_wp2_with fail
              exact ⟨⟨m+1,by go_num,by omega,by rw [HC2.out],d,rfl⟩,by simp [intOf]; omega⟩
          · obtain rfl:m=pr.length:=by omega
            have hfull:sy.take pr.length=sy:=List.take_of_length_le (by rw [← HSY.out]; simp)
            rw [hfull]
            obtain ⟨c,hc⟩:∃ c,(!onb L' l && sy.all (onb L'))=c:=⟨_,rfl⟩
            rw [hc]
            clear hfull
            cases c with
            | true =>
              simp only [Bool.and_eq_true,Bool.not_eq_true',List.all_eq_true] at hc
              have hno:¬ OnB L' l:=fun h=>by rw [onb_iff.2 h] at hc; exact absurd hc.1 (by simp)
              have HY2:Hid (RoundB f L (L'.set l true) true (j+1)):=HY.out hno
              have HW2:Hid (RowB (fun _=>False) f.gr N G w1 (L'.set l true) ((Wp.drewN d).setCell ⟨G,l,none⟩ (.bool true))):=(HW.out.drewN d).store hlN HM.out (fun x hx=>onb_iff.1 (hc.2 x hx))
              have hfz:Wp.frozen? ⟨G,l,none⟩=false:=World.ownsRow.frozenAt HW.out.own l
              clear hc hno HY HZ HW HM HI
              go_wp2_with fail
              exact ⟨⟨true,j+1,L'.set l true,rfl,by go_num,by omega,HW2.out,HY2.out⟩,by simp [intOf]; omega⟩
            | false =>
              have HZ2:Hid (RoundB f L L' b (j+1)):=HZ.out (fun hx=>by
                have:sy.all (onb L')=true:=List.all_eq_true.2 (fun x h=>onb_iff.2 (hx x h))
                rw [this,Bool.and_true,Bool.not_eq_false'] at hc
                exact onb_iff.1 hc)
              have HW2:Hid (RowB (fun _=>False) f.gr N G w1 L' (Wp.drewN d)):=HW.out.drewN d
              clear hc HY HZ HW HM HI
              go_wp2_with fail
              exact ⟨⟨b,j+1,L',rfl,by go_num,by omega,HW2.out,HZ2.out⟩,by simp [intOf]; omega⟩
      · obtain rfl:j=f.prods.length:=by omega
        have HE:Hid ((b=false→∀ q∈f.gr,ClosedB L' q)∧2 * offs L'+b2n b<2 * offs L+b2n true):=by
          refine ⟨fun hb q hq=>?_,?_⟩
          · rw [(hr.2 hb).1]
            exact (hr.2 hb).2 q (by rw [List.take_of_length_le (by unfold Fl.gr; simp)]; exact hq)
          · cases b with
            | true=>have:=hr.1 rfl; simp [b2n]; omega
            | false=>rw [(hr.2 rfl).1]; simp [b2n]
        have HW2:Hid (RowB (fun _=>False) f.gr N G w1 L' wr):=R
        clear hr R
        go_wp2_with fail
        go_roundg (2 * offs L'+b2n b)
        case measure=>exact HE.out.2
        case rel=>exact ⟨b,L',rfl,rfl,HW2.out,HE.out.1⟩
end Go.Proofs.YtbilbgjojdlobaaGreatDoor
namespace Go.Proofs.YtbilbgjojdlobaaGreatDoor
def rowAt (R:List (List Int)) (s:Nat):List Int:=R.getD s []
theorem rowAt_get {R:List (List Int)} {s:Nat} (h:s<R.length):rowAt R s=R[s]:=by unfold rowAt; rw [List.getD_eq_getElem?_getD,List.getElem?_eq_getElem h]; rfl
theorem inR_row {R:List (List Int)} {s:Nat} (h:s<R.length) {t:Int}:InR R s t↔t∈rowAt R s:=by rw [inR_get h,rowAt_get h]
theorem rowAt_set {R:List (List Int)} {s x:Nat} {A:List Int} (h:s<R.length):rowAt (R.set s A) x=if x=s then A else rowAt R x:=by
  unfold rowAt
  rw [List.getD_eq_getElem?_getD,List.getD_eq_getElem?_getD,List.getElem?_set]
  by_cases e:s=x
  · subst e; simp [h]
  · rw [if_neg e,if_neg (fun h=>e h.symm)]
theorem set_rowAt {R:List (List Int)} {s:Nat} (h:s<R.length):R.set s (rowAt R s)=R:=by rw [rowAt_get h]; exact List.set_getElem_self h
theorem bulk_set_row {R:List (List Int)} {s:Nat} {A:List Int} (h:s<R.length):bulk (R.set s A)+(rowAt R s).length=bulk R+A.length:=by rw [rowAt_get h]; exact bulk_set h
structure OkR (P:Nat→Int→Prop) (N:Nat) (R:List (List Int)):Prop where
  len:R.length=N
  rise:∀ s,Rising (rowAt R s)
  sound:∀ s,s<N→∀ t,t∈rowAt R s→P s t
theorem OkR.set {P N R} (h:OkR P N R) {s:Nat} {A:List Int} (hs:s<N) (hr:Rising A) (hp:∀ t∈A,P s t):OkR P N (R.set s A):=by
  have hl:s<R.length:=by rw [h.len]; exact hs
  refine ⟨by simpa using h.len,fun x=>?_,fun x hx t ht=>?_⟩
  · rw [rowAt_set hl]; split
    · exact hr
    · exact h.rise x
  · rw [rowAt_set hl] at ht
    split at ht
    · rename_i e; subst e; exact hp t ht
    · exact h.sound x hx t ht
theorem OkR.bulk_max {P N R} (h:OkR P N R) (hb:∀ s t,P s t→0≤t∧t<(N+1:Nat)):bulk R≤N * (N+1):=by
  have:=bulk_le (R:=R) (k:=N+1) (fun l hl=>by
    obtain ⟨i,hi,rfl⟩:=List.getElem_of_mem hl
    have e:=rowAt_get hi
    rw [← e]
    exact rising_length (h.rise i) (fun x hx=>hb i x (h.sound i (by rw [← h.len]; exact hi) x hx)))
  rw [h.len] at this
  exact this
theorem fst_lt {emp terms g s t} (h:Fst emp terms g s t):0≤t∧t<terms:=by
  induction h with
  | term h=>omega
  | prod _ _ _ ih=>exact ih
structure InnF (emp:Nat→Prop) (P:Nat→Int→Prop) (R:List (List Int)) (l:Nat) (sy:List Nat) (m:Nat) (A:List Int):Prop where
  rise:Rising A
  sup:∀ t∈rowAt R l,t∈A
  sub:∀ t∈A,P l t
  seen:∀ x∈sy.take m,∀ t∈rowAt R x,t∈A
theorem InnF.start {emp P N R l sy} (h:OkR P N R) (hl:l<N):InnF emp P R l sy 0 (rowAt R l) :=
  ⟨h.rise l,fun _ h=>h,h.sound l hl,by simp⟩
theorem take_succ_mem {sy:List Nat} {m x:Nat} (hm:m<sy.length) (h:x∈sy.take (m+1)):x∈sy.take m∨x=sy[m]:=by
  rw [List.take_succ_eq_append_getElem hm] at h
  rcases List.mem_append.1 h with h | h
  · exact .inl h
  · right; simpa using h
theorem InnF.step {emp terms g N R l sy m A} (h:InnF emp (Fst emp terms g) R l sy m A) (hR:OkR (Fst emp terms g) N R) (hg:(l,sy)∈g) (hm:m<sy.length) (hl:l<N) (hx:sy[m]<N) (he:∀ y∈sy.take m,emp y) :
    InnF emp (Fst emp terms g) R l sy (m+1) (unionL A (rowAt (R.set l A) sy[m])):=by
  have hlr:l<R.length:=by rw [hR.len]; exact hl
  refine ⟨rising_unionL h.rise,fun t ht=>mem_unionL.2 (.inl (h.sup t ht)),fun t ht=>?_,fun x hxm t ht=>?_⟩
  · rcases mem_unionL.1 ht with ht | ht
    · exact h.sub t ht
    · rw [rowAt_set hlr] at ht
      split at ht
      · exact h.sub t ht
      · have e:sy=sy.take m++sy[m] :: sy.drop (m+1):=by rw [← List.drop_eq_getElem_cons hm,List.take_append_drop]
        exact .prod (pre:=sy.take m) (x:=sy[m]) (post:=sy.drop (m+1)) (by rw [← e]; exact hg) he (hR.sound _ hx t ht)
  · rcases take_succ_mem hm hxm with hxm | rfl
    · exact mem_unionL.2 (.inl (h.seen x hxm t ht))
    · refine mem_unionL.2 ?_
      rw [rowAt_set hlr]
      split
      · rename_i e; rw [e] at ht; exact .inl (h.sup t ht)
      · exact .inr ht
theorem InnF.closed {emp P N R l sy m A} (h:InnF emp P R l sy m A) (hR:OkR P N R) (hl:l<N) (hsy:∀ x∈sy,x<N) (hn:A.length≤(rowAt R l).length) (hend:m=sy.length∨∃ y∈sy.take m,¬ emp y):A=rowAt R l∧ClosedF emp R (l,sy):=by
  have hA:A=rowAt R l:=by
    have e:unionL (rowAt R l) A=A:=rising_ext (rising_unionL (hR.rise l)) h.rise (fun t=>by rw [mem_unionL]; exact ⟨fun h'=>h'.elim (h.sup t) id,.inr⟩)
    have:=sub_of_length_unionL (hR.rise l) (by rw [e]; exact hn)
    exact rising_ext h.rise (hR.rise l) (fun t=>⟨this t,h.sup t⟩)
  refine ⟨hA,fun pre x post hp he t ht=>?_⟩
  simp only at hp
  have hxn:x<N:=hsy x (by rw [hp]; simp)
  rw [inR_row (by rw [hR.len]; exact hxn)] at ht
  simp only
  rw [inR_row (by rw [hR.len]; exact hl),← hA]
  refine h.seen x ?_ t ht
  have hlt:pre.length<m:=by
    rcases hend with rfl | ⟨y,hy,hny⟩
    · rw [hp]; simp
    · rcases Nat.lt_or_ge pre.length m with h' | h'
      · exact h'
      · exfalso
        apply hny
        refine he y ?_
        rw [hp,List.take_append_of_le_length h'] at hy
        exact List.mem_of_mem_take hy
  rw [hp]
  have:pre++x :: post=(pre++[x])++post:=by simp
  rw [this,List.take_append]
  refine List.mem_append.2 (.inl ?_)
  rw [List.take_of_length_le (by simp; omega)]
  simp
theorem InnF.len {emp P N R l sy m A} (h:InnF emp P R l sy m A) (hR:OkR P N R):(rowAt R l).length≤A.length:=by
  have e:unionL (rowAt R l) A=A:=rising_ext (rising_unionL (hR.rise l)) h.rise (fun t=>by rw [mem_unionL]; exact ⟨fun h'=>h'.elim (h.sup t) id,.inr⟩)
  have:=(length_unionL (rowAt R l) A).1
  rw [e] at this
  exact this
def RoundR (cl:List (List Int)→Nat × List Nat→Prop) (g:Gr) (R R':List (List Int)) (b:Bool) (j:Nat):Prop:=bulk R≤bulk R'∧(b=true→bulk R<bulk R')∧(b=false→R'=R∧∀ q∈g.take j,cl R q)
theorem RoundR.start (cl) (g:Gr) (R:List (List Int)):RoundR cl g R R false 0:=⟨Nat.le_refl _,by simp,fun _=>⟨rfl,by simp⟩⟩
theorem RoundR.step {cl} {g:Gr} {R R' R2:List (List Int)} {b b2:Bool} {j:Nat} {q:Nat × List Nat} (h:RoundR cl g R R' b j) (hj:g.take (j+1)=g.take j++[q]) (hb:bulk R'≤bulk R2) (h1:b2=true→b=true∨bulk R'<bulk R2) (h2:b2=false→b=false∧R2=R'∧cl R' q):RoundR cl g R R2 b2 (j+1):=by
  refine ⟨Nat.le_trans h.1 hb,fun e=>?_,fun e=>?_⟩
  · rcases h1 e with e | e
    · have:=h.2.1 e; omega
    · have:=h.1; omega
  · obtain ⟨e1,e2,e3⟩:=h2 e
    obtain ⟨e4,e5⟩:=h.2.2 e1
    refine ⟨by rw [e2,e4],fun p hp=>?_⟩
    rw [hj] at hp
    rcases List.mem_append.1 hp with hp | hp
    · exact e5 p hp
    · simp at hp; subst hp; rw [← e4]; exact e3
theorem OkR.gives {P N R} (h:OkR P N R) (hc:∀ s,s<N→∀ t,P s t→InR R s t):GivesR P N R:=by
  refine ⟨h.len,fun l hl=>?_,fun s hs t=>⟨fun hi=>?_,hc s hs t⟩⟩
  · obtain ⟨i,hi,rfl⟩:=List.getElem_of_mem hl
    rw [← rowAt_get hi]; exact h.rise i
  · exact h.sound s hs t ((inR_row (by rw [h.len]; exact hs)).1 hi)
end Go.Proofs.YtbilbgjojdlobaaGreatDoor
namespace Go.Proofs.YtbilbgjojdlobaaGreatDoor
open Go.RowKit
theorem owns_below {W W':World} {B n:Nat} {e:TypeId} {k:Nat} {v:Value} {xs:List Value} (h:W.ownsRow B e k v n xs) (hb:Below W.heap.size W W'):W'.ownsRow B e k v n xs:=by
  refine ⟨h.1,?_⟩
  rcases h.2 with h' | ⟨g,cap,cur,hv,hB,hg,rest⟩
  · exact .inl h'
  · refine .inr ⟨g,cap,cur,hv,hB,?_,rest⟩
    have hgl:g<W.heap.size:=by
      rcases Nat.lt_or_ge g W.heap.size with h | h
      · exact h
      · rw [Array.getElem?_eq_none h] at hg; cases hg
    rw [hb.block g hgl]; exact hg
theorem cell_set_other (W:World) {G s b o:Nat} (u:Value) (h:b≠G):(W.setCell ⟨G,s,none⟩ u).cell? ⟨b,o,none⟩=W.cell? ⟨b,o,none⟩ :=
  World.cell?_of_block (w:=W) (Below.heap_setCell W ⟨G,s,none⟩ u b h)
theorem RowAt.set {α:Type} {enc:α→Value} {l:List α} {ad:Addr} {W:World} {G:Nat} (h:RowAt enc l (some ad) W) (ha:l≠[]→G+1≤ad.block) (s:Nat) (u:Value):RowAt enc l (some ad) (W.setCell ⟨G,s,none⟩ u):=fun i x hi=>by
  obtain ⟨b,off,h0,h1,h2⟩:=h i x hi
  have hb:=ha (fun e=>by rw [e] at hi; simp at hi)
  cases h0
  simp only at hb
  exact ⟨b,off,rfl,by simpa using h1,(cell_set_other W u (by omega)).trans h2⟩
theorem SlI.set {l:List Int} {v:Value} {W:World} {G:Nat} (h:SlI l v W) (ha:Apart (G+1) v) (s:Nat) (u:Value):SlI l v (W.setCell ⟨G,s,none⟩ u):=by
  obtain ⟨ao,cap,rfl,h1,h2,h3,h4⟩:=h
  refine ⟨ao,cap,rfl,?_,h2,h3,h4⟩
  cases ao with
  | none=>rw [h1.cons_none]; exact RowAt.nil _ _ _
  | some ad=>exact h1.set (fun _=>ha ad _ _ rfl) s u
theorem SlB.set {l:List Bool} {v:Value} {W:World} {G:Nat} (h:SlB l v W) (ha:Apart (G+1) v) (s:Nat) (u:Value):SlB l v (W.setCell ⟨G,s,none⟩ u):=by
  obtain ⟨ao,cap,rfl,h1,h2,h3⟩:=h
  refine ⟨ao,cap,rfl,?_,h2,h3⟩
  cases ao with
  | none=>rw [h1.cons_none]; exact RowAt.nil _ _ _
  | some ad=>exact h1.set (fun _=>ha ad _ _ rfl) s u
structure Steady (G:Nat) (C:World→Prop):Prop where
  next:∀ {W W':World},C W→Below W.heap.size W W'→C W'
  set:∀ {W:World} (s:Nat) (u:Value),C W→C (W.setCell ⟨G,s,none⟩ u)
def RowR (N G:Nat) (w1:World) (C:World→Prop) (R:List (List Int)) (W:World):Prop :=
  ∃ vs:List Value,W.ownsRow G 43 1 (.slice (some ⟨G,0,none⟩) N N) N vs∧vs.length=N∧R.length=N∧(∀ (i:Nat) (v:Value),vs[i]?=some v→SlI (rowAt R i) v W∧Apart (G+1) v)∧Below G w1 W∧C W
theorem RowR.below {N G w1 C R W} (h:RowR N G w1 C R W):Below G w1 W:=by obtain ⟨vs,h⟩:=h; exact h.2.2.2.2.1
theorem RowR.ctx {N G w1 C R W} (h:RowR N G w1 C R W):C W:=by obtain ⟨vs,h⟩:=h; exact h.2.2.2.2.2
theorem RowR.len {N G w1 C R W} (h:RowR N G w1 C R W):R.length=N:=by obtain ⟨vs,h⟩:=h; exact h.2.2.1
theorem RowR.lt {N G w1 C R W} (h:RowR N G w1 C R W):G<W.heap.size:=by
  obtain ⟨vs,h,_⟩:=h
  exact (World.ownsRow.lt h G rfl).2
theorem RowR.get {N G w1 C R W} (h:RowR N G w1 C R W) {s:Nat} (hs:s<N):∃ v,W.cell? ⟨G,s,none⟩=some v∧SlI (rowAt R s) v W∧Apart (G+1) v:=by
  obtain ⟨vs,h0,h1,h2,h3,_⟩:=h
  have hl:s<vs.length:=by rw [h1]; exact hs
  refine ⟨vs[s],?_,h3 s _ (List.getElem?_eq_getElem hl)⟩
  rw [World.ownsRow.cellAt h0 s (by omega),List.getElem?_eq_getElem hl]
theorem RowR.frozen {N G w1 C R W} (h:RowR N G w1 C R W) (s:Nat):W.frozen? ⟨G,s,none⟩=false:=by
  obtain ⟨vs,h,_⟩:=h
  exact World.ownsRow.frozenAt h s
theorem RowR.next {N G w1 C R W W'} (h:RowR N G w1 C R W) (hC:Steady G C) (hG:G=w1.heap.size) (hb:Below W.heap.size W W'):RowR N G w1 C R W':=by
  obtain ⟨vs,h0,h1,h2,h3,h4,h5⟩:=h
  exact ⟨vs,owns_below h0 hb,h1,h2,fun i v hv=>⟨(h3 i v hv).1.next hb,(h3 i v hv).2⟩,below_then h4 hb (by rw [hG]; exact h4.size),hC.next h5 hb⟩
theorem RowR.drewN {N G w1 C R W} (h:RowR N G w1 C R W) (hC:Steady G C) (hG:G=w1.heap.size) (m:Nat):RowR N G w1 C R (W.drewN m):=h.next hC hG (below_drewN (Below.refl _ _) m)
theorem RowR.store {N G w1 C R W} (h:RowR N G w1 C R W) (hC:Steady G C) {s:Nat} {l:List Int} {v:Value} (hs:s<N) (hv:SlI l v W) (ha:Apart (G+1) v):RowR N G w1 C (R.set s l) (W.setCell ⟨G,s,none⟩ v):=by
  obtain ⟨vs,h0,h1,h2,h3,h4,h5⟩:=h
  refine ⟨vs.set s v,(World.ownsRow.stored h0 s v).1,by simpa using h1,by simpa using h2,fun i u hu=>?_,h4.setCell (p:=⟨G,s,none⟩) (Nat.le_refl _) _,hC.set _ _ h5⟩
  rw [rowAt_set (by rw [h2]; exact hs)]
  rw [List.getElem?_set] at hu
  by_cases e:s=i
  · subst e
    simp [h1,hs] at hu
    subst hu
    rw [if_pos rfl]
    exact ⟨hv.set ha _ _,ha⟩
  · rw [if_neg e] at hu
    rw [if_neg (fun h=>e h.symm)]
    exact ⟨(h3 i u hu).1.set (h3 i u hu).2 _ _,(h3 i u hu).2⟩
theorem RowR.slR {N G w1 C R W} (h:RowR N G w1 C R W):SlR R (.slice (some ⟨G,0,none⟩) N N) W:=by
  have hl:=h.lt
  have hlen:=h.len
  refine ⟨some ⟨G,0,none⟩,N,by rw [hlen],fun i l hi=>?_,(fun h=>by cases h),by rw [hlen]; exact Nat.le_refl _⟩
  have hi2:i<R.length:=(List.getElem?_eq_some_iff.1 hi).1
  obtain ⟨v,h1,h2,_⟩:=h.get (s:=i) (by omega)
  refine ⟨G,0,v,rfl,hl,by simpa using h1,?_⟩
  rw [rowAt_get hi2] at h2
  rw [List.getElem?_eq_getElem hi2] at hi
  cases hi
  exact h2
theorem info27:(Tryz.prog.info? 43).map (fun i=>(i.zero,i.size,i.bytes))=some (some (.slice none 0 0),1,24):=by kernel_rfl
theorem sli_nil (W:World):SlI [] (.slice none 0 0) W:=⟨none,0,rfl,RowAt.nil _ _ _,fun _=>rfl,Nat.le_refl _,by simp⟩
theorem RowR.made {N:Nat} {w1 W:World} {C:World→Prop} (h:W.ownsRow w1.heap.size 43 1 (.slice (some ⟨w1.heap.size,0,none⟩) N N) N (madeCells #[Value.slice none 0 0] N).toList) (hg:w1.grownBy W none) (hC:C W) :
    RowR N w1.heap.size w1 C (List.replicate N []) W:=by
  rw [toList_madeCells_one] at h
  refine ⟨List.replicate N (.slice none 0 0),h,by simp,by simp,fun i v hv=>?_,(Below.refl _ _).grown hg (Nat.le_refl _) (fun k e=>by cases e),hC⟩
  rw [List.getElem?_replicate] at hv
  split at hv
  · cases hv
    refine ⟨?_,Apart.none _ _ _⟩
    have:rowAt (List.replicate N []) i=[]:=by unfold rowAt; rw [List.getD_eq_getElem?_getD,List.getElem?_replicate]; split <;> rfl
    rw [this]
    exact sli_nil W
  · cases hv
end Go.Proofs.YtbilbgjojdlobaaGreatDoor
