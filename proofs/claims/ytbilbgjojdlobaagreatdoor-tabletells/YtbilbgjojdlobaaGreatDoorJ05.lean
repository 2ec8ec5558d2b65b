import Derived.Test.YtbilbgjojdlobaaGreatDoorJ01
import Derived.Test.YtbilbgjojdlobaaGreatDoorJ03
import Derived.Test.YtbilbgjojdlobaaGreatDoorJ04
import Derived.Lib.UnsafeStr
import Derived.Shelf.RegionOpenPlain

namespace Go.Proofs.YtbilbgjojdlobaaGreatDoor
open Classical in
theorem closI_exists {f:Fl} (hp:FitP f) (S:Ir→Prop):∃ L,ClosI f S L:=by
  let cands:List Ir:=(List.range 401).flatMap fun (p:Nat)=>(List.range 65).flatMap fun (d:Nat)=>(List.range 601).map fun (t:Nat)=>(((p:Int) - 1,(d:Int),(t:Int)):Ir)
  have hc:∀ x:Ir,fitI f x=true→x∈cands:=by
    intro x hx
    have h1:=fitI_iff.1 hx
    have h2:=rightI_le hp x.1
    have h3:=hp.prods
    have h4:f.terms.length+f.nons.length≤600:=hp.size
    refine List.mem_flatMap.2 ⟨(x.1+1).toNat,List.mem_range.2 (by omega),List.mem_flatMap.2 ⟨x.2.1.toNat,List.mem_range.2 (by omega),List.mem_map.2 ⟨x.2.2.toNat,List.mem_range.2 (by omega),?_⟩⟩⟩
    exact ir_ext (by simp only; omega) (by simp only; omega) (by simp only; omega)
  clear_value cands
  have key:∀ l:List Ir,RisingI (l.foldr putI [])∧∀ x,x∈l.foldr putI []↔x∈l:=by
    intro l
    induction l with
    | nil=>exact ⟨by simp [RisingI],by simp⟩
    | cons a l ih=>exact ⟨rising_putI ih.1,fun x=>by rw [List.foldr_cons,mem_putI,ih.2,List.mem_cons]⟩
  obtain ⟨k1,k2⟩:=key (cands.filter fun x=>decide (Cl f S x))
  refine ⟨_,k1,fun x=>(k2 x).trans ?_⟩
  rw [List.mem_filter,decide_eq_true_eq]
  exact ⟨fun h=>h.2,fun h=>⟨hc x (cl_fit h),h⟩⟩
theorem closF_spec {f:Fl} (hp:FitP f) (S:List Ir):ClosI f (fun x=>x∈S) (closF f S):=by
  obtain ⟨L,hL⟩:=closI_exists hp (fun x=>x∈S)
  rw [closF_eq hL]; exact hL
structure Kern (f:Fl) (K:List Ir):Prop where
  ne:K≠[]
  rise:RisingI K
  fit:∀ x∈K,fitI f x=true
  dot:∀ x∈K,0<x.2.1
theorem movedL_rise {f:Fl} {l:List Ir} {s:Int} (h:RisingI l):RisingI (movedL f l s):=by
  unfold movedL RisingI at *
  rw [List.pairwise_map]
  refine (h.filter _).imp (fun {a b} hab=>?_)
  unfold ltI at *
  simp only
  omega
theorem mem_movedL {f:Fl} {l:List Ir} {s:Int} {x:Ir}:x∈movedL f l s↔∃ y∈l,nextI f y=some s∧x=(y.1,y.2.1+1,y.2.2):=by
  unfold movedL
  simp only [List.mem_map,List.mem_filter,decide_eq_true_eq]
  constructor
  · rintro ⟨y,⟨h1,h2⟩,rfl⟩; exact ⟨y,h1,h2,rfl⟩
  · rintro ⟨y,h1,h2,rfl⟩; exact ⟨y,⟨h1,h2⟩,rfl⟩
theorem movedL_kern {f:Fl} {l:List Ir} {s:Int} (h:RisingI l) (hne:movedL f l s≠[]):Kern f (movedL f l s) :=
  ⟨hne,movedL_rise h,movedL_fit,fun x hx=>by
    obtain ⟨y,_,hn,rfl⟩:=mem_movedL.1 hx
    have:=fitI_iff.1 (nextI_fit hn)
    simp only
    omega⟩
theorem Kern.mem {f:Fl} (hp:FitP f) {K:List Ir} (h:Kern f K) (x:Ir):x∈K↔x∈closF f K∧0<x.2.1:=by
  rw [(closF_spec hp K).2 x]
  constructor
  · intro hx; exact ⟨.base hx (h.fit x hx),h.dot x hx⟩
  · rintro ⟨hc,hd⟩
    rcases cl_dot hc with h | h
    · exact h
    · omega
theorem Kern.inj {f:Fl} (hp:FitP f) {K M:List Ir} (h:Kern f K) (k:Kern f M) (e:closF f K=closF f M):K=M :=
  risingI_ext h.rise k.rise (fun x=>by rw [h.mem hp,k.mem hp,e])
theorem closF_ne {f:Fl} (hp:FitP f) {K:List Ir} (h:Kern f K):closF f K≠[]:=by
  obtain ⟨x,l,rfl⟩:=List.exists_cons_of_ne_nil h.ne
  intro e
  have:=((h.mem hp x).1 (by simp)).1
  rw [e] at this; cases this
theorem closF_nil {f:Fl} (hp:FitP f):closF f []=[]:=by
  have h:=closF_spec hp ([]:List Ir)
  refine List.eq_nil_iff_forall_not_mem.2 (fun x hx=>?_)
  have:=(h.2 x).1 hx
  exact (cl_least (A:=fun _=>False) (fun x h _=>by cases h) (fun _ _ _ _ _ h _ _ _ _=>h) this)
theorem Kern.beg {f:Fl} (hp:FitP f) {K:List Ir} (h:Kern f K):closF f K≠closF f (begL f):=by
  obtain ⟨x,l,rfl⟩:=List.exists_cons_of_ne_nil h.ne
  intro e
  have h1:=(h.mem hp x).1 (by simp)
  rw [e,(closF_spec hp _).2 x] at h1
  rcases cl_dot h1.1 with h2 | h2
  · simp [begL] at h2; subst h2; exact absurd h1.2 (by simp)
  · omega
def kernsFrom (f:Fl) (l:List Ir) (s k:Nat):List (List Ir):=((List.range' s k).map fun (s:Nat)=>movedL f l (s:Int)).filter fun K=>!K.isEmpty
def kernsL (f:Fl) (l:List Ir):List (List Ir):=kernsFrom f l 0 f.n
def rowK:List (List Ir)→List (List Ir)→Option (List (List Ir))
  | [],T=>some T
  | K :: Ks,T=>if K∈T then rowK Ks T else if T.length+1=600 then none else rowK Ks (T++[K])
theorem rowK_append:∀ (a b T:List (List Ir)),rowK (a++b) T=(rowK a T).bind (rowK b)
  | [],b,T=>rfl
  | K :: a,b,T=>by
    simp only [List.cons_append,rowK]
    split
    · exact rowK_append a b T
    · split
      · rfl
      · exact rowK_append a b _
theorem kernsFrom_succ (f:Fl) (l:List Ir) (s k:Nat):kernsFrom f l s (k+1)=(if movedL f l (s:Int)=[] then [] else [movedL f l (s:Int)])++kernsFrom f l (s+1) k:=by
  unfold kernsFrom
  rw [List.range'_succ,List.map_cons,List.filter_cons]
  by_cases h:movedL f l (s:Int)=[]
  · rw [if_pos h,h]; simp
  · rw [if_neg h,if_pos (by simp [h])]; rfl
theorem kernsL_kern {f:Fl} {l:List Ir} (h:RisingI l):∀ K∈kernsL f l,Kern f K:=by
  intro K hK
  unfold kernsL kernsFrom at hK
  obtain ⟨h1,h2⟩:=List.mem_filter.1 hK
  obtain ⟨s,_,rfl⟩:=List.mem_map.1 h1
  exact movedL_kern h (by simpa using h2)
def Met (f:Fl) (T:List (List Ir)):Prop:=∀ K∈T,Kern f K
noncomputable def setsOf (f:Fl) (T:List (List Ir)):List (List Ir):=closF f (begL f) :: T.map (closF f)
theorem mem_setsOf {f:Fl} (hp:FitP f) {T:List (List Ir)} (hT:Met f T) {K:List Ir} (hK:Kern f K):closF f K∈setsOf f T↔K∈T:=by
  unfold setsOf
  rw [List.mem_cons,List.mem_map]
  constructor
  · rintro (h | ⟨M,hM,e⟩)
    · exact absurd h (hK.beg hp)
    · rw [← (hT M hM).inj hp hK e]; exact hM
  · intro h; exact .inr ⟨K,h,rfl⟩
theorem rowA_rowK {f:Fl} (hp:FitP f) {l:List Ir} (hl:RisingI l):∀ (k s:Nat) (T:List (List Ir)),Met f T→T.length+1≤600 →
    rowA f l s k (setsOf f T)=(rowK (kernsFrom f l s k) T).map (setsOf f)
  | 0,s,T,_,_=>by simp [rowA,kernsFrom,rowK]
  | k+1,s,T,hT,hlen=>by
    rw [rowA,kernsFrom_succ]
    have hsl:(setsOf f T).length=T.length+1:=by simp [setsOf]
    unfold gotoF
    by_cases h:movedL f l (s:Int)=[]
    · rw [if_pos h,h,closF_nil hp,addA_nil,if_neg (by omega),List.nil_append]
      exact rowA_rowK hp hl k (s+1) T hT hlen
    · have hK:=movedL_kern hl h
      rw [if_neg h,List.singleton_append,rowK]
      by_cases hin:movedL f l (s:Int)∈T
      · rw [if_pos hin,addA_old ((mem_setsOf hp hT hK).2 hin),if_neg (by omega)]
        exact rowA_rowK hp hl k (s+1) T hT hlen
      · rw [if_neg hin,addA_new (closF_ne hp hK) (fun h=>hin ((mem_setsOf hp hT hK).1 h))]
        by_cases h6:T.length+1=600
        · rw [if_pos h6,if_pos (by simp [hsl,h6])]; rfl
        · rw [if_neg h6,if_neg (by simp [hsl]; omega)]
          have e:setsOf f T++[closF f (movedL f l (s:Int))]=setsOf f (T++[movedL f l (s:Int)]):=by simp [setsOf]
          rw [e]
          refine rowA_rowK hp hl k (s+1) _ (fun K hK'=>?_) (by simp; omega)
          rcases List.mem_append.1 hK' with h' | h'
          · exact hT K h'
          · simp at h'; subst h'; exact hK
theorem rowK_met {f:Fl}:∀ (Ks T T':List (List Ir)),(∀ K∈Ks,Kern f K)→Met f T→T.Nodup→T.length+1≤600→rowK Ks T=some T'→Met f T'∧T'.Nodup∧T'.length+1≤600∧T <+: T'
  | [],T,T',_,hT,hn,hl,h=>by
    simp only [rowK,Option.some.injEq] at h
    subst h; exact ⟨hT,hn,hl,List.prefix_refl _⟩
  | K :: Ks,T,T',hK,hT,hn,hl,h=>by
    rw [rowK] at h
    split at h
    · exact rowK_met Ks T T' (fun K hk=>hK K (by simp [hk])) hT hn hl h
    · split at h
      · cases h
      · rename_i h1 h2
        obtain ⟨k1,k2,k3,k4⟩:=rowK_met Ks (T++[K]) T' (fun K hk=>hK K (by simp [hk])) (fun M hM=>by
          rcases List.mem_append.1 hM with h' | h'
          · exact hT M h'
          · simp at h'; subst h'; exact hK M (by simp)) (by
          rw [List.nodup_append]
          refine ⟨hn,by simp,fun a ha b hb=>?_⟩
          simp at hb; subst hb
          rintro rfl; exact h1 ha) (by simp; omega) h
        exact ⟨k1,k2,k3,(List.prefix_append _ _).trans k4⟩
theorem setsOf_get {f:Fl} {T:List (List Ir)} {i:Nat} {K:List Ir} (h:(begL f :: T)[i]?=some K):(setsOf f T)[i]?=some (closF f K):=by
  have e:setsOf f T=(begL f :: T).map (closF f):=by simp [setsOf]
  rw [e,List.getElem?_map,h]; rfl
theorem run_step {f:Fl} (hp:FitP f) {T:List (List Ir)} {i:Nat} {K:List Ir} (hT:Met f T) (hl:T.length+1≤600) (hi:i≤600) (h:(begL f :: T)[i]?=some K) :
    runA f (601 - i) i (setsOf f T)=(rowK (kernsL f (closF f K)) T).bind fun T'=>runA f (600 - i) (i+1) (setsOf f T'):=by
  rw [show 601 - i=(600 - i)+1 by omega,runA,setsOf_get h]
  simp only
  rw [rowA_rowK hp (closF_spec hp K).1 f.n 0 T hT hl]
  unfold kernsL
  cases rowK (kernsFrom f (closF f K) 0 f.n) T <;> rfl
theorem run_start (f:Fl):allF f=runA f (601 - 0) 0 (setsOf f []):=rfl
theorem run_end {f:Fl} {T:List (List Ir)} {i:Nat} (hi:i=T.length+1) (h:i≤600):runA f (601 - i) i (setsOf f T)=some (setsOf f T):=runA_end (by simp [setsOf,hi]) h
end Go.Proofs.YtbilbgjojdlobaaGreatDoor
namespace Go.Proofs.YtbilbgjojdlobaaGreatDoor
theorem addA_prefix (A:List (List Ir)) (g:List Ir):A <+: addA A g:=by
  unfold addA
  split
  · exact List.prefix_append _ _
  · exact List.prefix_refl _
theorem addA_nodup {A:List (List Ir)} {g:List Ir} (h:A.Nodup):(addA A g).Nodup:=by
  unfold addA
  split
  · rename_i hg
    rw [List.nodup_append]
    refine ⟨h,by simp,fun a ha b hb=>?_⟩
    simp at hb; subst hb
    rintro rfl; exact hg.2 ha
  · exact h
theorem addA_mem {A:List (List Ir)} {g:List Ir} (h:g≠[]):g∈addA A g:=by
  unfold addA
  split
  · simp
  · rename_i hg
    exact Classical.byContradiction fun hn=>hg ⟨h,hn⟩
theorem rowA_facts {f:Fl} {l:List Ir}:∀ (k s:Nat) (A A':List (List Ir)),rowA f l s k A=some A'→A.length≤600→A.Nodup→A <+: A'∧A'.Nodup∧A'.length≤600∧∀ s':Nat,s≤s'→s'<s+k→gotoF f l s'≠[]→gotoF f l s'∈A'
  | 0,s,A,A',h,hl,hn=>by
    simp only [rowA,Option.some.injEq] at h
    subst h
    exact ⟨List.prefix_refl _,hn,hl,fun s' h1 h2=>by omega⟩
  | k+1,s,A,A',h,hl,hn=>by
    rw [rowA] at h
    split at h
    · cases h
    · rename_i hle
      obtain ⟨h1,h2,h3,h4⟩:=rowA_facts k (s+1) _ A' h (by omega) (addA_nodup hn)
      refine ⟨(addA_prefix A _).trans h1,h2,h3,fun s' k1 k2 hne=>?_⟩
      rcases Nat.eq_or_lt_of_le k1 with e | e
      · subst e
        exact h1.subset (addA_mem hne)
      · exact h4 s' e (by omega) hne
theorem runA_facts {f:Fl}:∀ (k i:Nat) (A A':List (List Ir)),runA f k i A=some A'→k+i=601→A.length≤600→A.Nodup→(∀ (j:Nat) (l:List Ir),j<i→A[j]?=some l→∀ s:Nat,s<f.n→gotoF f l s≠[]→gotoF f l s∈A) →
    A <+: A'∧A'.Nodup∧A'.length≤600∧∀ (j:Nat) (l:List Ir),A'[j]?=some l→∀ s:Nat,s<f.n→gotoF f l s≠[]→gotoF f l s∈A'
  | 0,i,A,A',h,hi,hl,hn,hc=>by
    simp only [runA,Option.some.injEq] at h
    subst h
    exact ⟨List.prefix_refl _,hn,hl,fun j l hj=>hc j l (by have:=(List.getElem?_eq_some_iff.1 hj).1; omega) hj⟩
  | k+1,i,A,A',h,hi,hl,hn,hc=>by
    rw [runA] at h
    cases hA:A[i]? with
    | none =>
      rw [hA] at h
      simp only [Option.some.injEq] at h
      subst h
      have:=List.getElem?_eq_none_iff.1 hA
      exact ⟨List.prefix_refl _,hn,hl,fun j l hj=>hc j l (by have:=(List.getElem?_eq_some_iff.1 hj).1; omega) hj⟩
    | some l =>
      rw [hA] at h
      simp only at h
      cases hr:rowA f l 0 f.n A with
      | none=>rw [hr] at h; cases h
      | some A2 =>
        rw [hr] at h
        simp only at h
        obtain ⟨h1,h2,h3,h4⟩:=rowA_facts f.n 0 A A2 hr hl hn
        obtain ⟨k1,k2,k3,k4⟩:=runA_facts k (i+1) A2 A' h (by omega) h3 h2 (fun j l' hj hl' s hs hne=>by
          have hli:=(List.getElem?_eq_some_iff.1 hA).1
          obtain ⟨r,rfl⟩:=h1
          rw [List.getElem?_append_left (by omega)] at hl'
          rcases Nat.lt_or_ge j i with e | e
          · exact List.mem_append_left _ (hc j l' e hl' s hs hne)
          · obtain rfl:j=i:=by omega
            rw [hA] at hl'; cases hl'
            exact h4 s (by omega) (by omega) hne)
        exact ⟨h1.trans k1,k2,k3,k4⟩
theorem all_facts {f:Fl} {A:List (List Ir)} (h:allF f=some A):A[0]?=some (closF f (begL f))∧A.Nodup∧∀ (j:Nat) (l:List Ir),A[j]?=some l→∀ s:Nat,s<f.n→gotoF f l s≠[]→gotoF f l s∈A:=by
  obtain ⟨h1,h2,h3,h4⟩:=runA_facts 601 0 [closF f (begL f)] A h rfl (by simp) (by simp) (fun j l hj=>by omega)
  refine ⟨?_,h2,h4⟩
  obtain ⟨r,rfl⟩:=h1
  rfl
theorem findI_nodup {A:List (List Ir)} (hn:A.Nodup) {i:Nat} (hi:i<A.length):findI A A[i]=i :=
  findI_at (fun k hk hki e=>by
    have:=(List.pairwise_iff_getElem.1 hn) k i hk hi hki
    exact this e) hi rfl
end Go.Proofs.YtbilbgjojdlobaaGreatDoor
namespace Go.Proofs.YtbilbgjojdlobaaGreatDoor
def redL (f:Fl) (l:List Ir) (t:Int):List Int:=(l.filter fun x=>decide (nextI f x=none∧x.2.2=t∧0≤x.1)).map (·.1)
def accL (f:Fl) (l:List Ir) (t:Int):Bool:=l.any fun x=>decide (nextI f x=none∧x.2.2=t∧x.1<0)
def endL (f:Fl) (l:List Ir) (t:Int):Bool:=l.any fun x=>decide (nextI f x=none∧x.2.2=t)
noncomputable def toF (f:Fl) (R:List (List Ir)) (l:List Ir) (s:Nat):Option Int:=if movedL f l (s:Int)=[] then none else some (findI R (gotoF f l s):Int)
noncomputable def goRow (f:Fl) (R:List (List Ir)) (l:List Ir):List (Int × Int):=(List.range f.n).filterMap fun s=>(toF f R l s).map fun (t:Int)=>((s:Int),t)
noncomputable def actAt (f:Fl) (R:List (List Ir)) (l:List Ir) (t:Nat):Ac:=⟨t,if t<f.terms.length then (toF f R l t).getD (-1) else -1,redL f l t,accL f l t⟩
def someA (a:Ac):Bool:=decide (0≤a.to∨a.acc=true∨a.red≠[])
noncomputable def actRow (f:Fl) (R:List (List Ir)) (l:List Ir):List Ac:=((List.range (f.terms.length+1)).map (actAt f R l)).filter someA
noncomputable def rowT (f:Fl) (R:List (List Ir)) (l:List Ir):Rw:=⟨actRow f R l,goRow f R l⟩
noncomputable def tabF (f:Fl):Option (List Rw):=(allF f).map fun R=>R.map (rowT f R)
theorem redL_append (f:Fl) (l m:List Ir) (t:Int):redL f (l++m) t=redL f l t++redL f m t:=by simp [redL]
theorem accL_append (f:Fl) (l m:List Ir) (t:Int):accL f (l++m) t=(accL f l t || accL f m t):=by simp [accL]
theorem endL_append (f:Fl) (l m:List Ir) (t:Int):endL f (l++m) t=(endL f l t || endL f m t):=by simp [endL]
theorem movedL_append (f:Fl) (l m:List Ir) (s:Int):movedL f (l++m) s=movedL f l s++movedL f m s:=by simp [movedL]
theorem endL_iff (f:Fl) (l:List Ir) (t:Int):endL f l t=true↔redL f l t≠[]∨accL f l t=true:=by
  simp only [endL,accL,redL,List.any_eq_true,decide_eq_true_eq,ne_eq,List.map_eq_nil_iff,List.filter_eq_nil_iff,Classical.not_forall]
  constructor
  · rintro ⟨x,hx,h1,h2⟩
    rcases (by omega:x.1<0∨0≤x.1) with h | h
    · exact .inr ⟨x,hx,h1,h2,h⟩
    · exact .inl ⟨x,hx,fun hn=>hn ⟨h1,h2,h⟩⟩
  · rintro (⟨x,hx,h⟩ | ⟨x,hx,h1,h2,_⟩)
    · simp only [Classical.not_not] at h
      exact ⟨x,hx,h.1,h.2.1⟩
    · exact ⟨x,hx,h1,h2⟩
theorem endL_look {f:Fl} {l:List Ir} (hl:∀ x∈l,fitI f x=true) {t:Int} (h:endL f l t=true):0≤t∧t≤f.terms.length:=by
  simp only [endL,List.any_eq_true,decide_eq_true_eq] at h
  obtain ⟨x,hx,_,rfl⟩:=h
  have:=fitI_iff.1 (hl x hx)
  omega
def enc2 (n:Int):List UInt8:=[UInt8.ofNat ((n / 256) % 256).toNat,UInt8.ofNat (n % 256).toNat]
def encN (l:List Int):List UInt8:=l.flatMap enc2
def badN (l:List Int):Bool:=l.any fun n=>decide (n<0∨n > 65535)
def encT (x:Ir):List UInt8:=encN [x.1+1,x.2.1,x.2.2]
def keyT (K:List Ir):List UInt8:=K.flatMap encT
theorem encT_len (x:Ir):(encT x).length=6:=rfl
theorem keyT_len:∀ K:List Ir,(keyT K).length=6 * K.length
  | []=>rfl
  | x :: K=>by
    have:=keyT_len K
    unfold keyT at this ⊢
    rw [List.flatMap_cons,List.length_append,this,encT_len,List.length_cons]
    omega
theorem keyT_nil {K:List Ir}:keyT K=[]↔K=[]:=by
  constructor
  · intro h
    have:=keyT_len K
    rw [h] at this
    exact List.length_eq_zero_iff.1 (by simp at this; omega)
  · rintro rfl; rfl
theorem keyT_append (K M:List Ir):keyT (K++M)=keyT K++keyT M:=by simp [keyT]
theorem enc2_inj {a b:Int} (ha:0≤a∧a≤65535) (hb:0≤b∧b≤65535) (h:enc2 a=enc2 b):a=b:=by
  simp only [enc2,List.cons.injEq,and_true] at h
  obtain ⟨h1,h2⟩:=h
  have e1:=congrArg UInt8.toNat h1
  have e2:=congrArg UInt8.toNat h2
  simp only [UInt8.toNat_ofNat'] at e1 e2
  omega
def FitT (x:Ir):Prop:=0≤x.1+1∧x.1+1≤65535∧0≤x.2.1∧x.2.1≤65535∧0≤x.2.2∧x.2.2≤65535
theorem encT_inj {x y:Ir} (hx:FitT x) (hy:FitT y) (h:encT x=encT y):x=y:=by
  unfold FitT at hx hy
  unfold encT encN at h
  simp only [List.flatMap_cons,List.flatMap_nil,List.append_nil] at h
  have l2:∀ n:Int,(enc2 n).length=2:=fun _=>rfl
  obtain ⟨h1,h'⟩:=List.append_inj h (by rw [l2,l2])
  obtain ⟨h2,h3⟩:=List.append_inj h' (by rw [l2,l2])
  have e1:=enc2_inj ⟨hx.1,hx.2.1⟩ ⟨hy.1,hy.2.1⟩ h1
  have e2:=enc2_inj ⟨hx.2.2.1,hx.2.2.2.1⟩ ⟨hy.2.2.1,hy.2.2.2.1⟩ h2
  have e3:=enc2_inj ⟨hx.2.2.2.2.1,hx.2.2.2.2.2⟩ ⟨hy.2.2.2.2.1,hy.2.2.2.2.2⟩ h3
  exact ir_ext (by omega) e2 e3
theorem keyT_inj:∀ {K M:List Ir},(∀ x∈K,FitT x)→(∀ x∈M,FitT x)→keyT K=keyT M→K=M
  | [],M,_,_,h=>(keyT_nil.1 h.symm).symm
  | x :: K,[],_,_,h=>keyT_nil.1 h
  | x :: K,y :: M,hK,hM,h=>by
    unfold keyT at h
    rw [List.flatMap_cons,List.flatMap_cons] at h
    obtain ⟨h1,h2⟩:=List.append_inj h (by rw [encT_len,encT_len])
    rw [encT_inj (hK x (by simp)) (hM y (by simp)) h1,keyT_inj (fun z hz=>hK z (by simp [hz])) (fun z hz=>hM z (by simp [hz])) h2]
theorem fitT_of {f:Fl} (hp:FitP f) {x:Ir} (h:fitI f x=true):FitT x:=by
  have h1:=fitI_iff.1 h
  have h2:=rightI_le hp x.1
  have h3:=hp.prods
  have h4:f.terms.length+f.nons.length≤600:=hp.size
  unfold FitT
  omega
def dotL (l:List Ir):List Ir:=l.filter fun x=>decide (0<x.2.1)
theorem dotL_append (l m:List Ir):dotL (l++m)=dotL l++dotL m:=by simp [dotL]
theorem dotL_kern {f:Fl} (hp:FitP f) {K:List Ir} (h:Kern f K):dotL (closF f K)=K:=by
  refine risingI_ext ?_ h.rise (fun x=>?_)
  · exact List.Pairwise.filter _ (closF_spec hp K).1
  · rw [h.mem hp x]
    simp [dotL]
theorem dotL_beg {f:Fl} (hp:FitP f):dotL (closF f (begL f))=[]:=by
  refine List.eq_nil_iff_forall_not_mem.2 (fun x hx=>?_)
  simp only [dotL,List.mem_filter,decide_eq_true_eq] at hx
  rw [(closF_spec hp _).2 x] at hx
  rcases cl_dot hx.1 with h2 | h2
  · simp [begL] at h2; subst h2; exact absurd hx.2 (by simp)
  · omega
theorem sets_of_run {f:Fl} (hp:FitP f):∀ (m i:Nat) (T R:List (List Ir)),m=601 - i→Met f T→T.Nodup→T.length+1≤600→i≤T.length+1→runA f (601 - i) i (setsOf f T)=some R→∃ T',R=setsOf f T'∧Met f T'∧T'.Nodup∧T'.length+1≤600
  | 0,i,T,R,hm,_,_,hl,hi,_=>by omega
  | m+1,i,T,R,hm,hT,hn,hl,hi,h=>by
    by_cases he:i=T.length+1
    · rw [run_end he (by omega)] at h
      exact ⟨T,(Option.some.inj h).symm,hT,hn,hl⟩
    · have hlt:i<(begL f :: T).length:=by rw [List.length_cons]; omega
      have hK:(begL f :: T)[i]?=some (begL f :: T)[i]:=List.getElem?_eq_getElem hlt
      rw [run_step hp hT hl (by omega) hK] at h
      cases hr:rowK (kernsL f (closF f (begL f :: T)[i])) T with
      | none=>rw [hr] at h; cases h
      | some T' =>
        rw [hr] at h
        obtain ⟨k1,k2,k3,k4⟩:=rowK_met _ T T' (kernsL_kern (closF_spec hp _).1) hT hn hl hr
        have:=k4.length_le
        exact sets_of_run hp m (i+1) T' R (by omega) k1 k2 k3 (by omega) (by rw [show 601 - (i+1)=600 - i by omega]; exact h)
theorem all_sets {f:Fl} (hp:FitP f) {R:List (List Ir)} (h:allF f=some R):∃ T,R=setsOf f T∧Met f T∧T.Nodup∧T.length+1≤600 :=
  sets_of_run hp 601 0 [] R rfl (fun K hK=>by cases hK) List.nodup_nil (by simp) (by simp) (by rw [← run_start]; exact h)
theorem goto_place {f:Fl} (hp:FitP f) {R:List (List Ir)} (h:allF f=some R) {i:Nat} {l:List Ir} (hl:R[i]?=some l) {s:Nat} (hs:s<f.n) (hne:movedL f l (s:Int)≠[]) :
    ∃ j,∃ hj:j<R.length,dotL R[j]=movedL f l (s:Int)∧findI R (gotoF f l s)=j:=by
  obtain ⟨T,rfl,hT,hn,hlen⟩:=all_sets hp h
  obtain ⟨h0,hnd,hcl⟩:=all_facts h
  have hrise:RisingI l:=by
    have hm:=List.mem_of_getElem? hl
    unfold setsOf at hm
    rcases List.mem_cons.1 hm with rfl | hm
    · exact (closF_spec hp _).1
    · obtain ⟨K,_,rfl⟩:=List.mem_map.1 hm
      exact (closF_spec hp _).1
  have hK:=movedL_kern hrise hne
  have hg:gotoF f l s=closF f (movedL f l (s:Int)):=rfl
  have hm:=hcl i l hl s hs (by rw [hg]; exact closF_ne hp hK)
  obtain ⟨j,hj,e⟩:=List.getElem_of_mem hm
  refine ⟨j,hj,?_,by rw [← e]; exact findI_nodup hnd hj⟩
  rw [e,hg]; exact dotL_kern hp hK
theorem keys_apart {f:Fl} (hp:FitP f) {R:List (List Ir)} (h:allF f=some R) {i j:Nat} (hi:i<R.length) (hj:j<R.length) (e:keyT (dotL R[i])=keyT (dotL R[j])):i=j:=by
  obtain ⟨T,rfl,hT,hn,hlen⟩:=all_sets hp h
  have hd:∀ (i:Nat) (hi:i<(setsOf f T).length),(i=0∧dotL (setsOf f T)[i]=[])∨∃ k,∃ hk:k<T.length,i=k+1∧dotL (setsOf f T)[i]=T[k]:=fun i hi=>by
    rcases i with _ | k
    · exact .inl ⟨rfl,dotL_beg hp⟩
    · have hk:k<T.length:=by simp [setsOf] at hi; omega
      exact .inr ⟨k,hk,rfl,by simp only [setsOf,List.getElem_cons_succ,List.getElem_map]; exact dotL_kern hp (hT _ (List.getElem_mem hk))⟩
  have hf:∀ (k:Nat) (hk:k<T.length),∀ x∈T[k],FitT x:=fun k hk x hx=>fitT_of hp ((hT _ (List.getElem_mem hk)).fit x hx)
  rcases hd i hi with ⟨rfl,ei⟩ | ⟨a,ha,rfl,ei⟩
  · rcases hd j hj with ⟨rfl,_⟩ | ⟨b,hb,rfl,ej⟩
    · rfl
    · rw [ei,ej] at e
      exact absurd (keyT_nil.1 e.symm) (hT _ (List.getElem_mem hb)).ne
  · rcases hd j hj with ⟨rfl,ej⟩ | ⟨b,hb,rfl,ej⟩
    · rw [ei,ej] at e
      exact absurd (keyT_nil.1 e) (hT _ (List.getElem_mem ha)).ne
    · rw [ei,ej] at e
      have:=keyT_inj (hf a ha) (hf b hb) e
      rw [(List.getElem_inj hn).1 this]
theorem sets_fit {f:Fl} (hp:FitP f) {R:List (List Ir)} (h:allF f=some R) {l:List Ir} (hl:l∈R):RisingI l∧∀ x∈l,fitI f x=true:=by
  obtain ⟨T,rfl,hT,hn,hlen⟩:=all_sets hp h
  unfold setsOf at hl
  rcases List.mem_cons.1 hl with rfl | hm
  · exact ⟨(closF_spec hp _).1,fun x hx=>cl_fit (((closF_spec hp _).2 x).1 hx)⟩
  · obtain ⟨K,_,rfl⟩:=List.mem_map.1 hm
    exact ⟨(closF_spec hp _).1,fun x hx=>cl_fit (((closF_spec hp _).2 x).1 hx)⟩
end Go.Proofs.YtbilbgjojdlobaaGreatDoor
namespace Go.Proofs.YtbilbgjojdlobaaGreatDoor
open Go.RowKit
theorem encN_take {l:List Int} {j:Nat} (h:j<l.length):encN (l.take (j+1))=encN (l.take j)++enc2 l[j]:=by
  unfold encN
  rw [List.take_succ_eq_append_getElem h,List.flatMap_append]
  simp
theorem badN_take {l:List Int} {j:Nat} (h:j<l.length):badN (l.take (j+1))=(badN (l.take j) || decide (l[j]<0∨l[j] > 65535)):=by
  unfold badN
  rw [List.take_succ_eq_append_getElem h,List.any_append]
  simp
theorem encN_len:∀ (l:List Int),(encN l).length=2 * l.length
  | []=>rfl
  | x :: l=>by
    have:=encN_len l
    unfold encN at this ⊢
    rw [List.flatMap_cons,List.length_append,this,List.length_cons]
    show 2+_=_
    omega
theorem u8_wrap {q:Int}:IntKind.u8.wrap q=((UInt8.ofNat (q % 256).toNat).toNat:Int):=by
  simp [IntKind.wrap,IntKind.bits,IntKind.signed]
  omega
set_option maxRecDepth 100000 in
set_option maxHeartbeats 2000000 in
theorem numbers_any {B g i:Nat} {L:List Wr} {x:Wr} (l:List Int) (v:Value) (w:World) (hl:SlI l v w) (h:WsAt B g L w) (hx:L[i]?=some x) (hap:∀ ad n c,v=.slice (some ad) n c→l≠[]→¬ inW g w ad.block) (hll:l.length≤1000000) (hbl:x.bs.length≤100000000) (hBw:B≤w.heap.size) :
    Calls Tryz.prog 85 #[.pointer (some ⟨g,i * 3,none⟩),v] w fun e w'=>e=.returned (.tuple #[])∧WsAt B g (L.set i ⟨x.bs++encN l,x.bad || badN l⟩) w'∧Wrote g w w':=by
  have HB:Hid (∀ (u:UInt8) (L':List Wr) (y:Wr) W,WsAt B g L' W→L'[i]?=some y→y.bs.length≤1000000000→B≤W.heap.size→Calls Tryz.prog 117 #[.pointer (some ⟨g,i * 3,none⟩),.int .u8 u.toNat] W fun e w'=>e=.returned .nilIface∧WsAt B g (L'.set i ⟨y.bs++[u],y.bad⟩) w'∧Wrote g W w'):=fun u L' y W h1 h2 h3 h4=>byte_any u W h1 h2 h3 h4
  have hlt0:i<L.length:=(List.getElem?_eq_some_iff.1 hx).1
  have HL:Hid (∀ W,Wrote g w W→SlI l v W):=fun W hW=>by
    obtain ⟨la,lc,rfl,hr,h1,h2,h3⟩:=hl
    refine ⟨la,lc,rfl,fun k y hk=>?_,h1,h2,h3⟩
    obtain ⟨b,off,e0,hb,hc⟩:=hr k y hk
    refine ⟨b,off,e0,Nat.lt_of_lt_of_le hb hW.1.size,?_⟩
    rw [← hc]
    exact hW.1.cell (p:=⟨b,off+k,none⟩) hb (hap ⟨b,off,none⟩ _ _ (by rw [e0]) (by rintro rfl; simp at hk))
  obtain ⟨la,lc,rfl,_⟩:=hl
  obtain ⟨o,ho⟩:∃ o,i * 3=o:=⟨_,rfl⟩
  have HW0:Hid (WsAt B g (L.set i ⟨x.bs++encN (l.take 0),x.bad || badN (l.take 0)⟩) w):=by
    show WsAt _ _ _ _
    have e:L.set i ⟨x.bs++encN (l.take 0),x.bad || badN (l.take 0)⟩=L:=by
      have:(⟨x.bs++encN (l.take 0),x.bad || badN (l.take 0)⟩:Wr)=x:=by simp [encN,badN]
      rw [this]
      obtain ⟨hi',e⟩:=List.getElem?_eq_some_iff.1 hx
      rw [← e]; exact List.set_getElem_self _
    rw [e]; exact h
  clear h hap
  rw [ho] at HB ⊢
  go_enter Tryz.func85,Tryz.ntmps85
  go_wp2_with fail
  go_loopw [8] (fun iv wr=>∃ (j:Nat),iv=.int .i64 j∧j≤l.length∧WsAt B g (L.set i ⟨x.bs++encN (l.take j),x.bad || badN (l.take j)⟩) wr∧Wrote g w wr) (fun i _=>l.length - (intOf i).toNat)
  case atStart=>exact ⟨0,rfl,Nat.zero_le _,HW0.out,Wrote.refl _ _⟩
  case round =>
  clear HW0
  obtain ⟨j,rfl,hj,hW,hw⟩:=hrel
  by_cases hlt:j<l.length
  case neg =>
    obtain rfl:j=l.length:=by omega
    rw [List.take_of_length_le (Nat.le_refl _)] at hW
    have HR:Hid (WsAt B g (L.set i ⟨x.bs++encN l,x.bad || badN l⟩) wr∧Wrote g w wr):=⟨hW,hw⟩
    clear hW hw HL HB
    go_wp2_with fail
    go_end0
    exact ⟨rfl,HR.out⟩
  obtain ⟨_,_,e0,hrl,_⟩:=HL.out _ hw
  cases e0
  obtain ⟨b2,o2,rfl,hb2,p0⟩:=hrl.at (Below.refl _ _) hlt
  unfold encI at p0
  have hek:=encN_take hlt
  have hbk:=badN_take hlt
  have hel:(encN (l.take j)).length≤2000000:=by rw [encN_len,List.length_take]; omega
  have hsz:=hw.1.size
  generalize l[j]=p at *
  generalize encN (l.take j)=E at *
  generalize badN (l.take j)=Bd at *
  have HEK:Hid (encN (l.take (j+1))=E++enc2 p):=hek
  have HBK:Hid (badN (l.take (j+1))=(Bd || decide (p<0∨p > 65535))):=hbk
  have HW:Hid (WsAt B g (L.set i ⟨x.bs++E,x.bad || Bd⟩) wr∧Wrote g w wr):=⟨hW,hw⟩
  have hset:∀ y,(L.set i y)[i]?=some y:=fun y=>by rw [List.getElem?_set_self hlt0]
  have HST:Hid (∀ y,(L.set i y)[i]?=some y):=hset
  obtain ⟨cs,hc,hs⟩:=hW.blk
  have hf2:wr.frozen? ⟨g,o+2,none⟩=false:=Lib.frozen_of_heap hc _
  have hcb:=hW.bad i _ (hset _)
  rw [ho] at hcb
  obtain ⟨u1,hu1⟩:∃ u,UInt8.ofNat ((p / 256) % 256).toNat=u:=⟨_,rfl⟩
  obtain ⟨u2,hu2⟩:∃ u,UInt8.ofNat (p % 256).toNat=u:=⟨_,rfl⟩
  have hwb1:IntKind.u8.wrap (p / 256)=(u1.toNat:Int):=by rw [← hu1]; exact u8_wrap
  have hwb2:IntKind.u8.wrap p=(u2.toNat:Int):=by rw [← hu2]; exact u8_wrap
  have HU:Hid (enc2 p=[u1,u2]):=by show _=_; rw [← hu1,← hu2]; rfl
  clear hu1 hu2
  by_cases hbad:p<0∨p > 65535
  · obtain ⟨BD,hBD⟩:∃ BD:Bool,true=BD:=⟨_,rfl⟩
    have HBD:Hid (((x.bad || Bd) || decide (p<0∨p > 65535))=BD):=by show _=_; rw [decide_eq_true hbad,← hBD]; simp
    have HS:=hW.setBad true (hset _)
    rw [ho] at HS
    have HW1:Hid (WsAt B g (L.set i ⟨x.bs++E,BD⟩) (wr.setCell ⟨g,o+2,none⟩ (.bool true))∧Wrote g w (wr.setCell ⟨g,o+2,none⟩ (.bool true))):=by
      refine ⟨?_,hw.trans HS.2⟩
      have:=HS.1
      rw [List.set_set] at this
      rw [← hBD]
      exact this
    clear HS hW hw HW hc hs hset hBD hek hbk hrl
    by_cases hneg:p<0
    · have hd1:decide (p<0)=true:=decide_eq_true hneg
      go_upto_region 5 with fail
      generalize wr.setCell ⟨g,o+2,none⟩ (.bool true)=W1 at *
      obtain ⟨hW1,hw1⟩:=HW1.out
      have hsz1:=hw1.1.size
      have HC1:Hid (Calls Tryz.prog 117 #[.pointer (some ⟨g,o,none⟩),.int .u8 u1.toNat] W1 fun e w'=>e=.returned .nilIface∧WsAt B g ((L.set i ⟨x.bs++E,BD⟩).set i ⟨x.bs++E++[u1],BD⟩) w'∧Wrote g W1 w'):=HB.out _ _ ⟨x.bs++E,BD⟩ W1 hW1 (HST.out _) (by simp; omega) (Nat.le_trans hBw hsz1)
      have HW9:Hid (Wrote g w W1):=hw1
      clear hW1 HW1 hw1 hf2 hcb
      go_wp2_with fail
      refine HC1.out.mono ?_
      rintro e w2 ⟨rfl,hW2,hw2⟩
      rw [List.set_set] at hW2
      have hsz2:=hw2.1.size
      have HC2:Hid (Calls Tryz.prog 117 #[.pointer (some ⟨g,o,none⟩),.int .u8 u2.toNat] w2 fun e w'=>e=.returned .nilIface∧WsAt B g ((L.set i ⟨x.bs++E++[u1],BD⟩).set i ⟨x.bs++E++[u1]++[u2],BD⟩) w'∧Wrote g w2 w'):=HB.out _ _ ⟨x.bs++E++[u1],BD⟩ w2 hW2 (HST.out _) (by simp; omega) (Nat.le_trans hBw (Nat.le_trans hsz1 hsz2))
      have HW8:Hid (Wrote g w w2):=HW9.out.trans hw2
      clear hW2 hw2 HC1 HW9
      go_wp2_with fail
      refine HC2.out.mono ?_
      rintro e w3 ⟨rfl,hW3,hw3⟩
      rw [List.set_set] at hW3
      have HF:Hid (WsAt B g (L.set i ⟨x.bs++encN (l.take (j+1)),x.bad || badN (l.take (j+1))⟩) w3∧Wrote g w w3):=by
        refine ⟨?_,HW8.out.trans hw3⟩
        rw [HEK.out,HBK.out]
        have e1:(⟨x.bs++(E++enc2 p),x.bad || (Bd || decide (p<0∨p > 65535))⟩:Wr)=⟨x.bs++E++[u1]++[u2],BD⟩:=by
          rw [← HBD.out,← Bool.or_assoc]
          rw [HU.out]; simp
        rw [e1]; exact hW3
      clear hW3 hw3 HC2 HW8 HEK HBK HB HL hwb1 hwb2
      go_wp2_with fail
      exact ⟨⟨j+1,by go_num,by omega,HF.out⟩,by simp [intOf]; omega⟩
    · have hd1:decide (p<0)=false:=decide_eq_false hneg
      have hgt:p > 65535:=hbad.resolve_left hneg
      have hd2:decide (p > 65535)=true:=decide_eq_true hgt
      go_upto_region 5 with fail
      generalize wr.setCell ⟨g,o+2,none⟩ (.bool true)=W1 at *
      obtain ⟨hW1,hw1⟩:=HW1.out
      have hsz1:=hw1.1.size
      have HC1:Hid (Calls Tryz.prog 117 #[.pointer (some ⟨g,o,none⟩),.int .u8 u1.toNat] W1 fun e w'=>e=.returned .nilIface∧WsAt B g ((L.set i ⟨x.bs++E,BD⟩).set i ⟨x.bs++E++[u1],BD⟩) w'∧Wrote g W1 w'):=HB.out _ _ ⟨x.bs++E,BD⟩ W1 hW1 (HST.out _) (by simp; omega) (Nat.le_trans hBw hsz1)
      have HW9:Hid (Wrote g w W1):=hw1
      clear hW1 HW1 hw1 hf2 hcb
      go_wp2_with fail
      refine HC1.out.mono ?_
      rintro e w2 ⟨rfl,hW2,hw2⟩
      rw [List.set_set] at hW2
      have hsz2:=hw2.1.size
      have HC2:Hid (Calls Tryz.prog 117 #[.pointer (some ⟨g,o,none⟩),.int .u8 u2.toNat] w2 fun e w'=>e=.returned .nilIface∧WsAt B g ((L.set i ⟨x.bs++E++[u1],BD⟩).set i ⟨x.bs++E++[u1]++[u2],BD⟩) w'∧Wrote g w2 w'):=HB.out _ _ ⟨x.bs++E++[u1],BD⟩ w2 hW2 (HST.out _) (by simp; omega) (Nat.le_trans hBw (Nat.le_trans hsz1 hsz2))
      have HW8:Hid (Wrote g w w2):=HW9.out.trans hw2
      clear hW2 hw2 HC1 HW9
      go_wp2_with fail
      refine HC2.out.mono ?_
      rintro e w3 ⟨rfl,hW3,hw3⟩
      rw [List.set_set] at hW3
      have HF:Hid (WsAt B g (L.set i ⟨x.bs++encN (l.take (j+1)),x.bad || badN (l.take (j+1))⟩) w3∧Wrote g w w3):=by
        refine ⟨?_,HW8.out.trans hw3⟩
        rw [HEK.out,HBK.out]
        have e1:(⟨x.bs++(E++enc2 p),x.bad || (Bd || decide (p<0∨p > 65535))⟩:Wr)=⟨x.bs++E++[u1]++[u2],BD⟩:=by
          rw [← HBD.out,← Bool.or_assoc]
          rw [HU.out]; simp
        rw [e1]; exact hW3
      clear hW3 hw3 HC2 HW8 HEK HBK HB HL hwb1 hwb2
      go_wp2_with fail
      exact ⟨⟨j+1,by go_num,by omega,HF.out⟩,by simp [intOf]; omega⟩
  · have hneg:¬ p<0:=fun h=>hbad (.inl h)
    have hgt:¬ p > 65535:=fun h=>hbad (.inr h)
    have hd1:decide (p<0)=false:=decide_eq_false hneg
    have hd2:decide (p > 65535)=false:=decide_eq_false hgt
    obtain ⟨BD,hBD⟩:∃ BD:Bool,(x.bad || Bd)=BD:=⟨_,rfl⟩
    have HBD:Hid (((x.bad || Bd) || decide (p<0∨p > 65535))=BD):=by show _=_; rw [decide_eq_false hbad,← hBD]; simp
    have HW1:Hid (WsAt B g (L.set i ⟨x.bs++E,BD⟩) wr∧Wrote g w wr):=by rw [hBD] at HW; exact HW.out
    clear hW hw HW hc hs hset hBD hek hbk hrl
    go_upto_region 5 with fail
    generalize hWR:wr=W1 at *
    clear hWR
    obtain ⟨hW1,hw1⟩:=HW1.out
    have hsz1:=hw1.1.size
    have HC1:Hid (Calls Tryz.prog 117 #[.pointer (some ⟨g,o,none⟩),.int .u8 u1.toNat] W1 fun e w'=>e=.returned .nilIface∧WsAt B g ((L.set i ⟨x.bs++E,BD⟩).set i ⟨x.bs++E++[u1],BD⟩) w'∧Wrote g W1 w'):=HB.out _ _ ⟨x.bs++E,BD⟩ W1 hW1 (HST.out _) (by simp; omega) (Nat.le_trans hBw hsz1)
    have HW9:Hid (Wrote g w W1):=hw1
    clear hW1 HW1 hw1 hf2 hcb
    go_wp2_with fail
    refine HC1.out.mono ?_
    rintro e w2 ⟨rfl,hW2,hw2⟩
    rw [List.set_set] at hW2
    have hsz2:=hw2.1.size
    have HC2:Hid (Calls Tryz.prog 117 #[.pointer (some ⟨g,o,none⟩),.int .u8 u2.toNat] w2 fun e w'=>e=.returned .nilIface∧WsAt B g ((L.set i ⟨x.bs++E++[u1],BD⟩).set i ⟨x.bs++E++[u1]++[u2],BD⟩) w'∧Wrote g w2 w'):=HB.out _ _ ⟨x.bs++E++[u1],BD⟩ w2 hW2 (HST.out _) (by simp; omega) (Nat.le_trans hBw (Nat.le_trans hsz1 hsz2))
    have HW8:Hid (Wrote g w w2):=HW9.out.trans hw2
    clear hW2 hw2 HC1 HW9
    go_wp2_with fail
    refine HC2.out.mono ?_
    rintro e w3 ⟨rfl,hW3,hw3⟩
    rw [List.set_set] at hW3
    have HF:Hid (WsAt B g (L.set i ⟨x.bs++encN (l.take (j+1)),x.bad || badN (l.take (j+1))⟩) w3∧Wrote g w w3):=by
      refine ⟨?_,HW8.out.trans hw3⟩
      rw [HEK.out,HBK.out]
      have e1:(⟨x.bs++(E++enc2 p),x.bad || (Bd || decide (p<0∨p > 65535))⟩:Wr)=⟨x.bs++E++[u1]++[u2],BD⟩:=by
        rw [← HBD.out,← Bool.or_assoc]
        rw [HU.out]; simp
      rw [e1]; exact hW3
    clear hW3 hw3 HC2 HW8 HEK HBK HB HL hwb1 hwb2
    go_wp2_with fail
    exact ⟨⟨j+1,by go_num,by omega,HF.out⟩,by simp [intOf]; omega⟩
theorem ptrU8:Tryz.prog.underlying 145=some (.pointer 5):=by kernel_rfl
theorem cellsU8:Tryz.prog.cellsOf 5=1:=by kernel_rfl
theorem but_freeze {D:Nat→Prop} (w:World) (p:Addr) (n:Nat) (h:D p.block):But D w (w.freeze p n):=by
  unfold World.freeze
  split
  · exact But.refl _ _
  · exact ⟨rfl,rfl,rfl,by simp,fun k hk hd=>by
      have:p.block≠k:=fun e=>hd (e ▸ h)
      simp [Array.getElem?_modify,this]⟩
set_option maxHeartbeats 2000000 in
set_option maxRecDepth 100000 in
theorem string_any (B g o:Nat) (l:List UInt8) (v:Value) (w:World) (hv:w.cell? ⟨g,o+1,none⟩=some v) (hown:OwnB B l v w) (hnil:l=[]→v=.slice none 0 0) (hl:l.length≤1000000000) :
    Calls Tryz.prog 53 #[.pointer (some ⟨g,o,none⟩)] w fun e w'=>e=.returned (.string ⟨l.toArray⟩)∧But (fun k=>v.ownBlock=some k) w w':=by
  by_cases hn:l=[]
  · obtain rfl:=hnil hn
    subst hn
    have c1:w.drew.cell? ⟨g,o+1,none⟩=some (.slice none 0 0):=hv
    have hSD:(Builtin.unsafeSliceData_ #[98] 145 #[.slice none 0 0]).run Tryz.prog w.drew=.ok (.pointer none) w.drew:=rfl
    have hUS:=Lib.run_unsafeString_none (P:=Tryz.prog) w.drew 145 3 9 none
    clear hown hnil hl
    have mixed:Tryz.prog.follows Departure.mixedOrders=true:=by kernel_rfl
    go_enter Tryz.func53,Tryz.ntmps53
    go_wp2
    go_region_o
    all_goals (go_wp2; go_ret; exact ⟨rfl,(But.refl _ w).drew⟩)
  · have hlp:0<l.length:=List.length_pos_iff.2 hn
    rcases hown.2 with ⟨rfl,h0⟩ | ⟨b,cap,cur,rfl,hB,hg,hle,hmx,hcs,htk⟩
    · omega
    have hlen:(l.map encU8).length=l.length:=by simp
    have c1:w.drew.cell? ⟨g,o+1,none⟩=some (.slice (some ⟨b,0,none⟩) l.length cap):=hv
    have hg':w.drew.heap[b]?=some (.cells cur 5 (0,0)):=hg
    have hSD:(Builtin.unsafeSliceData_ #[98] 145 #[.slice (some ⟨b,0,none⟩) l.length cap]).run Tryz.prog w.drew=.ok (.pointer (some ⟨b,0,none⟩)) w.drew :=
      Lib.run_unsafeSliceData_row _ _ _ _ _ _ (by omega)
    have hUS:(Builtin.unsafeString_ #[145,3] 9 #[.pointer (some ⟨b,0,none⟩),.int .i64 l.length]).run Tryz.prog w.drew=.ok (.string ⟨l.toArray⟩) (w.drew.freeze ⟨b,0,none⟩ l.length) :=
      Lib.run_unsafeString_row w.drew _ _ _ 5 ptrU8 cellsU8 b cur.size (by simp [World.shape?,hg']) l hn (by omega) (by omega) (fun j x hx=>by
        rw [add_plain,Nat.zero_add,Lib.cell_of_heap hg']
        have hj:j<l.length:=(List.getElem?_eq_some_iff.1 hx).1
        have e1:(cur.toList.take (l.length * 1))[j]?=some (encU8 x):=by rw [htk,List.getElem?_map,hx]; rfl
        rw [List.getElem?_take,if_pos (by omega)] at e1
        rw [← Array.getElem?_toList]; exact e1)
    have BF:But (fun k=>(Value.slice (some ⟨b,0,none⟩) l.length cap).ownBlock=some k) w (w.drew.freeze ⟨b,0,none⟩ l.length):=(But.refl _ w).drew.trans (but_freeze w.drew ⟨b,0,none⟩ l.length rfl)
    generalize w.drew.freeze ⟨b,0,none⟩ l.length=wz at *
    clear hown hnil hg hg' hcs htk hn
    generalize l.length=n at *
    have mixed:Tryz.prog.follows Departure.mixedOrders=true:=by kernel_rfl
    go_enter Tryz.func53,Tryz.ntmps53
    go_wp2
    go_region_o
    all_goals (go_wp2; go_ret; exact ⟨rfl,BF⟩)
set_option maxRecDepth 100000 in
theorem len_any (g o n c:Nat) (a:Option Addr) (w:World) (hv:w.cell? ⟨g,o+1,none⟩=some (.slice a n c)) :
    Calls Tryz.prog 64 #[.pointer (some ⟨g,o,none⟩)] w fun e w'=>e=.returned (.int .i64 n)∧w'=w:=by
  go_enter Tryz.func64,Tryz.ntmps64
  go_wp2_with fail
  go_ret
  exact ⟨rfl,rfl⟩
set_option maxRecDepth 100000 in
set_option maxHeartbeats 1000000 in
theorem wItem_any {B g i:Nat} {L:List Wr} {y:Wr} (x:Ir) (w:World) (h:WsAt B g L w) (hy:L[i]?=some y) (hx:FitT x) (hbl:y.bs.length≤100000000) (hBw:B≤w.heap.size) :
    Calls Tryz.prog 63 #[.pointer (some ⟨g,i * 3,none⟩),valR x] w fun e w'=>e=.returned (.tuple #[])∧WsAt B g (L.set i ⟨y.bs++encT x,y.bad⟩) w'∧Wrote g w w':=by
  obtain ⟨x0,x1,x2⟩:=x
  unfold FitT at hx
  unfold valR
  simp only at *
  obtain ⟨o,ho⟩:∃ o,i * 3=o:=⟨_,rfl⟩
  have Bx:Below w.heap.size w ((w.alloc (Obj.cells #[.int .i64 x0,.int .i64 x1,.int .i64 x2] 77)).alloc (Obj.cells #[.int .i64 (x0+1),.int .i64 x1,.int .i64 x2] 3)):=((Below.refl _ _).alloc (Nat.le_refl _) _).alloc (by simp) _
  have HS:Hid (SlI [x0+1,x1,x2] (.slice (some ⟨w.heap.size+1,0,none⟩) 3 3) ((w.alloc (Obj.cells #[.int .i64 x0,.int .i64 x1,.int .i64 x2] 77)).alloc (Obj.cells #[.int .i64 (x0+1),.int .i64 x1,.int .i64 x2] 3))):=by
    refine ⟨_,_,rfl,fun k u hk=>⟨_,_,rfl,by simp,?_⟩,fun h=>(by cases h),(by simp),fun u hu=>?_⟩
    · rcases k with _ | _ | _ | k <;> simp at hk <;> subst hk <;> simp [encI]
    · simp at hu
      unfold i64B
      rcases hu with rfl | rfl | rfl <;> omega
  have HC:=numbers_any (B:=B) (g:=g) (i:=i) (L:=L) (x:=y) [x0+1,x1,x2] _ _ HS.out (h.next Bx) hy (fun ad n c e _ hin=>by
    injection e with e1
    injection e1 with e1
    subst e1
    have:=(inW_same (Bx.block g h.lt) _).1 hin
    have:=(h.inLt this).2
    simp only at this
    omega) (by simp) hbl (Nat.le_trans hBw Bx.size)
  have HC2:Hid (Calls Tryz.prog 85 #[.pointer (some ⟨g,o,none⟩),.slice (some ⟨w.heap.size+1,0,none⟩) 3 3] ((w.alloc (Obj.cells #[.int .i64 x0,.int .i64 x1,.int .i64 x2] 77)).alloc (Obj.cells #[.int .i64 (x0+1),.int .i64 x1,.int .i64 x2] 3)) fun e w'=>e=.returned (.tuple #[])∧WsAt B g (L.set i ⟨y.bs++encT (x0,x1,x2),y.bad⟩) w'∧Wrote g w w'):=by
    rw [ho] at HC
    refine HC.mono ?_
    rintro e w' ⟨rfl,h1,h2⟩
    have eb:badN [x0+1,x1,x2]=false:=by
      simp [badN]; omega
    rw [eb,Bool.or_false] at h1
    exact ⟨rfl,h1,(h.wrote Bx).trans h2⟩
  have hw1:IntKind.i64.wrap (x0+1)=x0+1:=by rw [IntKind.wrap_i64]; omega
  rw [ho]
  clear HC h HS Bx
  go_enter Tryz.func63,Tryz.ntmps63
  go_wp2_with fail
  refine HC2.out.mono ?_
  rintro e w1 ⟨rfl,h1,h2⟩
  have HR:Hid (WsAt B g (L.set i ⟨y.bs++encT (x0,x1,x2),y.bad⟩) w1∧Wrote g w w1):=⟨h1,h2⟩
  clear h1 h2 HC2
  go_wp2_with fail
  go_end0
  exact ⟨rfl,HR.out⟩
theorem dotL_take {l:List Ir} {j:Nat} (h:j<l.length):keyT (dotL (l.take (j+1)))=keyT (dotL (l.take j))++(if 0<l[j].2.1 then encT l[j] else []):=by
  rw [List.take_succ_eq_append_getElem h,dotL_append,keyT_append]
  congr 1
  by_cases h':0<l[j].2.1 <;> simp [dotL,h',keyT]
theorem dotL_len (l:List Ir):(dotL l).length≤l.length:=List.length_filter_le _ _
def strT (l:List Ir):Value:=.string ⟨(keyT l).toArray⟩
set_option maxRecDepth 100000 in
set_option maxHeartbeats 2000000 in
theorem keyOfT_any (l:List Ir) (v:Value) (w:World) (hl:SlL l v w) (hf:∀ x∈l,FitT x) (hll:l.length≤16000000) :
    Calls Tryz.prog 60 #[v] w fun e w'=>e=.returned (strT (dotL l))∧Below w.heap.size w w':=by
  have HIT:Hid (∀ (x:Ir) (bs:List UInt8) W,WsAt w.heap.size w.heap.size [⟨bs,false⟩] W→FitT x→bs.length≤100000000→w.heap.size≤W.heap.size→Calls Tryz.prog 63 #[.pointer (some ⟨w.heap.size,0,none⟩),valR x] W fun e w'=>e=.returned (.tuple #[])∧WsAt w.heap.size w.heap.size [⟨bs++encT x,false⟩] w'∧Wrote w.heap.size W w'):=fun x bs W h1 h2 h3 h4=>by
    have:=wItem_any (i:=0) (y:=⟨bs,false⟩) x W h1 rfl h2 h3 h4
    simpa using this
  have HL:Hid (∀ W,Below w.heap.size w W→SlL l v W):=fun W hW=>hl.next hW
  have HF:Hid (∀ x∈l,FitT x):=hf
  obtain ⟨la,lc,rfl,_⟩:=hl
  have W0:=WsAt.one w (Nat.le_refl w.heap.size)
  have B0:Below w.heap.size w (w.alloc (.cells #[.pointer none,.slice none 0 0,.bool false] 102)):=(Below.refl _ _).alloc (Nat.le_refl _) _
  clear hf
  go_enter Tryz.func60,Tryz.ntmps60
  go_wp2_with fail
  generalize w.alloc (.cells #[.pointer none,.slice none 0 0,.bool false] 102)=w0 at *
  go_loopw [8] (fun iv wr=>∃ (j:Nat),iv=.int .i64 j∧j≤l.length∧WsAt w.heap.size w.heap.size [⟨keyT (dotL (l.take j)),false⟩] wr∧Below w.heap.size w wr) (fun i _=>l.length - (intOf i).toNat)
  case atStart=>exact ⟨0,rfl,Nat.zero_le _,by simpa [keyT,dotL] using W0,B0⟩
  case round =>
  clear W0 B0
  obtain ⟨j,rfl,hj,hW,BW⟩:=hrel
  have hsz:=BW.size
  have hkl:(keyT (dotL (l.take j))).length≤100000000:=by
    rw [keyT_len]
    have h1:=dotL_len (l.take j)
    have h2:(l.take j).length≤l.length:=by rw [List.length_take]; omega
    omega
  by_cases hlt:j<l.length
  case neg =>
    obtain rfl:j=l.length:=by omega
    rw [List.take_of_length_le (Nat.le_refl _)] at hW hkl
    obtain ⟨bv,hbv,hob⟩:=hW.buf 0 _ rfl
    have hnl:=hW.nil 0 _ bv rfl
    simp only [Nat.zero_mul] at hbv hob hnl
    have HST:=string_any w.heap.size w.heap.size 0 (keyT (dotL l)) bv wr hbv hob (fun e=>hnl e hbv) (by omega)
    have HBB:Hid (∀ k,bv.ownBlock=some k→w.heap.size≤k):=fun k hk=>(World.ownsRow.lt hob k hk).1
    clear HL HIT hW hob hnl hbv
    go_wp2_with fail
    refine HST.mono ?_
    rintro e w1 ⟨rfl,b1⟩
    have B9:Below w.heap.size w w1:=BW.trans (b1.below hsz HBB.out)
    clear HST b1 HBB
    go_wp2_with fail
    go_ret
    exact ⟨rfl,B9⟩
  obtain ⟨_,_,e0,hrl,_⟩:=HL.out _ BW
  cases e0
  obtain ⟨b2,o2,rfl,hb2,c0,c1,c2,hok⟩:=hrl.at (Below.refl _ _) hlt
  have hfx:=HF.out l[j] (List.getElem_mem hlt)
  have HT:Hid (keyT (dotL (l.take (j+1)))=keyT (dotL (l.take j))++(if 0<l[j].2.1 then encT l[j] else [])):=dotL_take hlt
  generalize l[j]=x at *
  generalize keyT (dotL (l.take j))=E at *
  obtain ⟨x0,x1,x2⟩:=x
  simp only at c0 c1 c2 HT
  have Bx:Below wr.heap.size wr (wr.alloc (Obj.cells #[.int .i64 x0,.int .i64 x1,.int .i64 x2] 77)):=(Below.refl _ _).alloc (Nat.le_refl _) _
  have hWx:=hW.next Bx
  have BWx:Below w.heap.size w (wr.alloc (Obj.cells #[.int .i64 x0,.int .i64 x1,.int .i64 x2] 77)):=BW.trans (Bx.mono hsz)
  have X0:=RBox.new (x0,x1,x2) 77 wr
  have HC:=HIT.out (x0,x1,x2) E _ hWx hfx hkl (Nat.le_trans hsz Bx.size)
  unfold valR at HC
  have HW:Hid (WsAt w.heap.size w.heap.size [⟨E,false⟩] (wr.alloc (Obj.cells #[.int .i64 x0,.int .i64 x1,.int .i64 x2] 77))):=hWx
  clear hWx hW hrl HL HIT
  go_upto_region 5 with fail
  generalize wr.alloc (Obj.cells #[.int .i64 x0,.int .i64 x1,.int .i64 x2] 77)=wa at *
  obtain ⟨hxl,y0,y1,y2⟩:=X0
  simp only at y0 y1 y2
  clear c0 c1 c2
  by_cases hd:0<x1
  · have hgt:x1 > 0:=hd
    have hdd:decide (x1 > 0)=true:=decide_eq_true hd
    rw [if_pos hd] at HT
    have HCH:Hid (Calls Tryz.prog 63 #[.pointer (some ⟨w.heap.size,0,none⟩),.agg #[.int .i64 x0,.int .i64 x1,.int .i64 x2]] wa fun e w'=>e=.returned (.tuple #[])∧WsAt w.heap.size w.heap.size [⟨E++encT (x0,x1,x2),false⟩] w'∧Wrote w.heap.size wa w'):=HC
    clear HC
    go_wp2_with fail
    refine HCH.out.mono ?_
    rintro e w1 ⟨rfl,h1,h2⟩
    have HR:Hid (WsAt w.heap.size w.heap.size [⟨keyT (dotL (l.take (j+1))),false⟩] w1∧Below w.heap.size w w1):=⟨by rw [HT.out]; exact h1,BWx.trans (HW.out.below h2 BWx.size)⟩
    clear h1 h2 HCH HW HT
    go_wp2_with fail
    exact ⟨⟨j+1,by go_num,by omega,HR.out⟩,by simp [intOf]; omega⟩
  · have hgt:¬ x1 > 0:=hd
    have hdd:decide (x1 > 0)=false:=decide_eq_false hd
    rw [if_neg hd,List.append_nil] at HT
    have HR:Hid (WsAt w.heap.size w.heap.size [⟨keyT (dotL (l.take (j+1))),false⟩] wa∧Below w.heap.size w wa):=⟨by rw [HT.out]; exact HW.out,BWx⟩
    clear HC HW HT
    go_wp2_with fail
    exact ⟨⟨j+1,by go_num,by omega,HR.out⟩,by simp [intOf]; omega⟩
end Go.Proofs.YtbilbgjojdlobaaGreatDoor
namespace Go.Proofs.YtbilbgjojdlobaaGreatDoor
def gEnd (f:Fl) (l:List Ir):Int→Option Ac:=fun t=>if endL f l t then some ⟨t,-1,redL f l t,accL f l t⟩ else none
theorem gEnd_cur (f:Fl) (l:List Ir) (t:Int):curA (gEnd f l) t=⟨t,-1,redL f l t,accL f l t⟩:=by
  unfold curA gEnd
  cases he:endL f l t with
  | true=>rfl
  | false =>
    have h:¬ (redL f l t≠[]∨accL f l t=true):=fun h=>by rw [(endL_iff f l t).2 h] at he; cases he
    have h1:redL f l t=[]:=Classical.not_not.1 (fun h'=>h (.inl h'))
    have h2:accL f l t=false:=by cases e:accL f l t with
      | false=>rfl
      | true=>exact absurd (.inr e) h
    rw [h1,h2]; rfl
theorem gEnd_nil (f:Fl):gEnd f []=fun _=>none:=by funext t; simp [gEnd,endL]
theorem gEnd_end {f:Fl} {l:List Ir} {x:Ir} (hx:fitI f x=true) (hn:nextI f x=none):gEnd f (l++[x])=updG (gEnd f l) x.2.2 (endA (curA (gEnd f l) x.2.2) x.1):=by
  have hp:=(fitI_iff.1 hx).1
  funext t
  unfold updG
  by_cases ht:t=x.2.2
  · rw [if_pos ht,gEnd_cur]
    subst ht
    have e1:endL f (l++[x]) x.2.2=true:=by rw [endL_append]; simp [endL,hn]
    unfold gEnd endA
    rw [if_pos e1,redL_append,accL_append]
    by_cases hm:x.1=-1
    · rw [if_pos hm]; simp [redL,accL,hm,hn]
    · rw [if_neg hm]
      have h1:0≤x.1:=by omega
      have h2:¬ x.1<0:=by omega
      simp [redL,accL,hn,h1,h2]
  · rw [if_neg ht]
    have h':¬ x.2.2=t:=fun e=>ht e.symm
    have e1:endL f [x] t=false:=by simp [endL,h']
    have e2:redL f [x] t=[]:=by simp [redL,h']
    have e3:accL f [x] t=false:=by simp [accL,h']
    unfold gEnd
    rw [endL_append,redL_append,accL_append,e1,e2,e3,Bool.or_false,Bool.or_false,List.append_nil]
theorem gEnd_next {f:Fl} {l:List Ir} {x:Ir} {s:Int} (hn:nextI f x=some s):gEnd f (l++[x])=gEnd f l:=by
  funext t
  have e1:endL f [x] t=false:=by simp [endL,hn]
  have e2:redL f [x] t=[]:=by simp [redL,hn]
  have e3:accL f [x] t=false:=by simp [accL,hn]
  unfold gEnd
  rw [endL_append,redL_append,accL_append,e1,e2,e3,Bool.or_false,Bool.or_false,List.append_nil]
def wL (f:Fl) (l:List Ir):List Wr:=(List.range f.n).map fun (s:Nat)=>⟨keyT (movedL f l (s:Int)),false⟩
theorem wL_len (f:Fl) (l:List Ir):(wL f l).length=f.n:=by simp [wL]
theorem wL_get {f:Fl} {l:List Ir} {s:Nat} (h:s<f.n):(wL f l)[s]?=some ⟨keyT (movedL f l (s:Int)),false⟩:=by simp [wL,h]
theorem moved_one {f:Fl} {x:Ir} {s t:Int} (hn:nextI f x=some s):movedL f [x] t=if t=s then [(x.1,x.2.1+1,x.2.2)] else []:=by
  unfold movedL
  by_cases h:t=s
  · subst h; simp [hn]
  · have:¬ s=t:=fun e=>h e.symm
    simp [hn,h,this]
theorem wL_next {f:Fl} {l:List Ir} {x:Ir} {s:Nat} (hn:nextI f x=some (s:Int)):wL f (l++[x])=(wL f l).set s ⟨keyT (movedL f l (s:Int))++encT (x.1,x.2.1+1,x.2.2),false⟩:=by
  refine List.ext_getElem? (fun i=>?_)
  rw [List.getElem?_set]
  by_cases hi:i<f.n
  · rw [wL_get hi,wL_len]
    by_cases h:s=i
    · subst h
      rw [if_pos rfl,if_pos hi,movedL_append,moved_one hn,if_pos rfl,keyT_append]
      simp [keyT]
    · rw [if_neg h,wL_get hi,movedL_append,moved_one hn,if_neg (by omega),List.append_nil]
  · have h1:(wL f (l++[x]))[i]?=none:=List.getElem?_eq_none (by rw [wL_len]; omega)
    have h2:(wL f l)[i]?=none:=List.getElem?_eq_none (by rw [wL_len]; omega)
    rw [h1,h2,wL_len]
    split
    · rw [if_neg (by omega)]
    · rfl
theorem wL_end {f:Fl} {l:List Ir} {x:Ir} (hn:nextI f x=none):wL f (l++[x])=wL f l:=by
  unfold wL
  refine List.map_congr_left (fun s _=>?_)
  rw [movedL_append]
  simp [movedL,hn]
theorem moved_len (f:Fl) (l:List Ir) (s:Int):(movedL f l s).length≤l.length:=by
  unfold movedL
  rw [List.length_map]
  exact List.length_filter_le _ _
theorem redL_len (f:Fl) (l:List Ir) (t:Int):(redL f l t).length≤l.length:=by
  unfold redL
  rw [List.length_map]
  exact List.length_filter_le _ _
noncomputable def gS (f:Fl) (R:List (List Ir)) (l:List Ir) (s:Nat):Int→Option Ac:=fun t=>if 0≤t∧t<(s:Int)∧t<(f.terms.length:Int)∧movedL f l t≠[] then some ⟨t,(findI R (gotoF f l t):Int),redL f l t,accL f l t⟩ else gEnd f l t
theorem gS_zero (f:Fl) (R:List (List Ir)) (l:List Ir):gS f R l 0=gEnd f l:=by
  funext t; unfold gS; rw [if_neg (by omega)]
theorem gS_cur (f:Fl) (R:List (List Ir)) (l:List Ir) (s:Nat):curA (gS f R l s) s=⟨s,-1,redL f l s,accL f l s⟩:=by
  have:gS f R l s s=gEnd f l s:=by unfold gS; rw [if_neg (by omega)]
  rw [← gEnd_cur]; unfold curA; rw [this]
theorem gS_shift {f:Fl} {R:List (List Ir)} {l:List Ir} {s:Nat} (h1:s<f.terms.length) (h2:movedL f l (s:Int)≠[]) :
    updG (gS f R l s) s ⟨(curA (gS f R l s) s).look,(findI R (gotoF f l s):Int),(curA (gS f R l s) s).red,(curA (gS f R l s) s).acc⟩=gS f R l (s+1):=by
  rw [gS_cur]
  funext t
  unfold updG
  by_cases ht:t=(s:Int)
  · rw [if_pos ht]
    subst ht
    unfold gS
    rw [if_pos ⟨by omega,by omega,by omega,h2⟩]
  · rw [if_neg ht]
    unfold gS
    by_cases hc:0≤t∧t<(s:Int)∧t<(f.terms.length:Int)∧movedL f l t≠[]
    · rw [if_pos hc,if_pos ⟨hc.1,by omega,hc.2.2⟩]
    · rw [if_neg hc,if_neg (fun h=>hc ⟨h.1,by omega,h.2.2⟩)]
theorem gS_skip {f:Fl} {R:List (List Ir)} {l:List Ir} {s:Nat} (h:¬ s<f.terms.length∨movedL f l (s:Int)=[]):gS f R l (s+1)=gS f R l s:=by
  funext t
  unfold gS
  by_cases hc:0≤t∧t<(s:Int)∧t<(f.terms.length:Int)∧movedL f l t≠[]
  · rw [if_pos hc,if_pos ⟨hc.1,by omega,hc.2.2⟩]
  · rw [if_neg hc,if_neg (fun h'=>?_)]
    by_cases ht:t=(s:Int)
    · subst ht
      rcases h with h | h
      · omega
      · exact h'.2.2.2 h
    · exact hc ⟨h'.1,by omega,h'.2.2⟩
noncomputable def goUp (f:Fl) (R:List (List Ir)) (l:List Ir) (s:Nat):List (Int × Int):=(List.range s).filterMap fun s=>(toF f R l s).map fun (t:Int)=>((s:Int),t)
theorem goUp_succ {f:Fl} {R:List (List Ir)} {l:List Ir} {s:Nat}:goUp f R l (s+1)=goUp f R l s++(if movedL f l (s:Int)=[] then [] else [((s:Int),(findI R (gotoF f l s):Int))]):=by
  unfold goUp
  rw [List.range_succ,List.filterMap_append]
  congr 1
  unfold toF
  by_cases h:movedL f l (s:Int)=[] <;> simp [h]
theorem goUp_len (f:Fl) (R:List (List Ir)) (l:List Ir) (s:Nat):(goUp f R l s).length≤s:=by
  unfold goUp
  have:=List.length_filterMap_le (fun s=>(toF f R l s).map fun (t:Int)=>((s:Int),t)) (List.range s)
  simpa using this
theorem risingZ_ext {a b:List Int} (ha:a.Pairwise (· < ·)) (hb:b.Pairwise (· < ·)) (h:∀ x,x∈a↔x∈b):a=b:=by
  have na:a.Nodup:=ha.imp (fun {x y} h e=>by omega)
  have nb:b.Nodup:=hb.imp (fun {x y} h e=>by omega)
  exact List.Perm.eq_of_pairwise (le:=(· < ·)) (fun x y _ _ h1 h2=>by omega) ha hb ((List.perm_ext_iff_of_nodup na nb).2 h)
theorem someA_iff {f:Fl} {R:List (List Ir)} {l:List Ir} {n:Nat} (hn:f.terms.length≤n) {t:Nat} (ht:t≤f.terms.length):someA (actAt f R l t)=true↔(gS f R l n t).isSome=true:=by
  unfold someA actAt gS toF
  simp only [decide_eq_true_eq]
  by_cases h1:t<f.terms.length
  · rw [if_pos h1]
    by_cases h2:movedL f l (t:Int)=[]
    · rw [if_pos h2,if_neg (by simp [h2])]
      unfold gEnd
      simp only [Option.getD_none]
      rw [← Bool.cond_eq_ite]
      cases he:endL f l t with
      | true =>
        have:=(endL_iff f l t).1 he
        simp; rcases this with h | h
        · exact .inr h
        · exact .inl h
      | false =>
        have:¬ (redL f l t≠[]∨accL f l t=true):=fun h=>by rw [(endL_iff f l t).2 h] at he; cases he
        simp only [cond_false,Option.isSome_none,Bool.false_eq_true,iff_false]
        rintro (h | h | h)
        · omega
        · exact this (.inr h)
        · exact this (.inl h)
    · rw [if_neg h2,if_pos ⟨by omega,by omega,by omega,h2⟩]
      simp
  · rw [if_neg h1,if_neg (by omega)]
    unfold gEnd
    cases he:endL f l t with
    | true =>
      have:=(endL_iff f l t).1 he
      simp; rcases this with h | h
      · exact .inr h
      · exact .inl h
    | false =>
      have:¬ (redL f l t≠[]∨accL f l t=true):=fun h=>by rw [(endL_iff f l t).2 h] at he; cases he
      simp only [Bool.false_eq_true,if_false,Option.isSome_none,iff_false]
      rintro (h | h | h)
      · omega
      · exact this (.inr h)
      · exact this (.inl h)
theorem gS_act {f:Fl} {R:List (List Ir)} {l:List Ir} {n:Nat} (hn:f.terms.length≤n) (t:Nat):curA (gS f R l n) t=actAt f R l t:=by
  unfold actAt toF
  by_cases h1:t<f.terms.length
  · by_cases h2:movedL f l (t:Int)=[]
    · have:gS f R l n t=gEnd f l t:=by unfold gS; rw [if_neg (by simp [h2])]
      have e:curA (gS f R l n) t=curA (gEnd f l) t:=by unfold curA; rw [this]
      rw [e,gEnd_cur,if_pos h1,if_pos h2]; rfl
    · have:gS f R l n t=some ⟨t,(findI R (gotoF f l t):Int),redL f l t,accL f l t⟩:=by unfold gS; rw [if_pos ⟨by omega,by omega,by omega,h2⟩]
      unfold curA
      rw [this,if_pos h1,if_neg h2]; rfl
  · have:gS f R l n t=gEnd f l t:=by unfold gS; rw [if_neg (by omega)]
    have e:curA (gS f R l n) t=curA (gEnd f l) t:=by unfold curA; rw [this]
    rw [e,gEnd_cur,if_neg h1]
theorem gS_look {f:Fl} {R:List (List Ir)} {l:List Ir} {n:Nat} (hl:∀ x∈l,fitI f x=true) {t:Int} (h:(gS f R l n t).isSome=true):0≤t∧t≤f.terms.length:=by
  unfold gS at h
  split at h
  · rename_i hc; omega
  · unfold gEnd at h
    split at h
    · rename_i he; exact endL_look hl he
    · cases h
theorem acts_eq {f:Fl} {R:List (List Ir)} {l:List Ir} {n:Nat} (hl:∀ x∈l,fitI f x=true) (hn:f.terms.length≤n) {S:List Int} (hS:S.Pairwise (· < ·)) (hm:∀ t,t∈S↔(gS f R l n t).isSome=true):S.map (curA (gS f R l n))=actRow f R l:=by
  have e:S=((List.range (f.terms.length+1)).filter fun t=>someA (actAt f R l t)).map fun (t:Nat)=>(t:Int):=by
    refine risingZ_ext hS ?_ (fun x=>?_)
    · rw [List.pairwise_map]
      refine (List.pairwise_lt_range.filter _).imp (fun {a b} h=>by omega)
    · rw [hm,List.mem_map]
      constructor
      · intro h
        have hr:=gS_look hl h
        refine ⟨x.toNat,?_,by omega⟩
        rw [List.mem_filter,List.mem_range]
        refine ⟨by omega,?_⟩
        rw [someA_iff hn (by omega)]
        have:((x.toNat:Nat):Int)=x:=by omega
        rw [this]; exact h
      · rintro ⟨t,ht,rfl⟩
        rw [List.mem_filter,List.mem_range] at ht
        exact (someA_iff hn (by omega)).1 ht.2
  rw [e,List.map_map]
  unfold actRow
  rw [List.filter_map]
  refine List.map_congr_left (fun t _=>?_)
  exact gS_act hn t
end Go.Proofs.YtbilbgjojdlobaaGreatDoor
namespace Go.Proofs.YtbilbgjojdlobaaGreatDoor
open Go.RowKit
set_option maxRecDepth 100000 in
set_option maxHeartbeats 1600000 in
theorem equalI_any (l m:List Int) (u v:Value) (w:World) (hl:SlI l u w) (hm:SlI m v w) (hb:l.length≤140737488351232) :
    Calls Tryz.prog 111 #[u,v] w fun e w'=>e=.returned (.bool (decide (l=m)))∧∃ n,w'=w.drewN n:=by
  have HL:Hid (∀ n,SlI l u (w.drewN n)∧SlI m v (w.drewN n)):=fun n=>⟨hl.next (below_drewN (Below.refl _ _) n),hm.next (below_drewN (Below.refl _ _) n)⟩
  obtain ⟨la,lc,rfl,_⟩:=hl
  obtain ⟨ma,mc,rfl,_⟩:=hm
  go_enter Tryz.func111,Tryz.ntmps111
  by_cases e2:l.length=m.length
  case neg =>
    have HE:Hid (decide (l=m)=false):=decide_eq_false (fun h=>e2 (by rw [h]))
    have e2':((l.length:Int) != (m.length:Int))=true:=by simp; omega
    have e2'':¬ (l.length:Int)=(m.length:Int):=by omega
    go_wp2_with fail
    go_ret
    exact ⟨by rw [HE.out]; rfl,0,rfl⟩
  have HEQ:Hid ((∀ k:Nat,k<l.length→l[k]?=m[k]?)→decide (l=m)=true):=fun h=>decide_eq_true (ext_le e2 h)
  have HNE:Hid (∀ k:Nat,l[k]?≠m[k]?→decide (l=m)=false):=fun k h=>decide_eq_false (fun e=>h (by rw [e]))
  have e2':((l.length:Int) != (m.length:Int))=false:=by simp; omega
  have e2'':(l.length:Int)=(m.length:Int):=by omega
  have HLE:Hid (l.length=m.length):=e2
  go_wp2_with fail
  clear e2' e2'' e2
  go_loopw [13] (fun iv wr=>∃ (i n:Nat),iv=.int .i64 i∧i≤l.length∧(∀ k:Nat,k<i→l[k]?=m[k]?)∧wr=w.drewN n) (fun i _=>l.length - (intOf i).toNat)
  case atStart=>exact ⟨0,0,rfl,Nat.zero_le _,fun k hk=>by omega,rfl⟩
  case round =>
  obtain ⟨i,n,rfl,hi,hall,rfl⟩:=hrel
  have HAL:Hid (∀ k:Nat,k<i→l[k]?=m[k]?):=hall
  clear hall
  by_cases hlt:i<l.length
  case neg =>
    have hlt':¬ (i:Int)<m.length:=by have:=HLE.out; omega
    obtain rfl:i=l.length:=by omega
    have HE:Hid (decide (l=m)=true):=HEQ.out HAL.out
    clear HEQ HNE HAL
    go_wp2_with fail
    go_ret
    exact ⟨by rw [HE.out]; rfl,n,rfl⟩
  have hlt2:i<m.length:=by have:=HLE.out; omega
  obtain ⟨⟨_,_,e0,hrl,_⟩,⟨_,_,e1,hrm,_⟩⟩:=HL.out n
  cases e0
  cases e1
  obtain ⟨b2,o2,rfl,hb2,p0⟩:=hrl.at (Below.refl _ (w.drewN n)).drew hlt
  obtain ⟨b3,o3,rfl,hb3,q0⟩:=hrm.at (Below.refl _ (w.drewN n)).drew hlt2
  unfold encI at p0 q0
  have HX1:Hid (l[i]?=some l[i]∧m[i]?=some m[i]):=by constructor <;> simp
  generalize l[i]=p at *
  generalize m[i]=q at *
  have hS0:(fun W:World=>(W.cell? ⟨b2,o2+i,none⟩=some (.int .i64 p)∧W.cell? ⟨b3,o3+i,none⟩=some (.int .i64 q))) (w.drewN n).drew:=⟨p0,q0⟩
  have HDR:Hid (∃ k,(w.drewN n).drew=w.drewN k):=⟨n+1,by rw [← World.drewN_drewN]; rfl⟩
  clear hrl hrm HL p0 q0
  by_cases hpq:p=q
  · subst hpq
    have HA2:Hid (∀ k:Nat,k<i+1→l[k]?=m[k]?):=fun k hk=>by
      rcases Nat.lt_or_ge k i with h | h
      · exact HAL.out k h
      · obtain rfl:k=i:=by omega
        rw [HX1.out.1,HX1.out.2]
    clear HX1 HAL HEQ HNE
    go_wp2_with fail
    refine wp_region_L (fun W=>W.cell? ⟨b2,o2+i,none⟩=some (.int .i64 p)∧W.cell? ⟨b3,o3+i,none⟩=some (.int .i64 p)) 9 (by kernel_rfl) 9 rfl ?_
    refine tk 0 ⟨some 16,.move (.tmp 0),43, "slices.go:25",#[],none⟩ hS0 ?_;simp only [Act.put,sA,s0,sS]
    refine tk 1 ⟨some 17,.move (.tmp 5),3, "slices.go:25",#[],none⟩ hS0 ?_;simp only [Act.put,sA,s0,sS]
    refine tk 2 ⟨some 18,.indexAddr 43 (.tmp 16) (.tmp 17),0, "slices.go:25",#[⟨0,.data⟩,⟨1,.data⟩],none⟩ hS0 ?_;simp only [Act.put,sA,s0,sS]
    refine tk 3 ⟨some 19,.load 3 (.tmp 18),3, "slices.go:25",#[⟨2,.data⟩],none⟩ hS0 ?_;simp only [Act.put,sA,s0,sS]
    refine tk 4 ⟨some 20,.move (.tmp 1),43, "slices.go:25",#[],none⟩ hS0 ?_;simp only [Act.put,sA,s0,sS]
    refine tk 5 ⟨some 21,.move (.tmp 5),3, "slices.go:25",#[],none⟩ hS0 ?_;simp only [Act.put,sA,s0,sS]
    refine tk 6 ⟨some 22,.indexAddr 43 (.tmp 20) (.tmp 21),0, "slices.go:25",#[⟨4,.data⟩,⟨5,.data⟩],none⟩ hS0 ?_;simp only [Act.put,sA,s0,sS]
    refine tk 7 ⟨some 23,.load 3 (.tmp 22),3, "slices.go:25",#[⟨6,.data⟩],none⟩ hS0 ?_;simp only [Act.put,sA,s0,sS]
    refine tk 8 ⟨some 24,.binOp .neq 3 (.tmp 19) (.tmp 23) 3,4, "slices.go:25",#[⟨3,.data⟩,⟨7,.data⟩],none⟩ hS0 ?_;simp only [Act.put,sA,s0,sS]
    refine wpAnyL_done (by kernel_rfl) ?_ _
    clear hS0
    go_wp2_with fail
    exact ⟨⟨i+1,_,by go_num,by omega,HA2.out,HDR.out.choose_spec⟩,by simp [intOf]; omega⟩
  · have hpq':(p != q)=true:=by simpa using hpq
    have HE:Hid (decide (l=m)=false):=HNE.out i (by rw [HX1.out.1,HX1.out.2]; simpa using hpq)
    clear HX1 HAL HEQ HNE
    go_wp2_with fail
    refine wp_region_L (fun W=>W.cell? ⟨b2,o2+i,none⟩=some (.int .i64 p)∧W.cell? ⟨b3,o3+i,none⟩=some (.int .i64 q)) 9 (by kernel_rfl) 9 rfl ?_
    refine tk 0 ⟨some 16,.move (.tmp 0),43, "slices.go:25",#[],none⟩ hS0 ?_;simp only [Act.put,sA,s0,sS]
    refine tk 1 ⟨some 17,.move (.tmp 5),3, "slices.go:25",#[],none⟩ hS0 ?_;simp only [Act.put,sA,s0,sS]
    refine tk 2 ⟨some 18,.indexAddr 43 (.tmp 16) (.tmp 17),0, "slices.go:25",#[⟨0,.data⟩,⟨1,.data⟩],none⟩ hS0 ?_;simp only [Act.put,sA,s0,sS]
    refine tk 3 ⟨some 19,.load 3 (.tmp 18),3, "slices.go:25",#[⟨2,.data⟩],none⟩ hS0 ?_;simp only [Act.put,sA,s0,sS]
    refine tk 4 ⟨some 20,.move (.tmp 1),43, "slices.go:25",#[],none⟩ hS0 ?_;simp only [Act.put,sA,s0,sS]
    refine tk 5 ⟨some 21,.move (.tmp 5),3, "slices.go:25",#[],none⟩ hS0 ?_;simp only [Act.put,sA,s0,sS]
    refine tk 6 ⟨some 22,.indexAddr 43 (.tmp 20) (.tmp 21),0, "slices.go:25",#[⟨4,.data⟩,⟨5,.data⟩],none⟩ hS0 ?_;simp only [Act.put,sA,s0,sS]
    refine tk 7 ⟨some 23,.load 3 (.tmp 22),3, "slices.go:25",#[⟨6,.data⟩],none⟩ hS0 ?_;simp only [Act.put,sA,s0,sS]
    refine tk 8 ⟨some 24,.binOp .neq 3 (.tmp 19) (.tmp 23) 3,4, "slices.go:25",#[⟨3,.data⟩,⟨7,.data⟩],none⟩ hS0 ?_;simp only [Act.put,sA,s0,sS]
    refine wpAnyL_done (by kernel_rfl) ?_ _
    clear hS0
    go_wp2_with fail
    go_ret
    exact ⟨by rw [HE.out]; rfl,HDR.out⟩
set_option maxRecDepth 100000 in
set_option maxHeartbeats 1600000 in
theorem equalG_any (l m:List (Int × Int)) (u v:Value) (w:World) (hl:SlG l u w) (hm:SlG m v w) (hb:l.length≤140737488351232) :
    Calls Tryz.prog 82 #[u,v] w fun e w'=>e=.returned (.bool (decide (l=m)))∧∃ n,w'=w.drewN n:=by
  have HL:Hid (∀ n,SlG l u (w.drewN n)∧SlG m v (w.drewN n)):=fun n=>⟨hl.next (below_drewN (Below.refl _ _) n),hm.next (below_drewN (Below.refl _ _) n)⟩
  obtain ⟨la,lc,rfl,_⟩:=hl
  obtain ⟨ma,mc,rfl,_⟩:=hm
  go_enter Tryz.func82,Tryz.ntmps82
  by_cases e2:l.length=m.length
  case neg =>
    have HE:Hid (decide (l=m)=false):=decide_eq_false (fun h=>e2 (by rw [h]))
    have e2':((l.length:Int) != (m.length:Int))=true:=by simp; omega
    have e2'':¬ (l.length:Int)=(m.length:Int):=by omega
    go_wp2_with fail
    go_ret
    exact ⟨by rw [HE.out]; rfl,0,rfl⟩
  have HEQ:Hid ((∀ k:Nat,k<l.length→l[k]?=m[k]?)→decide (l=m)=true):=fun h=>decide_eq_true (ext_le e2 h)
  have HNE:Hid (∀ k:Nat,l[k]?≠m[k]?→decide (l=m)=false):=fun k h=>decide_eq_false (fun e=>h (by rw [e]))
  have e2':((l.length:Int) != (m.length:Int))=false:=by simp; omega
  have e2'':(l.length:Int)=(m.length:Int):=by omega
  have HLE:Hid (l.length=m.length):=e2
  go_wp2_with fail
  clear e2' e2'' e2
  go_loopw [13] (fun iv wr=>∃ (i n:Nat),iv=.int .i64 i∧i≤l.length∧(∀ k:Nat,k<i→l[k]?=m[k]?)∧wr=w.drewN n) (fun i _=>l.length - (intOf i).toNat)
  case atStart=>exact ⟨0,0,rfl,Nat.zero_le _,fun k hk=>by omega,rfl⟩
  case round =>
  obtain ⟨i,n,rfl,hi,hall,rfl⟩:=hrel
  have HAL:Hid (∀ k:Nat,k<i→l[k]?=m[k]?):=hall
  clear hall
  by_cases hlt:i<l.length
  case neg =>
    have hlt':¬ (i:Int)<m.length:=by have:=HLE.out; omega
    obtain rfl:i=l.length:=by omega
    have HE:Hid (decide (l=m)=true):=HEQ.out HAL.out
    clear HEQ HNE HAL
    go_wp2_with fail
    go_ret
    exact ⟨by rw [HE.out]; rfl,n,rfl⟩
  have hlt2:i<m.length:=by have:=HLE.out; omega
  obtain ⟨⟨_,_,e0,hrl,_⟩,⟨_,_,e1,hrm,_⟩⟩:=HL.out n
  cases e0
  cases e1
  obtain ⟨b2,o2,rfl,hb2,p0,p1',_⟩:=hrl.at (Below.refl _ (w.drewN n)).drew hlt
  obtain ⟨b3,o3,rfl,hb3,q0,q1',_⟩:=hrm.at (Below.refl _ (w.drewN n)).drew hlt2
  have HX1:Hid (l[i]?=some l[i]∧m[i]?=some m[i]):=by constructor <;> simp
  generalize l[i]=p at *
  generalize m[i]=q at *
  obtain ⟨p1,p2⟩:=p
  obtain ⟨q1,q2⟩:=q
  simp only at *
  have hnq:=neqGo p1 p2 q1 q2
  have hS0:(fun W:World=>((W.cell? ⟨b2,o2+i * 2,none⟩=some (.int .i64 p1)∧W.cell? ⟨b2,o2+i * 2+1,none⟩=some (.int .i64 p2))∧(W.cell? ⟨b3,o3+i * 2,none⟩=some (.int .i64 q1)∧W.cell? ⟨b3,o3+i * 2+1,none⟩=some (.int .i64 q2)))) (w.drewN n).drew:=⟨⟨p0,p1'⟩,q0,q1'⟩
  have HDR:Hid (∃ k,(w.drewN n).drew=w.drewN k):=⟨n+1,by rw [← World.drewN_drewN]; rfl⟩
  clear hrl hrm HL p0 p1' q0 q1'
  by_cases hpq:p1=q1∧p2=q2
  · obtain ⟨rfl,rfl⟩:=hpq
    have HA2:Hid (∀ k:Nat,k<i+1→l[k]?=m[k]?):=fun k hk=>by
      rcases Nat.lt_or_ge k i with h | h
      · exact HAL.out k h
      · obtain rfl:k=i:=by omega
        rw [HX1.out.1,HX1.out.2]
    have hnq2:∀ W:World,(binOp .neq 75 (.agg #[.int .i64 p1,.int .i64 p2]) (.agg #[.int .i64 p1,.int .i64 p2])).run Tryz.prog W=.ok (.bool false) W:=fun W=>by rw [hnq W]; simp
    clear hnq HX1 HAL HEQ HNE
    go_wp2_with fail
    refine wp_region_L (fun W=>(W.cell? ⟨b2,o2+i * 2,none⟩=some (.int .i64 p1)∧W.cell? ⟨b2,o2+i * 2+1,none⟩=some (.int .i64 p2))∧(W.cell? ⟨b3,o3+i * 2,none⟩=some (.int .i64 p1)∧W.cell? ⟨b3,o3+i * 2+1,none⟩=some (.int .i64 p2))) 9 (by kernel_rfl) 9 rfl ?_
    refine tk 0 ⟨some 16,.move (.tmp 0),66, "slices.go:25",#[],none⟩ hS0 ?_;simp only [Act.put,sA,s0,sS]
    refine tk 1 ⟨some 17,.move (.tmp 5),3, "slices.go:25",#[],none⟩ hS0 ?_;simp only [Act.put,sA,s0,sS]
    refine tk 2 ⟨some 18,.indexAddr 66 (.tmp 16) (.tmp 17),0, "slices.go:25",#[⟨0,.data⟩,⟨1,.data⟩],none⟩ hS0 ?_;simp only [Act.put,sA,s0,sS]
    refine tk 3 ⟨some 19,.load 75 (.tmp 18),75, "slices.go:25",#[⟨2,.data⟩],none⟩ hS0 ?_;simp only [Act.put,sA,s0,sS]
    refine tk 4 ⟨some 20,.move (.tmp 1),66, "slices.go:25",#[],none⟩ hS0 ?_;simp only [Act.put,sA,s0,sS]
    refine tk 5 ⟨some 21,.move (.tmp 5),3, "slices.go:25",#[],none⟩ hS0 ?_;simp only [Act.put,sA,s0,sS]
    refine tk 6 ⟨some 22,.indexAddr 66 (.tmp 20) (.tmp 21),0, "slices.go:25",#[⟨4,.data⟩,⟨5,.data⟩],none⟩ hS0 ?_;simp only [Act.put,sA,s0,sS]
    refine tk 7 ⟨some 23,.load 75 (.tmp 22),75, "slices.go:25",#[⟨6,.data⟩],none⟩ hS0 ?_;simp only [Act.put,sA,s0,sS]
    refine tk 8 ⟨some 24,.binOp .neq 75 (.tmp 19) (.tmp 23) 75,4, "slices.go:25",#[⟨3,.data⟩,⟨7,.data⟩],none⟩ hS0 ?_;simp only [Act.put,sA,s0,sS]
    refine wpAnyL_done (by kernel_rfl) ?_ _
    clear hS0 hnq2
    go_wp2_with fail
    exact ⟨⟨i+1,_,by go_num,by omega,HA2.out,HDR.out.choose_spec⟩,by simp [intOf]; omega⟩
  · have HE:Hid (decide (l=m)=false):=HNE.out i (by rw [HX1.out.1,HX1.out.2]; simpa using hpq)
    have hnq2:∀ W:World,(binOp .neq 75 (.agg #[.int .i64 p1,.int .i64 p2]) (.agg #[.int .i64 q1,.int .i64 q2])).run Tryz.prog W=.ok (.bool true) W:=fun W=>by
      rw [hnq W]
      have:(p1 == q1 && p2 == q2)=false:=by
        cases h:(p1 == q1 && p2 == q2)
        · rfl
        · exact absurd (by simpa using h) hpq
      rw [this]; rfl
    clear hnq HX1 HAL HEQ HNE hpq
    go_wp2_with fail
    refine wp_region_L (fun W=>(W.cell? ⟨b2,o2+i * 2,none⟩=some (.int .i64 p1)∧W.cell? ⟨b2,o2+i * 2+1,none⟩=some (.int .i64 p2))∧(W.cell? ⟨b3,o3+i * 2,none⟩=some (.int .i64 q1)∧W.cell? ⟨b3,o3+i * 2+1,none⟩=some (.int .i64 q2))) 9 (by kernel_rfl) 9 rfl ?_
    refine tk 0 ⟨some 16,.move (.tmp 0),66, "slices.go:25",#[],none⟩ hS0 ?_;simp only [Act.put,sA,s0,sS]
    refine tk 1 ⟨some 17,.move (.tmp 5),3, "slices.go:25",#[],none⟩ hS0 ?_;simp only [Act.put,sA,s0,sS]
    refine tk 2 ⟨some 18,.indexAddr 66 (.tmp 16) (.tmp 17),0, "slices.go:25",#[⟨0,.data⟩,⟨1,.data⟩],none⟩ hS0 ?_;simp only [Act.put,sA,s0,sS]
    refine tk 3 ⟨some 19,.load 75 (.tmp 18),75, "slices.go:25",#[⟨2,.data⟩],none⟩ hS0 ?_;simp only [Act.put,sA,s0,sS]
    refine tk 4 ⟨some 20,.move (.tmp 1),66, "slices.go:25",#[],none⟩ hS0 ?_;simp only [Act.put,sA,s0,sS]
    refine tk 5 ⟨some 21,.move (.tmp 5),3, "slices.go:25",#[],none⟩ hS0 ?_;simp only [Act.put,sA,s0,sS]
    refine tk 6 ⟨some 22,.indexAddr 66 (.tmp 20) (.tmp 21),0, "slices.go:25",#[⟨4,.data⟩,⟨5,.data⟩],none⟩ hS0 ?_;simp only [Act.put,sA,s0,sS]
    refine tk 7 ⟨some 23,.load 75 (.tmp 22),75, "slices.go:25",#[⟨6,.data⟩],none⟩ hS0 ?_;simp only [Act.put,sA,s0,sS]
    refine tk 8 ⟨some 24,.binOp .neq 75 (.tmp 19) (.tmp 23) 75,4, "slices.go:25",#[⟨3,.data⟩,⟨7,.data⟩],none⟩ hS0 ?_;simp only [Act.put,sA,s0,sS]
    refine wpAnyL_done (by kernel_rfl) ?_ _
    clear hS0 hnq2
    go_wp2_with fail
    go_ret
    exact ⟨by rw [HE.out]; rfl,HDR.out⟩
set_option maxRecDepth 100000 in
set_option maxHeartbeats 1600000 in
theorem sameAct_any (a b:Ac) (u v:Value) (w:World) (hu:SlI a.red u w) (hv:SlI b.red v w) (hbd:a.red.length≤140737488351232) :
    Calls Tryz.prog 81 #[.agg #[.int .i64 a.look,.int .i64 a.to,u,.bool a.acc],.agg #[.int .i64 b.look,.int .i64 b.to,v,.bool b.acc]] w fun e w'=>e=.returned (.bool (decide (a=b)))∧Below w.heap.size w w':=by
  have HU:Hid (∀ W,Below w.heap.size w W→SlI a.red u W∧SlI b.red v W):=fun W hb=>⟨hu.next hb,hv.next hb⟩
  obtain ⟨ua,uc,rfl,_⟩:=hu
  obtain ⟨va,vc,rfl,_⟩:=hv
  obtain ⟨a0,a1,ar,a3⟩:=a
  obtain ⟨b0,b1,br,b3⟩:=b
  simp only at *
  have B0:Below w.heap.size w ((w.alloc (Obj.cells #[.int .i64 a0,.int .i64 a1,.slice ua ar.length uc,.bool a3] 45)).alloc (Obj.cells #[.int .i64 b0,.int .i64 b1,.slice va br.length vc,.bool b3] 45)):=((Below.refl _ _).alloc (Nat.le_refl _) _).alloc (by simp) _
  have x0:((w.alloc (Obj.cells #[.int .i64 a0,.int .i64 a1,.slice ua ar.length uc,.bool a3] 45)).alloc (Obj.cells #[.int .i64 b0,.int .i64 b1,.slice va br.length vc,.bool b3] 45)).cell? ⟨w.heap.size,0,none⟩=some (.int .i64 a0):=by simp
  have x1:((w.alloc (Obj.cells #[.int .i64 a0,.int .i64 a1,.slice ua ar.length uc,.bool a3] 45)).alloc (Obj.cells #[.int .i64 b0,.int .i64 b1,.slice va br.length vc,.bool b3] 45)).cell? ⟨w.heap.size,1,none⟩=some (.int .i64 a1):=by simp
  have x2:((w.alloc (Obj.cells #[.int .i64 a0,.int .i64 a1,.slice ua ar.length uc,.bool a3] 45)).alloc (Obj.cells #[.int .i64 b0,.int .i64 b1,.slice va br.length vc,.bool b3] 45)).cell? ⟨w.heap.size,2,none⟩=some (.slice ua ar.length uc):=by simp
  have x3:((w.alloc (Obj.cells #[.int .i64 a0,.int .i64 a1,.slice ua ar.length uc,.bool a3] 45)).alloc (Obj.cells #[.int .i64 b0,.int .i64 b1,.slice va br.length vc,.bool b3] 45)).cell? ⟨w.heap.size,3,none⟩=some (.bool a3):=by simp
  have y0:((w.alloc (Obj.cells #[.int .i64 a0,.int .i64 a1,.slice ua ar.length uc,.bool a3] 45)).alloc (Obj.cells #[.int .i64 b0,.int .i64 b1,.slice va br.length vc,.bool b3] 45)).cell? ⟨w.heap.size+1,0,none⟩=some (.int .i64 b0):=by simp
  have y1:((w.alloc (Obj.cells #[.int .i64 a0,.int .i64 a1,.slice ua ar.length uc,.bool a3] 45)).alloc (Obj.cells #[.int .i64 b0,.int .i64 b1,.slice va br.length vc,.bool b3] 45)).cell? ⟨w.heap.size+1,1,none⟩=some (.int .i64 b1):=by simp
  have y2:((w.alloc (Obj.cells #[.int .i64 a0,.int .i64 a1,.slice ua ar.length uc,.bool a3] 45)).alloc (Obj.cells #[.int .i64 b0,.int .i64 b1,.slice va br.length vc,.bool b3] 45)).cell? ⟨w.heap.size+1,2,none⟩=some (.slice va br.length vc):=by simp
  have y3:((w.alloc (Obj.cells #[.int .i64 a0,.int .i64 a1,.slice ua ar.length uc,.bool a3] 45)).alloc (Obj.cells #[.int .i64 b0,.int .i64 b1,.slice va br.length vc,.bool b3] 45)).cell? ⟨w.heap.size+1,3,none⟩=some (.bool b3):=by simp
  go_enter Tryz.func81,Tryz.ntmps81
  go_upto_region 1 with fail
  have HQ:=equalI_any ar br _ _ _ (HU.out _ B0).1 (HU.out _ B0).2 hbd
  generalize ((w.alloc (Obj.cells #[.int .i64 a0,.int .i64 a1,.slice ua ar.length uc,.bool a3] 45)).alloc (Obj.cells #[.int .i64 b0,.int .i64 b1,.slice va br.length vc,.bool b3] 45))=w0 at *
  by_cases e0:a0=b0
  case neg =>
    have HE:Hid (decide ((⟨a0,a1,ar,a3⟩:Ac)=⟨b0,b1,br,b3⟩)=false):=decide_eq_false (fun h=>e0 (by cases h; rfl))
    have e0':(a0 == b0)=false:=by simpa using e0
    go_wp2_with fail
    go_ret
    exact ⟨by rw [HE.out]; rfl,B0⟩
  subst e0
  by_cases e1:a1=b1
  case neg =>
    have HE:Hid (decide ((⟨a0,a1,ar,a3⟩:Ac)=⟨a0,b1,br,b3⟩)=false):=decide_eq_false (fun h=>e1 (by cases h; rfl))
    have e1':(a1 == b1)=false:=by simpa using e1
    go_wp2_with fail
    go_ret
    exact ⟨by rw [HE.out]; rfl,B0⟩
  subst e1
  by_cases e3:a3=b3
  case neg =>
    have HE:Hid (decide ((⟨a0,a1,ar,a3⟩:Ac)=⟨a0,a1,br,b3⟩)=false):=decide_eq_false (fun h=>e3 (by cases h; rfl))
    have e3':(a3 == b3)=false:=by simpa using e3
    go_wp2_with fail
    go_ret
    exact ⟨by rw [HE.out]; rfl,B0⟩
  subst e3
  have HE:Hid (decide ((⟨a0,a1,ar,a3⟩:Ac)=⟨a0,a1,br,a3⟩)=decide (ar=br)):=by
    by_cases h:ar=br
    · rw [decide_eq_true h]; exact decide_eq_true (by rw [h])
    · rw [decide_eq_false h]; exact decide_eq_false (fun e=>h (by cases e; rfl))
  go_wp2_with fail
  refine HQ.mono ?_
  rintro e w5 ⟨rfl,n,rfl⟩
  have B5:=below_drewN B0 n
  clear HQ x0 x1 x2 x3 y0 y1 y2 y3
  go_wp2_with fail
  go_ret
  exact ⟨by rw [HE.out]; rfl,B5⟩
set_option maxRecDepth 100000 in
set_option maxHeartbeats 1600000 in
theorem equalFA_any (l m:List Ac) (u v:Value) (w:World) (hl:SlA l u w) (hm:SlA m v w) :
    Calls Tryz.prog 80 #[u,v,.func (.func 81) #[] #[]] w fun e w'=>e=.returned (.bool (decide (l=m)))∧Below w.heap.size w w':=by
  have HSA:Hid (∀ (a b:Ac) (u v:Value) W,SlI a.red u W→SlI b.red v W→a.red.length≤140737488351232→Calls Tryz.prog 81 #[.agg #[.int .i64 a.look,.int .i64 a.to,u,.bool a.acc],.agg #[.int .i64 b.look,.int .i64 b.to,v,.bool b.acc]] W fun e w'=>e=.returned (.bool (decide (a=b)))∧Below W.heap.size W w'):=fun a b u v W h1 h2 h3=>sameAct_any a b u v W h1 h2 h3
  have HL:Hid (∀ W,Below w.heap.size w W→SlA l u W∧SlA m v W):=fun W hb=>⟨hl.next hb,hm.next hb⟩
  obtain ⟨la,lc,rfl,_,_,_,hlb⟩:=hl
  obtain ⟨ma,mc,rfl,_⟩:=hm
  go_enter Tryz.func80,Tryz.ntmps80
  by_cases e2:l.length=m.length
  case neg =>
    have HE:Hid (decide (l=m)=false):=decide_eq_false (fun h=>e2 (by rw [h]))
    have e2':((l.length:Int) != (m.length:Int))=true:=by simp; omega
    have e2'':¬ (l.length:Int)=(m.length:Int):=by omega
    go_wp2_with fail
    go_ret
    exact ⟨by rw [HE.out]; rfl,Below.refl _ _⟩
  have HEQ:Hid ((∀ k:Nat,k<l.length→l[k]?=m[k]?)→decide (l=m)=true):=fun h=>decide_eq_true (ext_le e2 h)
  have HNE:Hid (∀ k:Nat,l[k]?≠m[k]?→decide (l=m)=false):=fun k h=>decide_eq_false (fun e=>h (by rw [e]))
  have e2':((l.length:Int) != (m.length:Int))=false:=by simp; omega
  have e2'':(l.length:Int)=(m.length:Int):=by omega
  have HLE:Hid (l.length=m.length):=e2
  go_wp2_with fail
  clear e2' e2'' e2
  go_loopw [17] (fun iv wr=>∃ (i:Nat),iv=.int .i64 i∧i≤l.length∧(∀ k:Nat,k<i→l[k]?=m[k]?)∧Below w.heap.size w wr) (fun i _=>l.length - (intOf i).toNat)
  case atStart=>exact ⟨0,rfl,Nat.zero_le _,fun k hk=>by omega,Below.refl _ _⟩
  case round =>
  obtain ⟨i,rfl,hi,hall,BR⟩:=hrel
  have HAL:Hid (∀ k:Nat,k<i→l[k]?=m[k]?):=hall
  clear hall
  by_cases hlt:i<l.length
  case neg =>
    have hlt':¬ (i:Int)<m.length:=by have:=HLE.out; omega
    obtain rfl:i=l.length:=by omega
    have HE:Hid (decide (l=m)=true):=HEQ.out HAL.out
    clear HEQ HNE HAL
    go_wp2_with fail
    go_ret
    exact ⟨by rw [HE.out]; rfl,BR⟩
  have hlt2:i<m.length:=by have:=HLE.out; omega
  obtain ⟨⟨_,_,e0,hrl,_⟩,⟨_,_,e1,hrm,_⟩⟩:=HL.out _ BR
  cases e0
  cases e1
  obtain ⟨b2,o2,pv,rfl,hb2,p0,p1,p2,p3,hpr,_,_,hpb⟩:=hrl.at (Below.refl _ _) hlt
  obtain ⟨b3,o3,qv,rfl,hb3,q0',q1',q2',q3',hqr,_⟩:=hrm.at (Below.refl _ _) hlt2
  have HX1:Hid (l[i]?=some l[i]∧m[i]?=some m[i]):=by constructor <;> simp
  generalize l[i]=p at *
  generalize m[i]=q at *
  have HP2:Hid (∀ W,Below wr.heap.size wr W→SlI p.red pv W∧SlI q.red qv W):=fun W hb=>⟨hpr.next hb,hqr.next hb⟩
  obtain ⟨pa,pc,rfl,_⟩:=hpr
  obtain ⟨qa,qc,rfl,_⟩:=hqr
  have b1:Below wr.heap.size wr (wr.alloc (Obj.cells #[.int .i64 p.look,.int .i64 p.to,.slice pa p.red.length pc,.bool p.acc] 45)):=(Below.refl _ _).alloc (Nat.le_refl _) _
  have b2':Below wr.heap.size wr ((wr.alloc (Obj.cells #[.int .i64 p.look,.int .i64 p.to,.slice pa p.red.length pc,.bool p.acc] 45)).alloc (Obj.cells #[.int .i64 q.look,.int .i64 q.to,.slice qa q.red.length qc,.bool q.acc] 45)):=b1.alloc b1.size _
  have q0:=(b1.cell (p:=⟨b3,o3+i * 4,none⟩) hb3).trans q0'
  have q1:=(b1.cell (p:=⟨b3,o3+i * 4+1,none⟩) hb3).trans q1'
  have q2:=(b1.cell (p:=⟨b3,o3+i * 4+2,none⟩) hb3).trans q2'
  have q3:=(b1.cell (p:=⟨b3,o3+i * 4+3,none⟩) hb3).trans q3'
  have HQ:=HSA.out p q _ _ _ (HP2.out _ b2').1 (HP2.out _ b2').2 hpb
  have c0:=True.intro
  clear q0' q1' q2' q3' HP2 b1 b2'
  have bx:Below w.heap.size w ((wr.alloc (Obj.cells #[.int .i64 p.look,.int .i64 p.to,.slice pa p.red.length pc,.bool p.acc] 45)).alloc (Obj.cells #[.int .i64 q.look,.int .i64 q.to,.slice qa q.red.length qc,.bool q.acc] 45)):=(BR.alloc BR.size _).alloc (by have:=BR.size; simp; omega) _
  clear hrl hrm HL
  go_wp2_with fail
  clear c0
  generalize (wr.alloc (Obj.cells #[.int .i64 p.look,.int .i64 p.to,.slice pa p.red.length pc,.bool p.acc] 45)).alloc (Obj.cells #[.int .i64 q.look,.int .i64 q.to,.slice qa q.red.length qc,.bool q.acc] 45)=w2 at *
  refine HQ.mono ?_
  rintro e w3 ⟨rfl,b3⟩
  have B3:=below_then bx b3 bx.size
  clear HQ b3
  by_cases hpq:p=q
  · have HA2:Hid (∀ k:Nat,k<i+1→l[k]?=m[k]?):=fun k hk=>by
      rcases Nat.lt_or_ge k i with h | h
      · exact HAL.out k h
      · obtain rfl:k=i:=by omega
        rw [HX1.out.1,HX1.out.2,hpq]
    have hd:decide (p=q)=true:=decide_eq_true hpq
    rw [hd]
    clear hd hpq HX1 HAL HEQ HNE
    go_wp2_with fail
    exact ⟨⟨i+1,by go_num,by omega,HA2.out,B3⟩,by simp [intOf]; omega⟩
  · have HE:Hid (decide (l=m)=false):=HNE.out i (by rw [HX1.out.1,HX1.out.2]; simpa using hpq)
    have hd:decide (p=q)=false:=decide_eq_false hpq
    rw [hd]
    clear hd HX1 HAL HEQ HNE hpq
    go_wp2_with fail
    go_ret
    exact ⟨by rw [HE.out]; rfl,B3⟩
set_option maxRecDepth 100000 in
set_option maxHeartbeats 1600000 in
theorem sameRow_any (a b:Rw) (va vg ua ug:Value) (w:World) (h1:SlA a.acts va w) (h2:SlG a.goes vg w) (h3:SlA b.acts ua w) (h4:SlG b.goes ug w) :
    Calls Tryz.prog 44 #[.agg #[va,vg],.agg #[ua,ug]] w fun e w'=>e=.returned (.bool (decide (a=b)))∧Below w.heap.size w w':=by
  have HU:Hid (∀ W,Below w.heap.size w W→(SlA a.acts va W∧SlA b.acts ua W)∧SlG a.goes vg W∧SlG b.goes ug W):=fun W hb=>⟨⟨h1.next hb,h3.next hb⟩,h2.next hb,h4.next hb⟩
  obtain ⟨aa,ac,rfl,_⟩:=h1
  obtain ⟨ga,gc,rfl,_,_,_,hgb⟩:=h2
  obtain ⟨ba,bc,rfl,_⟩:=h3
  obtain ⟨ha,hc,rfl,_⟩:=h4
  have B0:Below w.heap.size w ((w.alloc (Obj.cells #[.slice aa a.acts.length ac,.slice ga a.goes.length gc] 68)).alloc (Obj.cells #[.slice ba b.acts.length bc,.slice ha b.goes.length hc] 68)):=((Below.refl _ _).alloc (Nat.le_refl _) _).alloc (by simp) _
  have x0:((w.alloc (Obj.cells #[.slice aa a.acts.length ac,.slice ga a.goes.length gc] 68)).alloc (Obj.cells #[.slice ba b.acts.length bc,.slice ha b.goes.length hc] 68)).cell? ⟨w.heap.size,0,none⟩=some (.slice aa a.acts.length ac):=by simp
  have x1:((w.alloc (Obj.cells #[.slice aa a.acts.length ac,.slice ga a.goes.length gc] 68)).alloc (Obj.cells #[.slice ba b.acts.length bc,.slice ha b.goes.length hc] 68)).cell? ⟨w.heap.size,1,none⟩=some (.slice ga a.goes.length gc):=by simp
  have y0:((w.alloc (Obj.cells #[.slice aa a.acts.length ac,.slice ga a.goes.length gc] 68)).alloc (Obj.cells #[.slice ba b.acts.length bc,.slice ha b.goes.length hc] 68)).cell? ⟨w.heap.size+1,0,none⟩=some (.slice ba b.acts.length bc):=by simp
  have y1:((w.alloc (Obj.cells #[.slice aa a.acts.length ac,.slice ga a.goes.length gc] 68)).alloc (Obj.cells #[.slice ba b.acts.length bc,.slice ha b.goes.length hc] 68)).cell? ⟨w.heap.size+1,1,none⟩=some (.slice ha b.goes.length hc):=by simp
  have HQ:=equalFA_any a.acts b.acts _ _ _ (HU.out _ B0).1.1 (HU.out _ B0).1.2
  have HG:Hid (∀ W,Below w.heap.size w W→Calls Tryz.prog 82 #[.slice ga a.goes.length gc,.slice ha b.goes.length hc] W fun e w'=>e=.returned (.bool (decide (a.goes=b.goes)))∧∃ n,w'=W.drewN n):=fun W hb=>equalG_any a.goes b.goes _ _ W (HU.out _ hb).2.1 (HU.out _ hb).2.2 hgb
  have hs2:((w.alloc (Obj.cells #[.slice aa a.acts.length ac,.slice ga a.goes.length gc] 68)).alloc (Obj.cells #[.slice ba b.acts.length bc,.slice ha b.goes.length hc] 68)).heap.size=w.heap.size+2:=by simp
  go_enter Tryz.func44,Tryz.ntmps44
  go_wp2_with fail
  generalize ((w.alloc (Obj.cells #[.slice aa a.acts.length ac,.slice ga a.goes.length gc] 68)).alloc (Obj.cells #[.slice ba b.acts.length bc,.slice ha b.goes.length hc] 68))=w0 at *
  refine HQ.mono ?_
  rintro e w1 ⟨rfl,b1⟩
  have B1:=below_then B0 b1 B0.size
  have x1':=(b1.cell (p:=⟨w.heap.size,1,none⟩) (by simp only; omega)).trans x1
  have y1':=(b1.cell (p:=⟨w.heap.size+1,1,none⟩) (by simp only; omega)).trans y1
  clear HQ b1 x0 x1 y0 y1 hs2
  by_cases ha':a.acts=b.acts
  case neg =>
    have HE:Hid (decide (a=b)=false):=decide_eq_false (fun h=>ha' (by rw [h]))
    have hd:decide (a.acts=b.acts)=false:=decide_eq_false ha'
    rw [hd]
    clear hd ha'
    go_wp2_with fail
    go_ret
    exact ⟨by rw [HE.out]; rfl,B1⟩
  have hd:decide (a.acts=b.acts)=true:=decide_eq_true ha'
  have HE:Hid (decide (a=b)=decide (a.goes=b.goes)):=by
    obtain ⟨a1,a2⟩:=a
    obtain ⟨b1,b2⟩:=b
    simp only at ha'
    subst ha'
    by_cases h:a2=b2
    · show decide _=decide (a2=b2)
      rw [decide_eq_true h]; exact decide_eq_true (by rw [h])
    · show decide _=decide (a2=b2)
      rw [decide_eq_false h]; exact decide_eq_false (fun e=>h (by cases e; rfl))
  rw [hd]
  have HG1:=HG.out _ B1
  clear hd ha' HG HU
  go_wp2_with fail
  refine HG1.mono ?_
  rintro e w2 ⟨rfl,n,rfl⟩
  have B2:=below_drewN B1 n
  clear HG1
  go_wp2_with fail
  go_ret
  exact ⟨by rw [HE.out]; rfl,B2⟩
set_option maxRecDepth 100000 in
set_option maxHeartbeats 1600000 in
theorem equalFR_any (l m:List Rw) (u v:Value) (w:World) (hl:SlW l u w) (hm:SlW m v w) :
    Calls Tryz.prog 43 #[u,v,.func (.func 44) #[] #[]] w fun e w'=>e=.returned (.bool (decide (l=m)))∧Below w.heap.size w w':=by
  have HSA:Hid (∀ (a b:Rw) (va vg ua ug:Value) (W:World),SlA a.acts va W→SlG a.goes vg W→SlA b.acts ua W→SlG b.goes ug W→Calls Tryz.prog 44 #[.agg #[va,vg],.agg #[ua,ug]] W fun e w'=>e=.returned (.bool (decide (a=b)))∧Below W.heap.size W w'):=fun a b va vg ua ug W h1 h2 h3 h4=>sameRow_any a b va vg ua ug W h1 h2 h3 h4
  have HL:Hid (∀ W,Below w.heap.size w W→SlW l u W∧SlW m v W):=fun W hb=>⟨hl.next hb,hm.next hb⟩
  obtain ⟨la,lc,rfl,_,_,_,hlb⟩:=hl
  obtain ⟨ma,mc,rfl,_⟩:=hm
  go_enter Tryz.func43,Tryz.ntmps43
  by_cases e2:l.length=m.length
  case neg =>
    have HE:Hid (decide (l=m)=false):=decide_eq_false (fun h=>e2 (by rw [h]))
    have e2':((l.length:Int) != (m.length:Int))=true:=by simp; omega
    have e2'':¬ (l.length:Int)=(m.length:Int):=by omega
    go_wp2_with fail
    go_ret
    exact ⟨by rw [HE.out]; rfl,Below.refl _ _⟩
  have HEQ:Hid ((∀ k:Nat,k<l.length→l[k]?=m[k]?)→decide (l=m)=true):=fun h=>decide_eq_true (ext_le e2 h)
  have HNE:Hid (∀ k:Nat,l[k]?≠m[k]?→decide (l=m)=false):=fun k h=>decide_eq_false (fun e=>h (by rw [e]))
  have e2':((l.length:Int) != (m.length:Int))=false:=by simp; omega
  have e2'':(l.length:Int)=(m.length:Int):=by omega
  have HLE:Hid (l.length=m.length):=e2
  go_wp2_with fail
  clear e2' e2'' e2
  go_loopw [17] (fun iv wr=>∃ (i:Nat),iv=.int .i64 i∧i≤l.length∧(∀ k:Nat,k<i→l[k]?=m[k]?)∧Below w.heap.size w wr) (fun i _=>l.length - (intOf i).toNat)
  case atStart=>exact ⟨0,rfl,Nat.zero_le _,fun k hk=>by omega,Below.refl _ _⟩
  case round =>
  obtain ⟨i,rfl,hi,hall,BR⟩:=hrel
  have HAL:Hid (∀ k:Nat,k<i→l[k]?=m[k]?):=hall
  clear hall
  by_cases hlt:i<l.length
  case neg =>
    have hlt':¬ (i:Int)<m.length:=by have:=HLE.out; omega
    obtain rfl:i=l.length:=by omega
    have HE:Hid (decide (l=m)=true):=HEQ.out HAL.out
    clear HEQ HNE HAL
    go_wp2_with fail
    go_ret
    exact ⟨by rw [HE.out]; rfl,BR⟩
  have hlt2:i<m.length:=by have:=HLE.out; omega
  obtain ⟨⟨_,_,e0,hrl,_⟩,⟨_,_,e1,hrm,_⟩⟩:=HL.out _ BR
  cases e0
  cases e1
  obtain ⟨b2,o2,pv,gv,rfl,hb2,p0,p1,hpr,hpg⟩:=hrl.at (Below.refl _ _) hlt
  obtain ⟨b3,o3,qv,hv,rfl,hb3,q0',q1',hqr,hqg⟩:=hrm.at (Below.refl _ _) hlt2
  have HX1:Hid (l[i]?=some l[i]∧m[i]?=some m[i]):=by constructor <;> simp
  generalize l[i]=p at *
  generalize m[i]=q at *
  have HP2:Hid (∀ W,Below wr.heap.size wr W→(SlA p.acts pv W∧SlG p.goes gv W)∧SlA q.acts qv W∧SlG q.goes hv W):=fun W hb=>⟨⟨hpr.next hb,hpg.next hb⟩,hqr.next hb,hqg.next hb⟩
  obtain ⟨pa,pc,rfl,_⟩:=hpr
  obtain ⟨qa,qc,rfl,_⟩:=hqr
  obtain ⟨ga,gc,rfl,_⟩:=hpg
  obtain ⟨ha,hc,rfl,_⟩:=hqg
  have b1:Below wr.heap.size wr (wr.alloc (Obj.cells #[.slice pa p.acts.length pc,.slice ga p.goes.length gc] 68)):=(Below.refl _ _).alloc (Nat.le_refl _) _
  have b2':Below wr.heap.size wr ((wr.alloc (Obj.cells #[.slice pa p.acts.length pc,.slice ga p.goes.length gc] 68)).alloc (Obj.cells #[.slice qa q.acts.length qc,.slice ha q.goes.length hc] 68)):=b1.alloc b1.size _
  have q0:=(b1.cell (p:=⟨b3,o3+i * 2,none⟩) hb3).trans q0'
  have q1:=(b1.cell (p:=⟨b3,o3+i * 2+1,none⟩) hb3).trans q1'
  have HQ:=HSA.out p q _ _ _ _ _ (HP2.out _ b2').1.1 (HP2.out _ b2').1.2 (HP2.out _ b2').2.1 (HP2.out _ b2').2.2
  have c0:=True.intro
  clear q0' q1' HP2 b1 b2'
  have bx:Below w.heap.size w ((wr.alloc (Obj.cells #[.slice pa p.acts.length pc,.slice ga p.goes.length gc] 68)).alloc (Obj.cells #[.slice qa q.acts.length qc,.slice ha q.goes.length hc] 68)):=(BR.alloc BR.size _).alloc (by have:=BR.size; simp; omega) _
  clear hrl hrm HL
  go_wp2_with fail
  clear c0
  generalize (wr.alloc (Obj.cells #[.slice pa p.acts.length pc,.slice ga p.goes.length gc] 68)).alloc (Obj.cells #[.slice qa q.acts.length qc,.slice ha q.goes.length hc] 68)=w2 at *
  refine HQ.mono ?_
  rintro e w3 ⟨rfl,b3⟩
  have B3:=below_then bx b3 bx.size
  clear HQ b3
  by_cases hpq:p=q
  · have HA2:Hid (∀ k:Nat,k<i+1→l[k]?=m[k]?):=fun k hk=>by
      rcases Nat.lt_or_ge k i with h | h
      · exact HAL.out k h
      · obtain rfl:k=i:=by omega
        rw [HX1.out.1,HX1.out.2,hpq]
    have hd:decide (p=q)=true:=decide_eq_true hpq
    rw [hd]
    clear hd hpq HX1 HAL HEQ HNE
    go_wp2_with fail
    exact ⟨⟨i+1,by go_num,by omega,HA2.out,B3⟩,by simp [intOf]; omega⟩
  · have HE:Hid (decide (l=m)=false):=HNE.out i (by rw [HX1.out.1,HX1.out.2]; simpa using hpq)
    have hd:decide (p=q)=false:=decide_eq_false hpq
    rw [hd]
    clear hd HX1 HAL HEQ HNE hpq
    go_wp2_with fail
    go_ret
    exact ⟨by rw [HE.out]; rfl,B3⟩
set_option maxRecDepth 100000 in
theorem same12_any (l m:List Rw) (u v:Value) (w:World) (hl:SlW l u w) (hm:SlW m v w) :
    Calls Tryz.prog 18 #[.agg #[u],.agg #[v]] w fun e w'=>e=.returned (.bool (decide (l=m)))∧Below w.heap.size w w':=by
  have B0:Below w.heap.size w ((w.alloc (Obj.cells #[u] 30)).alloc (Obj.cells #[v] 30)):=((Below.refl _ _).alloc (Nat.le_refl _) _).alloc (by simp) _
  have HQ:=equalFR_any l m u v _ (hl.next B0) (hm.next B0)
  obtain ⟨la,lc,rfl,_⟩:=hl
  obtain ⟨ma,mc,rfl,_⟩:=hm
  go_enter Tryz.func18,Tryz.ntmps18
  go_wp2_with fail
  generalize (w.alloc (Obj.cells #[.slice la l.length lc] 30)).alloc (Obj.cells #[.slice ma m.length mc] 30)=w0 at *
  refine HQ.mono ?_
  rintro e w1 ⟨rfl,b1⟩
  have B1:=below_then B0 b1 B0.size
  clear HQ b1 B0
  go_wp2_with fail
  go_ret
  exact ⟨rfl,B1⟩
def doesF (a:Ac):Bool:=decide (a.to≠-1∨0<a.red.length∨a.acc=true)
set_option maxRecDepth 100000 in
theorem does_any (a:Ac) (u:Value) (w:World) (hu:SlI a.red u w) :
    Calls Tryz.prog 74 #[.agg #[.int .i64 a.look,.int .i64 a.to,u,.bool a.acc]] w fun e w'=>e=.returned (.bool (doesF a))∧Below w.heap.size w w':=by
  obtain ⟨ua,uc,rfl,_⟩:=hu
  obtain ⟨a0,a1,ar,a3⟩:=a
  simp only at *
  have HD:Hid (doesF ⟨a0,a1,ar,a3⟩=decide (a1≠-1∨0<ar.length∨a3=true)):=rfl
  have B0:Below w.heap.size w (w.alloc (Obj.cells #[.int .i64 a0,.int .i64 a1,.slice ua ar.length uc,.bool a3] 45)):=(Below.refl _ _).alloc (Nat.le_refl _) _
  generalize ar.length=N at *
  go_enter Tryz.func74,Tryz.ntmps74
  by_cases ht:a1=-1
  · subst ht
    by_cases hr:N=0
    · subst hr
      have HE:Hid (doesF ⟨a0,-1,ar,a3⟩=a3):=HD.out.trans (by cases a3 <;> simp)
      clear HD
      go_wp2_with fail
      go_ret
      exact ⟨by rw [HE.out]; rfl,B0⟩
    · have hr':(N:Int) > 0:=by omega
      have hd:decide ((N:Int) > 0)=true:=decide_eq_true hr'
      have HE:Hid (doesF ⟨a0,-1,ar,a3⟩=true):=HD.out.trans (decide_eq_true (.inr (.inl (by omega))))
      clear HD
      go_wp2_with fail
      go_ret
      exact ⟨by rw [HE.out]; rfl,B0⟩
  · have ht2:(a1 != -1)=true:=by simpa using ht
    have HE:Hid (doesF ⟨a0,a1,ar,a3⟩=true):=HD.out.trans (decide_eq_true (.inl ht))
    clear HD
    go_wp2_with fail
    go_ret
    exact ⟨by rw [HE.out]; rfl,B0⟩
set_option maxRecDepth 100000 in
theorem byLook_any (a:Ac) (u:Value) (w:World) (hu:SlI a.red u w) :
    Calls Tryz.prog 76 #[.agg #[.int .i64 a.look,.int .i64 a.to,u,.bool a.acc]] w fun e w'=>e=.returned (.int .i64 a.look)∧Below w.heap.size w w':=by
  obtain ⟨ua,uc,rfl,_⟩:=hu
  have B0:Below w.heap.size w (w.alloc (Obj.cells #[.int .i64 a.look,.int .i64 a.to,.slice ua a.red.length uc,.bool a.acc] 45)):=(Below.refl _ _).alloc (Nat.le_refl _) _
  go_enter Tryz.func76,Tryz.ntmps76
  go_wp2_with fail
  go_ret
  exact ⟨rfl,B0⟩
set_option maxRecDepth 100000 in
theorem bySym_any (a b:Int) (w:World) :
    Calls Tryz.prog 79 #[.agg #[.int .i64 a,.int .i64 b]] w fun e w'=>e=.returned (.int .i64 a)∧Below w.heap.size w w':=by
  have B0:Below w.heap.size w (w.alloc (Obj.cells #[.int .i64 a,.int .i64 b] 75)):=(Below.refl _ _).alloc (Nat.le_refl _) _
  go_enter Tryz.func79,Tryz.ntmps79
  go_wp2_with fail
  go_ret
  exact ⟨rfl,B0⟩
set_option maxRecDepth 100000 in
theorem byProd_any (a:Int) (w:World) :
    Calls Tryz.prog 110 #[.int .i64 a] w fun e w'=>e=.returned (.int .i64 a)∧w'=w:=by
  go_enter Tryz.func110,Tryz.ntmps110
  go_wp2_with fail
  go_ret
  exact ⟨rfl,rfl⟩
def risesB:List Int→Bool
  | []=>true
  | [_]=>true
  | a :: b :: l=>decide (a<b) && risesB (b :: l)
theorem risesB_iff:∀ l:List Int,risesB l=true↔∀ k,(h:k+1<l.length)→l[k]<l[k+1]
  | []=>by simp [risesB]
  | [_]=>by simp [risesB]
  | a :: b :: l=>by
    rw [risesB,Bool.and_eq_true,decide_eq_true_eq,risesB_iff (b :: l)]
    constructor
    · rintro ⟨h1,h2⟩ k hk
      rcases k with _ | k
      · exact h1
      · exact h2 k (by simpa using hk)
    · intro h
      exact ⟨h 0 (by simp),fun k hk=>h (k+1) (by simpa using hk)⟩
set_option maxRecDepth 100000 in
set_option maxHeartbeats 1600000 in
theorem risesI_any (l:List Int) (v:Value) (w:World) (hl:SlI l v w) (hb:l.length≤140737488351232) :
    Calls Tryz.prog 109 #[v,.func (.func 110) #[] #[]] w fun e w'=>e=.returned (.bool (risesB l))∧∃ n,w'=w.drewN n:=by
  have HBP:Hid (∀ (a:Int) W,Calls Tryz.prog 110 #[.int .i64 a] W fun e w'=>e=.returned (.int .i64 a)∧w'=W):=fun a W=>byProd_any a W
  have HL:Hid (∀ n,SlI l v (w.drewN n)):=fun n=>hl.next (below_drewN (Below.refl _ _) n)
  have HEQ:Hid ((∀ k,(h:k+1<l.length)→l[k]<l[k+1])→risesB l=true):=(risesB_iff l).2
  have HNE:Hid (∀ k,(h:k+1<l.length)→¬ l[k]<l[k+1]→risesB l=false):=fun k h hn=>by
    cases e:risesB l
    · rfl
    · exact absurd ((risesB_iff l).1 e k h) hn
  obtain ⟨la,lc,rfl,_⟩:=hl
  go_enter Tryz.func109,Tryz.ntmps109
  go_wp2_with fail
  go_loopw [5] (fun iv wr=>∃ (i n:Nat),iv=.int .i64 i∧1≤i∧i≤l.length+1∧(∀ k,(h:k+1<l.length)→k+1<i→l[k]<l[k+1])∧wr=w.drewN n) (fun i _=>l.length+1 - (intOf i).toNat)
  case atStart=>exact ⟨1,0,rfl,Nat.le_refl _,by omega,fun k _ hk=>by omega,rfl⟩
  case round =>
  obtain ⟨i,n,rfl,h1i,hi,hall,rfl⟩:=hrel
  have HAL:Hid (∀ k,(h:k+1<l.length)→k+1<i→l[k]<l[k+1]):=hall
  clear hall
  by_cases hlt:i<l.length
  case neg =>
    have HE:Hid (risesB l=true):=HEQ.out (fun k h=>HAL.out k h (by omega))
    clear HEQ HNE HAL
    go_wp2_with fail
    go_ret
    exact ⟨by rw [HE.out]; rfl,n,rfl⟩
  have hlt1:i - 1<l.length:=by omega
  obtain ⟨_,_,e0,hrl,_⟩:=HL.out n
  cases e0
  obtain ⟨b2,o2,rfl,hb2,p0⟩:=hrl.at (Below.refl _ (w.drewN n)).drew hlt1
  obtain ⟨_,_,e1,_,q0⟩:=hrl.at (Below.refl _ (w.drewN n)).drew hlt
  cases e1
  unfold encI at p0 q0
  have HAN:Hid (l[i - 1]<l[i]→∀ k,(h:k+1<l.length)→k+1<i+1→l[k]<l[k+1]):=fun hh k h hk=>by
    rcases Nat.lt_or_ge (k+1) i with h' | h'
    · exact HAL.out k h h'
    · obtain rfl:i=k+1:=by omega
      exact hh
  have HNN:Hid (¬ l[i - 1]<l[i]→risesB l=false):=fun hh=>HNE.out (i - 1) (by omega) (by
    have e:i - 1+1=i:=by omega
    simp only [e]; omega)
  generalize l[i - 1]=p at *
  generalize l[i]=q at *
  have hS0:(fun W:World=>(W.cell? ⟨b2,o2+(i - 1),none⟩=some (.int .i64 p)∧W.cell? ⟨b2,o2+i,none⟩=some (.int .i64 q))) (w.drewN n).drew:=⟨p0,q0⟩
  have HDR:Hid (∃ k,(w.drewN n).drew=w.drewN k):=⟨n+1,by rw [← World.drewN_drewN]; rfl⟩
  have hw1:IntKind.i64.wrap ((i:Int) - 1)=((i - 1:Nat):Int):=by rw [IntKind.wrap_i64]; omega
  have HP1:=HBP.out p (w.drewN n).drew
  have HQ1:=HBP.out q (w.drewN n).drew
  clear hrl HL p0 q0 HAL HEQ HNE
  go_wp2_with fail
  refine wp_region_L (fun W=>W.cell? ⟨b2,o2+(i - 1),none⟩=some (.int .i64 p)∧W.cell? ⟨b2,o2+i,none⟩=some (.int .i64 q)) 14 (by kernel_rfl) 14 rfl ?_
  refine tk 0 ⟨some 12,.move (.tmp 1),167, "fit.go:13",#[],none⟩ hS0 ?_;simp only [Act.put,sA,s0,sS]
  refine tk 1 ⟨some 13,.move (.tmp 0),43, "fit.go:13",#[],none⟩ hS0 ?_;simp only [Act.put,sA,s0,sS]
  refine tk 2 ⟨some 14,.move (.tmp 5),3, "fit.go:13",#[],none⟩ hS0 ?_;simp only [Act.put,sA,s0,sS]
  refine tk 3 ⟨some 15,.binOp .sub 3 (.tmp 14) (.const (.int .i64 1)) 3,3, "fit.go:13",#[⟨2,.data⟩],none⟩ hS0 ?_;simp only [Act.put,sA,s0,sS]
  try simp only [hw1]
  refine tk 4 ⟨some 16,.indexAddr 43 (.tmp 13) (.tmp 15),0, "fit.go:13",#[⟨1,.data⟩,⟨3,.data⟩],none⟩ hS0 ?_;simp only [Act.put,sA,s0,sS]
  refine tk 5 ⟨some 17,.load 3 (.tmp 16),3, "fit.go:13",#[⟨4,.data⟩],none⟩ hS0 ?_;simp only [Act.put,sA,s0,sS]
  refine tk 7 ⟨some 19,.move (.tmp 1),167, "fit.go:13",#[],none⟩ hS0 ?_;simp only [Act.put,sA,s0,sS]
  refine tk 8 ⟨some 20,.move (.tmp 0),43, "fit.go:13",#[],none⟩ hS0 ?_;simp only [Act.put,sA,s0,sS]
  refine tk 9 ⟨some 21,.move (.tmp 5),3, "fit.go:13",#[],none⟩ hS0 ?_;simp only [Act.put,sA,s0,sS]
  refine tk 10 ⟨some 22,.indexAddr 43 (.tmp 20) (.tmp 21),0, "fit.go:13",#[⟨8,.data⟩,⟨9,.data⟩],none⟩ hS0 ?_;simp only [Act.put,sA,s0,sS]
  refine tk 11 ⟨some 23,.load 3 (.tmp 22),3, "fit.go:13",#[⟨10,.data⟩],none⟩ hS0 ?_;simp only [Act.put,sA,s0,sS]
  refine wpAnyL_one' (i:=6) (o:=⟨some 18,.call ⟨.value (.tmp 12),#[.tmp 17],#[3]⟩,3, "fit.go:13",#[⟨0,.data⟩,⟨5,.data⟩],none⟩) (by kernel_rfl) rfl rfl (fun KQ hK=>?_)
  go_simp
  refine HP1.mono ?_
  rintro e w6 ⟨rfl,rfl⟩
  refine hK.out _ _ (fun _=>hS0) ?_
  clear hK
  refine wpAnyL_one' (i:=12) (o:=⟨some 24,.call ⟨.value (.tmp 19),#[.tmp 23],#[3]⟩,3, "fit.go:13",#[⟨7,.data⟩,⟨11,.data⟩,⟨6,.chain⟩],none⟩) (by kernel_rfl) rfl rfl (fun KQ hK=>?_)
  go_simp
  refine HQ1.mono ?_
  rintro e w6 ⟨rfl,rfl⟩
  refine hK.out _ _ (fun _=>hS0) ?_
  clear hK
  refine tk 13 ⟨some 25,.binOp .geq 3 (.tmp 18) (.tmp 24) 3,4, "fit.go:13",#[⟨6,.data⟩,⟨12,.data⟩],none⟩ hS0 ?_;simp only [Act.put,sA,s0,sS]
  refine wpAnyL_done (by kernel_rfl) ?_ _
  clear hS0 HP1 HQ1 hw1
  by_cases hpq:p<q
  · have hge:decide (p ≥ q)=false:=decide_eq_false (by omega)
    have hge':¬ p ≥ q:=by omega
    have HA2:Hid (∀ k,(h:k+1<l.length)→k+1<i+1→l[k]<l[k+1]):=HAN.out hpq
    clear HAN HNN
    go_wp2_with fail
    exact ⟨⟨i+1,_,by go_num,by omega,by omega,HA2.out,HDR.out.choose_spec⟩,by simp [intOf]; omega⟩
  · have hge:decide (p ≥ q)=true:=decide_eq_true (by omega)
    have hge':p ≥ q:=by omega
    have HE:Hid (risesB l=false):=HNN.out (by omega)
    clear HAN HNN
    go_wp2_with fail
    go_ret
    exact ⟨by rw [HE.out]; rfl,HDR.out⟩
theorem risesB_map {α:Type} (g:α→Int) (l:List α):risesB (l.map g)=true↔∀ k,(h:k+1<l.length)→g l[k]<g l[k+1]:=by
  rw [risesB_iff]
  constructor
  · intro h k hk
    have h1:=h k (by rw [List.length_map]; exact hk)
    rw [List.getElem_map,List.getElem_map] at h1
    exact h1
  · intro h k hk
    rw [List.getElem_map,List.getElem_map]
    exact h k (by rw [List.length_map] at hk; exact hk)
set_option maxRecDepth 100000 in
set_option maxHeartbeats 1600000 in
theorem risesG_any (l:List (Int × Int)) (v:Value) (w:World) (hl:SlG l v w) :
    Calls Tryz.prog 78 #[v,.func (.func 79) #[] #[]] w fun e w'=>e=.returned (.bool (risesB (l.map Prod.fst)))∧Below w.heap.size w w':=by
  have HBP:Hid (∀ (a b:Int) W,Calls Tryz.prog 79 #[.agg #[.int .i64 a,.int .i64 b]] W fun e w'=>e=.returned (.int .i64 a)∧Below W.heap.size W w'):=fun a b W=>bySym_any a b W
  have HL:Hid (∀ W,Below w.heap.size w W→SlG l v W):=fun W hb=>hl.next hb
  have HEQ:Hid ((∀ k,(h:k+1<l.length)→l[k].1<l[k+1].1)→risesB (l.map Prod.fst)=true):=(risesB_map _ l).2
  have HNE:Hid (∀ k,(h:k+1<l.length)→¬ l[k].1<l[k+1].1→risesB (l.map Prod.fst)=false):=fun k h hn=>by
    cases e:risesB (l.map Prod.fst)
    · rfl
    · exact absurd ((risesB_map _ l).1 e k h) hn
  have hb:l.length≤140737488351232:=by obtain ⟨_,_,_,_,_,_,h⟩:=hl; exact h
  obtain ⟨la,lc,rfl,_⟩:=hl
  generalize risesB (l.map Prod.fst)=RB at *
  go_enter Tryz.func78,Tryz.ntmps78
  go_wp2_with fail
  go_loopw [5] (fun iv wr=>∃ (i:Nat),iv=.int .i64 i∧1≤i∧i≤l.length+1∧(∀ k,(h:k+1<l.length)→k+1<i→l[k].1<l[k+1].1)∧Below w.heap.size w wr) (fun i _=>l.length+1 - (intOf i).toNat)
  case atStart=>exact ⟨1,rfl,Nat.le_refl _,by omega,fun k _ hk=>by omega,Below.refl _ _⟩
  case round =>
  obtain ⟨i,rfl,h1i,hi,hall,B1⟩:=hrel
  have HAL:Hid (∀ k,(h:k+1<l.length)→k+1<i→l[k].1<l[k+1].1):=hall
  clear hall
  by_cases hlt:i<l.length
  case neg =>
    have HE:Hid (RB=true):=HEQ.out (fun k h=>HAL.out k h (by omega))
    clear HEQ HNE HAL
    go_wp2_with fail
    go_ret
    exact ⟨by rw [HE.out]; rfl,B1⟩
  have hlt1:i - 1<l.length:=by omega
  obtain ⟨_,_,e0,hrl,_⟩:=HL.out _ B1
  cases e0
  obtain ⟨b2,o2,rfl,hb2,p0,p1,_⟩:=hrl.at (Below.refl _ wr).drew hlt1
  obtain ⟨_,_,e1,_,q0,q1,_⟩:=hrl.at (Below.refl _ wr).drew hlt
  cases e1
  have HAN:Hid (l[i - 1].1<l[i].1→∀ k,(h:k+1<l.length)→k+1<i+1→l[k].1<l[k+1].1):=fun hh k h hk=>by
    rcases Nat.lt_or_ge (k+1) i with h' | h'
    · exact HAL.out k h h'
    · obtain rfl:i=k+1:=by omega
      exact hh
  have HNN:Hid (¬ l[i - 1].1<l[i].1→RB=false):=fun hh=>HNE.out (i - 1) (by omega) (by
    have e:i - 1+1=i:=by omega
    simp only [e]; omega)
  generalize l[i - 1].1=P0 at *
  generalize l[i - 1].2=P1 at *
  generalize l[i].1=Q0 at *
  generalize l[i].2=Q1 at *
  have HPC:=HBP.out P0 P1 wr.drew
  have HQC:Hid (∀ W,Below wr.heap.size wr W→Calls Tryz.prog 79 #[.agg #[.int .i64 Q0,.int .i64 Q1]] W fun e w'=>e=.returned (.int .i64 Q0)∧Below W.heap.size W w'):=fun W _=>HBP.out Q0 Q1 W
  have hS0:(fun W:World=>(W.cell? ⟨b2,o2+(i - 1) * 2,none⟩=some (.int .i64 P0)∧W.cell? ⟨b2,o2+(i - 1) * 2+1,none⟩=some (.int .i64 P1)∧W.cell? ⟨b2,o2+i * 2,none⟩=some (.int .i64 Q0)∧W.cell? ⟨b2,o2+i * 2+1,none⟩=some (.int .i64 Q1))) wr.drew:=⟨p0,p1,q0,q1⟩
  have HSK:Hid (∀ W,Below wr.heap.size wr.drew W→(fun W:World=>(W.cell? ⟨b2,o2+(i - 1) * 2,none⟩=some (.int .i64 P0)∧W.cell? ⟨b2,o2+(i - 1) * 2+1,none⟩=some (.int .i64 P1)∧W.cell? ⟨b2,o2+i * 2,none⟩=some (.int .i64 Q0)∧W.cell? ⟨b2,o2+i * 2+1,none⟩=some (.int .i64 Q1))) W):=fun W b5=>by
    have h0:=hS0
    exact ⟨(b5.cell (p:=⟨b2,o2+(i - 1) * 2,none⟩) (show b2<wr.drew.heap.size from hb2)).trans h0.1,(b5.cell (p:=⟨b2,o2+(i - 1) * 2+1,none⟩) (show b2<wr.drew.heap.size from hb2)).trans h0.2.1,(b5.cell (p:=⟨b2,o2+i * 2,none⟩) (show b2<wr.drew.heap.size from hb2)).trans h0.2.2.1,(b5.cell (p:=⟨b2,o2+i * 2+1,none⟩) (show b2<wr.drew.heap.size from hb2)).trans h0.2.2.2⟩
  have hw1:IntKind.i64.wrap ((i:Int) - 1)=((i - 1:Nat):Int):=by rw [IntKind.wrap_i64]; omega
  clear hrl HL p0 p1 q0 q1 HAL HEQ HNE HBP
  go_wp2_with fail
  refine wp_region_L (fun W=>W.cell? ⟨b2,o2+(i - 1) * 2,none⟩=some (.int .i64 P0)∧W.cell? ⟨b2,o2+(i - 1) * 2+1,none⟩=some (.int .i64 P1)∧W.cell? ⟨b2,o2+i * 2,none⟩=some (.int .i64 Q0)∧W.cell? ⟨b2,o2+i * 2+1,none⟩=some (.int .i64 Q1)) 14 (by kernel_rfl) 14 rfl ?_
  refine tk 0 ⟨some 12,.move (.tmp 1),135, "fit.go:13",#[],none⟩ hS0 ?_;simp only [Act.put,sA,s0,sS]
  refine tk 1 ⟨some 13,.move (.tmp 0),66, "fit.go:13",#[],none⟩ hS0 ?_;simp only [Act.put,sA,s0,sS]
  refine tk 2 ⟨some 14,.move (.tmp 5),3, "fit.go:13",#[],none⟩ hS0 ?_;simp only [Act.put,sA,s0,sS]
  refine tk 3 ⟨some 15,.binOp .sub 3 (.tmp 14) (.const (.int .i64 1)) 3,3, "fit.go:13",#[⟨2,.data⟩],none⟩ hS0 ?_;simp only [Act.put,sA,s0,sS]
  try simp only [hw1]
  refine tk 4 ⟨some 16,.indexAddr 66 (.tmp 13) (.tmp 15),0, "fit.go:13",#[⟨1,.data⟩,⟨3,.data⟩],none⟩ hS0 ?_;simp only [Act.put,sA,s0,sS]
  refine tk 5 ⟨some 17,.load 75 (.tmp 16),75, "fit.go:13",#[⟨4,.data⟩],none⟩ hS0 ?_;simp only [Act.put,sA,s0,sS]
  refine tk 7 ⟨some 19,.move (.tmp 1),135, "fit.go:13",#[],none⟩ hS0 ?_;simp only [Act.put,sA,s0,sS]
  refine tk 8 ⟨some 20,.move (.tmp 0),66, "fit.go:13",#[],none⟩ hS0 ?_;simp only [Act.put,sA,s0,sS]
  refine tk 9 ⟨some 21,.move (.tmp 5),3, "fit.go:13",#[],none⟩ hS0 ?_;simp only [Act.put,sA,s0,sS]
  refine tk 10 ⟨some 22,.indexAddr 66 (.tmp 20) (.tmp 21),0, "fit.go:13",#[⟨8,.data⟩,⟨9,.data⟩],none⟩ hS0 ?_;simp only [Act.put,sA,s0,sS]
  refine tk 11 ⟨some 23,.load 75 (.tmp 22),75, "fit.go:13",#[⟨10,.data⟩],none⟩ hS0 ?_;simp only [Act.put,sA,s0,sS]
  refine wpAnyL_one' (i:=6) (o:=⟨some 18,.call ⟨.value (.tmp 12),#[.tmp 17],#[75]⟩,3, "fit.go:13",#[⟨0,.data⟩,⟨5,.data⟩],none⟩) (by kernel_rfl) rfl rfl (fun KQ hK=>?_)
  go_simp
  refine HPC.mono ?_
  rintro e w6 ⟨rfl,b6⟩
  refine hK.out _ _ (fun _=>HSK.out w6 b6) ?_
  have hS1:=HSK.out w6 b6
  clear hK
  refine wpAnyL_one' (i:=12) (o:=⟨some 24,.call ⟨.value (.tmp 19),#[.tmp 23],#[75]⟩,3, "fit.go:13",#[⟨7,.data⟩,⟨11,.data⟩,⟨6,.chain⟩],none⟩) (by kernel_rfl) rfl rfl (fun KQ hK=>?_)
  go_simp
  refine (HQC.out w6 ((Below.refl _ wr).drew.trans b6)).mono ?_
  rintro e w7 ⟨rfl,b7⟩
  refine hK.out _ _ (fun _=>HSK.out w7 (b6.trans (b7.mono b6.size))) ?_
  have hS2:=HSK.out w7 (b6.trans (b7.mono b6.size))
  clear hK
  refine tk 13 ⟨some 25,.binOp .geq 3 (.tmp 18) (.tmp 24) 3,4, "fit.go:13",#[⟨6,.data⟩,⟨12,.data⟩],none⟩ hS2 ?_;simp only [Act.put,sA,s0,sS]
  refine wpAnyL_done (by kernel_rfl) ?_ _
  have B7:Below w.heap.size w w7:=(B1.drew.trans (b6.mono (show w.heap.size≤wr.drew.heap.size from B1.size))).trans (b7.mono (Nat.le_trans (show w.heap.size≤wr.drew.heap.size from B1.size) b6.size))
  clear hS0 hS1 hS2 HPC HQC hw1 HSK b6 b7
  by_cases hpq:P0<Q0
  · have hge:decide (P0 ≥ Q0)=false:=decide_eq_false (by omega)
    have hge':¬ P0 ≥ Q0:=by omega
    have HA2:Hid (∀ k,(h:k+1<l.length)→k+1<i+1→l[k].1<l[k+1].1):=HAN.out hpq
    clear HAN HNN
    go_wp2_with fail
    exact ⟨⟨i+1,by go_num,by omega,by omega,HA2.out,B7⟩,by simp [intOf]; omega⟩
  · have hge:decide (P0 ≥ Q0)=true:=decide_eq_true (by omega)
    have hge':P0 ≥ Q0:=by omega
    have HE:Hid (RB=false):=HNN.out (by omega)
    clear HAN HNN
    go_wp2_with fail
    go_ret
    exact ⟨by rw [HE.out]; rfl,B7⟩
end Go.Proofs.YtbilbgjojdlobaaGreatDoor
