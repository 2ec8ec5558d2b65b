import Derived.Test.YtiamjafecbpfpaaGreatDoorJ01
import Derived.Test.YtiamjafecbpfpaaGreatDoorJ02
import Derived.Test.YtiamjafecbpfpaaGreatDoorJ03
import Derived.Test.YtiamjafecbpfpaaGreatDoorJ04
import Derived.Shelf.SlIterI.Nil
import Derived.Shelf.SortM.Plain
import Derived.Shelf.SortM.SortNone
import Derived.Ground.GgzProg
import Derived.Ground.SlgmProg
import Derived.RangeFuncNested
import Derived.RangeFuncBound
import Derived.RangeFuncCalls
import Derived.RangeFuncLeaves
import Derived.Shelf.Abstract
import Derived.Shelf.RegionOpen
import Derived.WalkKit
import Derived.OwnWalkIn
import Derived.TacticsInMore
import Derived.LoopNIn
import Derived.LoopIn

namespace Go.Proofs.YtiamjafecbpfpaaGreatDoor
def gEnd (f:Fl) (l:List Ir):Int→Option Ac:=fun t=>if endL f l t then some ⟨t,-1,redL f l t,accL f l t⟩ else none
theorem gEnd_cur (f:Fl) (l:List Ir) (t:Int):curA (gEnd f l) t=⟨t,-1,redL f l t,accL f l t⟩:=by
  unfold curA gEnd
  cases he:endL f l t with
  | true=>rfl
  | false =>
    have h:¬ (redL f l t≠[]∨accL f l t=true):=fun h=>by rw [(endL_iff f l t).2 h] at he; cases he
    have h1:redL f l t=[]:=Classical.not_not.1 (fun h'=>h (.inl h'))
    have h2:accL f l t=false:=by cases e:accL f l t with
      | false=>rfl
      | true=>exact absurd (.inr e) h
    rw [h1,h2]; rfl
theorem gEnd_nil (f:Fl):gEnd f []=fun _=>none:=by funext t; simp [gEnd,endL]
theorem gEnd_end {f:Fl} {l:List Ir} {x:Ir} (hx:fitI f x=true) (hn:nextI f x=none):gEnd f (l++[x])=updG (gEnd f l) x.2.2 (endA (curA (gEnd f l) x.2.2) x.1):=by
  have hp:=(fitI_iff.1 hx).1
  funext t
  unfold updG
  by_cases ht:t=x.2.2
  · rw [if_pos ht,gEnd_cur]
    subst ht
    have e1:endL f (l++[x]) x.2.2=true:=by rw [endL_append]; simp [endL,hn]
    unfold gEnd endA
    rw [if_pos e1,redL_append,accL_append]
    by_cases hm:x.1=-1
    · rw [if_pos hm]; simp [redL,accL,hm,hn]
    · rw [if_neg hm]
      have h1:0≤x.1:=by omega
      have h2:¬ x.1<0:=by omega
      simp [redL,accL,hn,h1,h2]
  · rw [if_neg ht]
    have h':¬ x.2.2=t:=fun e=>ht e.symm
    have e1:endL f [x] t=false:=by simp [endL,h']
    have e2:redL f [x] t=[]:=by simp [redL,h']
    have e3:accL f [x] t=false:=by simp [accL,h']
    unfold gEnd
    rw [endL_append,redL_append,accL_append,e1,e2,e3,Bool.or_false,Bool.or_false,List.append_nil]
theorem gEnd_next {f:Fl} {l:List Ir} {x:Ir} {s:Int} (hn:nextI f x=some s):gEnd f (l++[x])=gEnd f l:=by
  funext t
  have e1:endL f [x] t=false:=by simp [endL,hn]
  have e2:redL f [x] t=[]:=by simp [redL,hn]
  have e3:accL f [x] t=false:=by simp [accL,hn]
  unfold gEnd
  rw [endL_append,redL_append,accL_append,e1,e2,e3,Bool.or_false,Bool.or_false,List.append_nil]
def wL (f:Fl) (l:List Ir):List Wr:=(List.range f.n).map fun (s:Nat)=>⟨keyT (movedL f l (s:Int)),false⟩
theorem wL_len (f:Fl) (l:List Ir):(wL f l).length=f.n:=by simp [wL]
theorem wL_get {f:Fl} {l:List Ir} {s:Nat} (h:s<f.n):(wL f l)[s]?=some ⟨keyT (movedL f l (s:Int)),false⟩:=by simp [wL,h]
theorem moved_one {f:Fl} {x:Ir} {s t:Int} (hn:nextI f x=some s):movedL f [x] t=if t=s then [(x.1,x.2.1+1,x.2.2)] else []:=by
  unfold movedL
  by_cases h:t=s
  · subst h; simp [hn]
  · have:¬ s=t:=fun e=>h e.symm
    simp [hn,h,this]
theorem wL_next {f:Fl} {l:List Ir} {x:Ir} {s:Nat} (hn:nextI f x=some (s:Int)):wL f (l++[x])=(wL f l).set s ⟨keyT (movedL f l (s:Int))++encT (x.1,x.2.1+1,x.2.2),false⟩:=by
  refine List.ext_getElem? (fun i=>?_)
  rw [List.getElem?_set]
  by_cases hi:i<f.n
  · rw [wL_get hi,wL_len]
    by_cases h:s=i
    · subst h
      rw [if_pos rfl,if_pos hi,movedL_append,moved_one hn,if_pos rfl,keyT_append]
      simp [keyT]
    · rw [if_neg h,wL_get hi,movedL_append,moved_one hn,if_neg (by omega),List.append_nil]
  · have h1:(wL f (l++[x]))[i]?=none:=List.getElem?_eq_none (by rw [wL_len]; omega)
    have h2:(wL f l)[i]?=none:=List.getElem?_eq_none (by rw [wL_len]; omega)
    rw [h1,h2,wL_len]
    split
    · rw [if_neg (by omega)]
    · rfl
theorem wL_end {f:Fl} {l:List Ir} {x:Ir} (hn:nextI f x=none):wL f (l++[x])=wL f l:=by
  unfold wL
  refine List.map_congr_left (fun s _=>?_)
  rw [movedL_append]
  simp [movedL,hn]
theorem moved_len (f:Fl) (l:List Ir) (s:Int):(movedL f l s).length≤l.length:=by
  unfold movedL
  rw [List.length_map]
  exact List.length_filter_le _ _
theorem redL_len (f:Fl) (l:List Ir) (t:Int):(redL f l t).length≤l.length:=by
  unfold redL
  rw [List.length_map]
  exact List.length_filter_le _ _
noncomputable def gS (f:Fl) (R:List (List Ir)) (l:List Ir) (s:Nat):Int→Option Ac:=fun t=>if 0≤t∧t<(s:Int)∧t<(f.terms.length:Int)∧movedL f l t≠[] then some ⟨t,(findI R (gotoF f l t):Int),redL f l t,accL f l t⟩ else gEnd f l t
theorem gS_zero (f:Fl) (R:List (List Ir)) (l:List Ir):gS f R l 0=gEnd f l:=by
  funext t; unfold gS; rw [if_neg (by omega)]
theorem gS_cur (f:Fl) (R:List (List Ir)) (l:List Ir) (s:Nat):curA (gS f R l s) s=⟨s,-1,redL f l s,accL f l s⟩:=by
  have:gS f R l s s=gEnd f l s:=by unfold gS; rw [if_neg (by omega)]
  rw [← gEnd_cur]; unfold curA; rw [this]
theorem gS_shift {f:Fl} {R:List (List Ir)} {l:List Ir} {s:Nat} (h1:s<f.terms.length) (h2:movedL f l (s:Int)≠[]) :
    updG (gS f R l s) s ⟨(curA (gS f R l s) s).look,(findI R (gotoF f l s):Int),(curA (gS f R l s) s).red,(curA (gS f R l s) s).acc⟩=gS f R l (s+1):=by
  rw [gS_cur]
  funext t
  unfold updG
  by_cases ht:t=(s:Int)
  · rw [if_pos ht]
    subst ht
    unfold gS
    rw [if_pos ⟨by omega,by omega,by omega,h2⟩]
  · rw [if_neg ht]
    unfold gS
    by_cases hc:0≤t∧t<(s:Int)∧t<(f.terms.length:Int)∧movedL f l t≠[]
    · rw [if_pos hc,if_pos ⟨hc.1,by omega,hc.2.2⟩]
    · rw [if_neg hc,if_neg (fun h=>hc ⟨h.1,by omega,h.2.2⟩)]
theorem gS_skip {f:Fl} {R:List (List Ir)} {l:List Ir} {s:Nat} (h:¬ s<f.terms.length∨movedL f l (s:Int)=[]):gS f R l (s+1)=gS f R l s:=by
  funext t
  unfold gS
  by_cases hc:0≤t∧t<(s:Int)∧t<(f.terms.length:Int)∧movedL f l t≠[]
  · rw [if_pos hc,if_pos ⟨hc.1,by omega,hc.2.2⟩]
  · rw [if_neg hc,if_neg (fun h'=>?_)]
    by_cases ht:t=(s:Int)
    · subst ht
      rcases h with h | h
      · omega
      · exact h'.2.2.2 h
    · exact hc ⟨h'.1,by omega,h'.2.2⟩
noncomputable def goUp (f:Fl) (R:List (List Ir)) (l:List Ir) (s:Nat):List (Int × Int):=(List.range s).filterMap fun s=>(toF f R l s).map fun (t:Int)=>((s:Int),t)
theorem goUp_succ {f:Fl} {R:List (List Ir)} {l:List Ir} {s:Nat}:goUp f R l (s+1)=goUp f R l s++(if movedL f l (s:Int)=[] then [] else [((s:Int),(findI R (gotoF f l s):Int))]):=by
  unfold goUp
  rw [List.range_succ,List.filterMap_append]
  congr 1
  unfold toF
  by_cases h:movedL f l (s:Int)=[] <;> simp [h]
theorem goUp_len (f:Fl) (R:List (List Ir)) (l:List Ir) (s:Nat):(goUp f R l s).length≤s:=by
  unfold goUp
  have:=List.length_filterMap_le (fun s=>(toF f R l s).map fun (t:Int)=>((s:Int),t)) (List.range s)
  simpa using this
theorem risingZ_ext {a b:List Int} (ha:a.Pairwise (· < ·)) (hb:b.Pairwise (· < ·)) (h:∀ x,x∈a↔x∈b):a=b:=by
  have na:a.Nodup:=ha.imp (fun {x y} h e=>by omega)
  have nb:b.Nodup:=hb.imp (fun {x y} h e=>by omega)
  exact List.Perm.eq_of_pairwise (le:=(· < ·)) (fun x y _ _ h1 h2=>by omega) ha hb ((List.perm_ext_iff_of_nodup na nb).2 h)
theorem someA_iff {f:Fl} {R:List (List Ir)} {l:List Ir} {n:Nat} (hn:f.terms.length≤n) {t:Nat} (ht:t≤f.terms.length):someA (actAt f R l t)=true↔(gS f R l n t).isSome=true:=by
  unfold someA actAt gS toF
  simp only [decide_eq_true_eq]
  by_cases h1:t<f.terms.length
  · rw [if_pos h1]
    by_cases h2:movedL f l (t:Int)=[]
    · rw [if_pos h2,if_neg (by simp [h2])]
      unfold gEnd
      simp only [Option.getD_none]
      rw [← Bool.cond_eq_ite]
      cases he:endL f l t with
      | true =>
        have:=(endL_iff f l t).1 he
        simp; rcases this with h | h
        · exact .inr h
        · exact .inl h
      | false =>
        have:¬ (redL f l t≠[]∨accL f l t=true):=fun h=>by rw [(endL_iff f l t).2 h] at he; cases he
        simp only [cond_false,Option.isSome_none,Bool.false_eq_true,iff_false]
        rintro (h | h | h)
        · omega
        · exact this (.inr h)
        · exact this (.inl h)
    · rw [if_neg h2,if_pos ⟨by omega,by omega,by omega,h2⟩]
      simp
  · rw [if_neg h1,if_neg (by omega)]
    unfold gEnd
    cases he:endL f l t with
    | true =>
      have:=(endL_iff f l t).1 he
      simp; rcases this with h | h
      · exact .inr h
      · exact .inl h
    | false =>
      have:¬ (redL f l t≠[]∨accL f l t=true):=fun h=>by rw [(endL_iff f l t).2 h] at he; cases he
      simp only [Bool.false_eq_true,if_false,Option.isSome_none,iff_false]
      rintro (h | h | h)
      · omega
      · exact this (.inr h)
      · exact this (.inl h)
theorem gS_act {f:Fl} {R:List (List Ir)} {l:List Ir} {n:Nat} (hn:f.terms.length≤n) (t:Nat):curA (gS f R l n) t=actAt f R l t:=by
  unfold actAt toF
  by_cases h1:t<f.terms.length
  · by_cases h2:movedL f l (t:Int)=[]
    · have:gS f R l n t=gEnd f l t:=by unfold gS; rw [if_neg (by simp [h2])]
      have e:curA (gS f R l n) t=curA (gEnd f l) t:=by unfold curA; rw [this]
      rw [e,gEnd_cur,if_pos h1,if_pos h2]; rfl
    · have:gS f R l n t=some ⟨t,(findI R (gotoF f l t):Int),redL f l t,accL f l t⟩:=by unfold gS; rw [if_pos ⟨by omega,by omega,by omega,h2⟩]
      unfold curA
      rw [this,if_pos h1,if_neg h2]; rfl
  · have:gS f R l n t=gEnd f l t:=by unfold gS; rw [if_neg (by omega)]
    have e:curA (gS f R l n) t=curA (gEnd f l) t:=by unfold curA; rw [this]
    rw [e,gEnd_cur,if_neg h1]
theorem gS_look {f:Fl} {R:List (List Ir)} {l:List Ir} {n:Nat} (hl:∀ x∈l,fitI f x=true) {t:Int} (h:(gS f R l n t).isSome=true):0≤t∧t≤f.terms.length:=by
  unfold gS at h
  split at h
  · rename_i hc; omega
  · unfold gEnd at h
    split at h
    · rename_i he; exact endL_look hl he
    · cases h
theorem acts_eq {f:Fl} {R:List (List Ir)} {l:List Ir} {n:Nat} (hl:∀ x∈l,fitI f x=true) (hn:f.terms.length≤n) {S:List Int} (hS:S.Pairwise (· < ·)) (hm:∀ t,t∈S↔(gS f R l n t).isSome=true):S.map (curA (gS f R l n))=actRow f R l:=by
  have e:S=((List.range (f.terms.length+1)).filter fun t=>someA (actAt f R l t)).map fun (t:Nat)=>(t:Int):=by
    refine risingZ_ext hS ?_ (fun x=>?_)
    · rw [List.pairwise_map]
      refine (List.pairwise_lt_range.filter _).imp (fun {a b} h=>by omega)
    · rw [hm,List.mem_map]
      constructor
      · intro h
        have hr:=gS_look hl h
        refine ⟨x.toNat,?_,by omega⟩
        rw [List.mem_filter,List.mem_range]
        refine ⟨by omega,?_⟩
        rw [someA_iff hn (by omega)]
        have:((x.toNat:Nat):Int)=x:=by omega
        rw [this]; exact h
      · rintro ⟨t,ht,rfl⟩
        rw [List.mem_filter,List.mem_range] at ht
        exact (someA_iff hn (by omega)).1 ht.2
  rw [e,List.map_map]
  unfold actRow
  rw [List.filter_map]
  refine List.map_congr_left (fun t _=>?_)
  exact gS_act hn t
end Go.Proofs.YtiamjafecbpfpaaGreatDoor
namespace Go.Proofs.YtiamjafecbpfpaaGreatDoor
open Go.RowKit Go.Maps Go.Sort Go.Shelf
shelf_lay_g SlLaysZI.n7 Ggz 7 at Tryz 67 as Tryz.keysAc
shelf_lay_g SlLaysZI.n6 Ggz 6 at Tryz 66 as Tryz.sortedAc
shelf_lay_g SlLaysM.n5 Slgm 5 at Tryz 84 as Tryz.sortAc
theorem sortsAc (m:Nat):AnyZI.SortsIn Tryz.prog Tryz.sortedAc_ren Fence.wide m :=
  ⟨fun blk off cap ss W hH hblk hsz=>callsIn_wide.2 (AnyM.slices_Sort_int Tryz.sortAc blk off cap ss W hH hblk hsz),
   fun p cap W=>callsIn_wide.2 (AnyM.slices_Sort_int_none Tryz.sortAc p cap W)⟩
theorem keysAc_any (mb:Option Nat) (W:World):Calls Tryz.prog 67 #[.map mb] W fun e w'=>e=.returned (.func (.func 85) #[] #[.pointer (some ⟨W.heap.size,0,none⟩)])∧w'=W.alloc (.cells #[.map mb] 107) :=
  (callsIn_wide (n:=5)).1 (AnyZI.keys_in Tryz.keysAc Fence.wide 5 trivial rfl mb W)
theorem sortedAc_any {H:Type} (b nn:Nat) (D0:DataW H) (R:Value→Option (DataW H × List MemPlace)) (w:World) (hown:w.ownsMap Tryz.prog 3 R b nn D0) (hmax:Maps.size D0≤maxLen) (hbytes:Maps.size D0 * 8≤140737488355328) :
    Calls Tryz.prog 66 #[.func (.func 85) #[] #[.pointer (some ⟨w.heap.size,0,none⟩)]] (w.alloc (.cells #[.map (some b)] 107)) fun e w'=>∃ (v:Value) (ss:List Int),e=.returned v∧ss.Perm (intKeys D0) ∧
      w'.ownsRow w.heap.size 3 1 v ss.length ((ss.mergeSort (fun x y=>decide (x≤y))).map encZ)∧Below w.heap.size w w':=by
  refine (callsIn_wide (n:=5)).1 ?_
  have hbl:=hown.lt
  have hseq:SeqGives Fence.wide 2 Tryz.prog 85 #[.pointer (some ⟨w.heap.size,0,none⟩)] encZ (fun ss=>ss.Perm (intKeys D0)) (Maps.size D0) (w.alloc (.cells #[.map (some b)] 107)) :=
    AnyZI.keys_gives (ρ:=Tryz.keysAc_ren) { Tryz.keysAc with } Fence.wide _ trivial rfl (by omega) w.heap.size b nn D0 _ (by simp) (by simp) (by
      obtain ⟨es,clock,hb,Ft,hs,hD⟩:=hown
      exact ⟨es,clock,(Below.heap_alloc _ _ b hbl).trans hb,Ft,hs,hD⟩)
  have cS:=AnyZI.sorted_in Tryz.sortedAc Fence.wide 5 trivial trivial trivial trivial rfl (by omega) (sortsAc _) (enters_of Tryz.func84 (by kernel_rfl) rfl) 85 #[.pointer (some ⟨w.heap.size,0,none⟩)] trivial (enters_of Tryz.func85 (by kernel_rfl) rfl) _ _ hmax hbytes _ hseq
  change CallsIn _ _ Tryz.prog 66 _ _ _ at cS
  refine cS.mono ?_
  rintro e w' ⟨v,ss,rfl,hS,hrow,hnil,hb⟩
  exact ⟨v,ss,rfl,hS,ownsRow_base_a hrow (by simp),((Below.refl _ w).alloc (Nat.le_refl _) _).trans (hb.mono (by simp))⟩
theorem intKeys_facts {H:Type} {R:Value→Option (DataW H × List MemPlace)} {w:World} {b n:Nat} {D:DataW H} (hown:w.ownsMap Tryz.prog 3 R b n D):(intKeys D).Nodup∧(∀ x,x∈intKeys D↔Maps.has D (.int .i64 x)=true)∧∀ x∈intKeys D,i64B x:=by
  have hwf:=intKeys_wf hown Tryz.underlying3
  obtain ⟨es,hD,hpw,_⟩:=hown.entries lawInt
  obtain ⟨es',hD',hko⟩:=hown.keysOf
  obtain rfl:es=es':=by rw [hD] at hD'; simpa using hD'
  subst hD
  have hk:∀ p∈es,∃ x,p.1=.int .i64 x:=fun p hp=>by obtain ⟨v,hv⟩:=hko p hp; obtain ⟨x,_,hx,_⟩:=Maps.keyOf_i64 Tryz.underlying3 hv; exact ⟨x,hx⟩
  refine ⟨?_,fun x=>?_,fun x hx=>?_⟩
  · show (es.map fun p=>Go.intOf p.1).Nodup
    refine List.pairwise_map.2 (hpw.imp_of_mem fun {p q} hp' hq' hne e=>hne ?_)
    obtain ⟨a,ha⟩:=hk p hp'
    obtain ⟨b,hb⟩:=hk q hq'
    rw [ha,hb] at e ⊢
    exact congrArg _ e
  · rw [has_eq,List.any_eq_true]
    show x∈es.map (fun p=>Go.intOf p.1)↔_
    rw [List.mem_map]
    constructor
    · rintro ⟨p,hp',rfl⟩
      obtain ⟨a,ha⟩:=hk p hp'
      exact ⟨p,hp',by rw [ha]; simp [Lit.sameKey,Go.intOf]⟩
    · rintro ⟨p,hp',hs⟩
      obtain ⟨a,ha⟩:=hk p hp'
      rw [ha] at hs
      exact ⟨p,hp',by rw [ha]; simpa [Lit.sameKey,Go.intOf] using hs⟩
  · have:=hwf x hx
    unfold i64B
    simp [Lit.wf,IntKind.min,IntKind.max,IntKind.bits,IntKind.signed] at this
    omega
end Go.Proofs.YtiamjafecbpfpaaGreatDoor
namespace Go.Proofs.YtiamjafecbpfpaaGreatDoor
open Go.RowKit Go.Maps
theorem infoAct:(Tryz.prog.info? 41).map (fun i=>(i.zero,i.size,i.bytes))=some (some (.agg #[.int .i64 0,.int .i64 0,.slice none 0 0,.bool false]),4,48):=by kernel_rfl
def encA (G:Int→Option Ac) (U:Int→Value) (t:Int):List Value:=[.int .i64 (curA G t).look,.int .i64 (curA G t).to,U t,.bool (curA G t).acc]
theorem flatK_get {α:Type} {enc:α→List Value} {c:Nat} (hc:∀ x,(enc x).length=c):∀ {l:List α} {i j:Nat} {x:α},l[i]?=some x→j<c→(l.flatMap enc)[i * c+j]?=(enc x)[j]?
  | [],i,j,x,h,_=>by simp at h
  | y :: l,0,j,x,h,hj=>by
    simp at h; subst h
    rw [List.flatMap_cons,Nat.zero_mul,Nat.zero_add,List.getElem?_append_left (by rw [hc]; exact hj)]
  | y :: l,i+1,j,x,h,hj=>by
    rw [List.flatMap_cons,List.getElem?_append_right (by rw [hc,Nat.succ_mul]; omega),hc,show (i+1) * c+j - c=i * c+j by rw [Nat.succ_mul]; omega]
    exact flatK_get hc (by simpa using h) hj
theorem own_cells {α:Type} {enc:α→List Value} {c:Nat} (hc:∀ x,(enc x).length=c) {B:Nat} {e:TypeId} {l:List α} {v:Value} {W:World} (h:W.ownsRow B e c v l.length (l.flatMap enc)) (hl:0<l.length) :
    ∃ g cap,v=.slice (some ⟨g,0,none⟩) l.length cap∧g<W.heap.size∧l.length≤cap∧∀ (i j:Nat) (x:α) (u:Value),l[i]?=some x→j<c→(enc x)[j]?=some u→W.cell? ⟨g,i * c+j,none⟩=some u:=by
  rcases h.2 with ⟨_,h0⟩ | ⟨g,cap,cur,hv,hB,hg,hle,hmx,hcs,htk⟩
  · omega
  refine ⟨g,cap,hv,(Array.getElem?_eq_some_iff.1 hg).1,hle,fun i j x u hx hj hu=>?_⟩
  rw [Lib.cell_of_heap hg]
  have hi:i<l.length:=(List.getElem?_eq_some_iff.1 hx).1
  have h1:(l.flatMap enc)[i * c+j]?=some u:=(flatK_get hc hx hj).trans hu
  rw [← htk,List.getElem?_take,if_pos (by
    have:(i+1) * c≤l.length * c:=Nat.mul_le_mul_right _ hi
    rw [Nat.succ_mul] at this; omega)] at h1
  rw [← Array.getElem?_toList]; exact h1
theorem new4 (W:World) (a0 a1 a2 a3:Value) (ty:TypeId):∀ (i:Nat) (u:Value),[a0,a1,a2,a3][i]?=some u→(W.alloc (Obj.cells #[a0,a1,a2,a3] ty)).cell? ((⟨W.heap.size,0,none⟩:Addr).add i)=some u:=by
  intro i u hi
  rw [add_plain,Nat.zero_add]
  rcases i with _ | _ | _ | _ | i <;> simp at hi <;> subst hi <;> simp
theorem sorted_facts {ss:List Int} (hn:ss.Nodup):(ss.mergeSort (fun x y=>decide (x≤y))).Pairwise (· < ·)∧∀ t,t∈ss.mergeSort (fun x y=>decide (x≤y))↔t∈ss:=by
  have hp:=List.mergeSort_perm ss (fun x y=>decide (x≤y))
  refine ⟨?_,fun t=>hp.mem_iff⟩
  have h1:(ss.mergeSort (fun x y=>decide (x≤y))).Pairwise (fun a b=>decide (a≤b)=true):=List.pairwise_mergeSort (fun a b c h1 h2=>by simp only [decide_eq_true_eq] at *; omega) (fun a b=>by simp only [Bool.or_eq_true,decide_eq_true_eq]; omega) ss
  have h2:(ss.mergeSort (fun x y=>decide (x≤y))).Nodup:=hp.nodup_iff.2 hn
  refine (h1.and h2).imp (fun {a b} h=>?_)
  have:=of_decide_eq_true h.1
  have:=h.2
  omega
set_option maxRecDepth 100000 in
set_option maxHeartbeats 2000000 in
theorem listAct_any {B b n:Nat} {G:Int→Option Ac} {U:Int→Value} (w:World) (h:MapA B b n G U w) (hn:n≤100000000) (hG:∀ t a,G t=some a→i64B a.look∧i64B a.to∧(∀ x∈a.red,i64B x)∧a.red.length≤140737488351232) :
    Calls Tryz.prog 43 #[.map (some b)] w fun e w'=>∃ (v':Value) (S:List Int),e=.returned v'∧S.Pairwise (· < ·)∧(∀ t,t∈S↔(G t).isSome=true)∧(∀ (W':World) (Dd:Nat→Prop),But Dd w' W'→(∀ k,inA b G U k∨w.heap.size≤k→¬ Dd k)→SlA (S.map (curA G)) v' W')∧Below w.heap.size w w':=by
  obtain ⟨i0,hi0,hz0,hz1,hz2⟩:=info_parts infoAct
  obtain ⟨D,hD,hh,_⟩:=id h.own
  have hsz:Maps.size D≤n:=hD.size_le
  have HKY:=keysAc_any (some b) w
  have HSO:=sortedAc_any b n D heldR w hD (by unfold maxLen; omega) (by omega)
  have HFA:Hid (∀ t,t∈intKeys D↔(G t).isSome=true):=fun t=>by
    obtain ⟨_,k2,k3⟩:=intKeys_facts hD
    constructor
    · intro ht
      have:=(k2 t).1 ht
      rw [hh t (k3 t ht)] at this
      exact this
    · intro ht
      obtain ⟨a,ha⟩:=Option.isSome_iff_exists.1 ht
      rw [k2,hh t (h.keys t a ha)]; exact ht
  have HND:Hid ((intKeys D).Nodup):=(intKeys_facts hD).1
  have HLE:Hid ((intKeys D).length≤n):=by
    show (intKeys D).length≤n
    obtain ⟨es,hes,_⟩:=hD.entries lawInt
    rw [hes] at hsz ⊢
    simpa [intKeys,Maps.size] using hsz
  have HM:Hid (∀ W,Below w.heap.size w W→MapA B b n G U W):=fun W hW=>h.next hW
  clear hD hh h
  go_enter Tryz.func43,Tryz.ntmps43
  go_wp2_with fail
  refine HKY.mono ?_
  rintro e w1 ⟨rfl,rfl⟩
  clear HKY
  go_wp2_with fail
  refine HSO.mono ?_
  rintro e w1 ⟨v,ss,rfl,hS,hrow,b1⟩
  have hlen:ss.length≤n:=by rw [hS.length_eq]; exact HLE.out
  obtain ⟨hs1,hs2⟩:=sorted_facts (hS.nodup_iff.2 HND.out)
  have hsl:(ss.mergeSort (fun x y=>decide (x≤y))).length=ss.length:=List.length_mergeSort ss
  have HSS:Hid ((ss.mergeSort (fun x y=>decide (x≤y))).Pairwise (· < ·)∧∀ t,t∈ss.mergeSort (fun x y=>decide (x≤y))↔(G t).isSome=true):=⟨hs1,fun t=>by rw [hs2,hS.mem_iff]; exact HFA.out t⟩
  generalize ss.mergeSort (fun x y=>decide (x≤y))=S at *
  have hR:w1.ownsRow w.heap.size 3 1 v S.length (S.map encI):=by rw [hsl]; exact hrow
  have HSL:Hid (∀ W,Below w1.heap.size w1 W→SlI S v W):=fun W hW=>(sli_own hR (fun t ht=>by
    obtain ⟨a,ha⟩:=Option.isSome_iff_exists.1 ((HSS.out.2 t).1 ht)
    exact (HM.out w (Below.refl _ _)).keys t a ha)).next hW
  obtain ⟨va,vc,hv⟩:=slice_of_ownK hR
  subst hv
  have hlen2:S.length≤n:=by rw [hsl]; exact hlen
  have HGC:Hid (∀ t∈S,∃ a,G t=some a∧curA G t=a):=fun t ht=>by
    obtain ⟨a,ha⟩:=Option.isSome_iff_exists.1 ((HSS.out.2 t).1 ht)
    exact ⟨a,ha,by unfold curA; rw [ha]; rfl⟩
  have hEL:∀ t,(encA G U t).length=4:=fun _=>rfl
  have HEL:Hid (∀ t,(encA G U t).length=4):=hEL
  clear hS hrow hlen hs1 hs2 hsl hR HFA HND HLE HSO hEL hsz
  go_wp2_with fail
  go_loopw [3,10] (fun lv iv wr=>∃ (k:Nat),iv=.int .i64 k∧k≤S.length∧wr.ownsRow w1.heap.size 41 4 lv k ((S.take k).flatMap (encA G U))∧Below w1.heap.size w1 wr) (fun _ i _=>S.length - (Go.RowKit.intOf i).toNat)
  case atStart=>exact ⟨0,rfl,Nat.zero_le _,by simpa using World.ownsRow_nil w1 w1.heap.size 41 4,Below.refl _ _⟩
  case round =>
  obtain ⟨k,rfl,hk,hown,BR⟩:=hrel
  have BW:Below w.heap.size w wr:=b1.trans (BR.mono b1.size)
  by_cases hlt:k<S.length
  case neg =>
    obtain rfl:k=S.length:=by omega
    rw [List.take_of_length_le (Nat.le_refl _)] at hown
    obtain ⟨la,lc,rfl⟩:=slice_of_ownK hown
    have HR:Hid (∀ (W':World) (Dd:Nat→Prop),But Dd wr W'→(∀ k,inA b G U k∨w.heap.size≤k→¬ Dd k)→SlA (S.map (curA G)) (.slice la S.length lc) W'):=fun W' Dd hbt hdd=>by
      have hM:=(HM.out wr BW).keep hbt (fun k hk=>hdd k (.inl hk))
      have hown:=ownsRow_keep hown hbt (fun k hk=>hdd k (.inr (Nat.le_trans b1.size (World.ownsRow.lt hown k hk).1)))
      rcases Nat.eq_zero_or_pos S.length with h0 | h0
      · obtain rfl:S=[]:=List.eq_nil_of_length_eq_zero h0
        rcases hown.2 with ⟨e,_⟩ | ⟨g,cap,cur,e,_⟩
        · rw [e]; exact SlA.nil _
        · cases e
          exact ⟨_,_,rfl,fun i x hx=>(by simp at hx),fun e=>(by cases e),Nat.zero_le _,Nat.zero_le _⟩
      · obtain ⟨g,cap,e,hg,hle,hcell⟩:=own_cells HEL.out hown h0
        cases e
        refine ⟨some ⟨g,0,none⟩,lc,by rw [List.length_map],fun i x hx=>?_,fun e=>(by cases e),by rw [List.length_map]; exact hle,by rw [List.length_map]; omega⟩
        rw [List.getElem?_map] at hx
        obtain ⟨t,ht,rfl⟩:=Option.map_eq_some_iff.1 hx
        obtain ⟨a,ha,hc⟩:=HGC.out t (List.mem_of_getElem? ht)
        obtain ⟨k1,k2,k3,k4⟩:=hG t a ha
        refine ⟨g,0,U t,rfl,hg,?_,?_,?_,?_,?_,?_⟩
        · have:=hcell i 0 t _ ht (by omega) rfl; simpa using this
        · have:=hcell i 1 t _ ht (by omega) rfl; simpa using this
        · have:=hcell i 2 t _ ht (by omega) rfl; simpa using this
        · have:=hcell i 3 t _ ht (by omega) rfl; simpa using this
        · rw [hc]; exact sli_own (hM.rows t a ha) k3
        · rw [hc]; exact ⟨k1,k2,k4⟩
    clear hown HSL HM HGC HEL
    go_wp2_with fail
    go_ret
    exact ⟨_,S,rfl,HSS.out.1,HSS.out.2,HR.out,BW⟩
  obtain ⟨_,_,e0,hrl,_⟩:=HSL.out _ BR
  cases e0
  obtain ⟨b2,o2,rfl,hb2,p0⟩:=hrl.at (Below.refl _ _) hlt
  unfold encI at p0
  obtain ⟨a,ha,hc⟩:=HGC.out S[k] (List.getElem_mem hlt)
  have hM:=HM.out wr BW
  have hlk:=hM.look1 ha
  obtain ⟨ua,uc,hU⟩:=slice_of_ownK (hM.rows S[k] a ha)
  have HTK:Hid ((S.take (k+1)).flatMap (encA G U)=(S.take k).flatMap (encA G U)++[.int .i64 a.look,.int .i64 a.to,.slice ua a.red.length uc,.bool a.acc]):=by
    show _=_
    rw [List.take_succ_eq_append_getElem hlt,List.flatMap_append]
    congr 1
    simp [encA,hc,hU]
  rw [hU] at hlk
  unfold acVal at hlk
  generalize S[k]=t at *
  obtain ⟨la,lc,rfl⟩:=slice_of_ownK hown
  generalize (S.take k).flatMap (encA G U)=X at *
  have HON:Hid ((wr.alloc (Obj.cells #[.int .i64 a.look,.int .i64 a.to,.slice ua a.red.length uc,.bool a.acc] 41)).ownsRow w1.heap.size 41 4 (.slice la k lc) k X):=World.ownsRow.alloc hown _
  have HOB:Hid (∀ j,(Value.slice la k lc).ownBlock=some j→w1.heap.size≤j):=fun j hj=>(World.ownsRow.lt hown j hj).1
  have BN:Below w1.heap.size w1 (wr.alloc (Obj.cells #[.int .i64 a.look,.int .i64 a.to,.slice ua a.red.length uc,.bool a.acc] 41)):=BR.alloc BR.size _
  have hbase:w1.heap.size≤(wr.alloc (Obj.cells #[.int .i64 a.look,.int .i64 a.to,.slice ua a.red.length uc,.bool a.acc] 41)).heap.size:=BN.size
  have HNW:=new4 wr (.int .i64 a.look) (.int .i64 a.to) (.slice ua a.red.length uc) (.bool a.acc) 41
  have HBN:Hid (Below w1.heap.size w1 (wr.alloc (Obj.cells #[.int .i64 a.look,.int .i64 a.to,.slice ua a.red.length uc,.bool a.acc] 41))):=BN
  generalize a.red.length=rn at *
  generalize a.look=a0 at *
  generalize a.to=a1 at *
  generalize a.acc=a3 at *
  clear hown hM HSL HM HGC HEL hrl hG BN hU hc
  go_wp2_with (at_builtin; refine wpList_append_own_at _ rfl (.tmp 14) (.tmp 18) 35 rfl w1.heap.size 41 i0 _ 4 48 Tryz.underlying35 hi0 hz0 hz1 hz2 rfl (by omega) _ _ _ rfl HON.out _ 1 1 [.int .i64 a0,.int .i64 a1,.slice ua rn uc,.bool a3] rfl rfl HNW (by simp [Value.oneCell']) (by unfold maxLen; omega) (by omega) hbase ?_)
  intro v' w2 hown' hgrow _ hat
  have HF:Hid (w2.ownsRow w1.heap.size 41 4 v' (k+1) ((S.take (k+1)).flatMap (encA G U))∧Below w1.heap.size w1 w2):=⟨by rw [HTK.out]; exact hown',HBN.out.grown hgrow hbase HOB.out⟩
  obtain ⟨va',vc',rfl⟩:=slice_of_ownK hown'
  clear hown' hgrow hat HON HTK HBN HNW
  go_wp2_with fail
  exact ⟨⟨k+1,by go_num,by omega,HF.out⟩,by simp [Go.RowKit.intOf]; omega⟩
noncomputable def intR:Value→Option (DataW Unit × List MemPlace):=plainElem Tryz.prog 3
theorem keyStr {l:List UInt8} (h:l.length≤1000000000):keyOf Tryz.prog 9 (.string ⟨l.toArray⟩)=some (.string l):=by
  have hs:(⟨l.toArray⟩:ByteArray).size≤maxLen:=by
    show l.toArray.size≤maxLen
    unfold maxLen; simp; omega
  simp [keyOf,Tryz.underlying9,mapKey,hs]
theorem zeroInt (W:World):(zeroValue 3).run Tryz.prog W=.ok (.int .i64 0) W:=Tryz.zeroValue3 W
theorem intR_mk {x:Int} (h:i64B x):intR (.int .i64 x)=some (.lit (.int .i64 x),[]):=plainElem_int Tryz.underlying3 (wf64 h)
def MapP (b n i:Nat) (R:List (List Ir)) (W:World):Prop :=
  ∃ D:DataW Unit,W.ownsMap Tryz.prog 9 intR b n D∧∀ j (hj:j<R.length),j<i→∀ z,D.atKey (.string (keyT (dotL R[j]))) z=.lit (.int .i64 j)
theorem MapP.lt {b n i:Nat} {R:List (List Ir)} {W:World} (h:MapP b n i R W):b<W.heap.size:=by
  obtain ⟨D,h,_⟩:=h; exact h.lt
theorem MapP.next {b n i:Nat} {R:List (List Ir)} {W W':World} (h:MapP b n i R W) (hb:Below W.heap.size W W'):MapP b n i R W':=by
  have hl:=h.lt
  obtain ⟨D,⟨es,clock,h1,h2⟩,h3⟩:=h
  exact ⟨D,⟨es,clock,(hb.block b hl).trans h1,h2⟩,h3⟩
theorem MapP.made (R:List (List Ir)) (W:World):MapP W.heap.size 0 0 R (W.alloc (.map #[] 0)):=⟨.map [],World.ownsMap_made W _ _ _,fun j _ h=>by omega⟩
theorem MapP.store {b n i:Nat} {f:Fl} {R:List (List Ir)} {W:World} (hp:FitP f) (hall:allF f=some R) (h:MapP b n i R W) (hn:n≤1000) (hi:i<R.length) (hR:R.length≤600) (hk:(keyT (dotL R[i])).length≤1000000000) :
    ∃ W',(Instr.mapUpdate 102 (.map (some b)) (strT (dotL R[i])) (.int .i64 i)).run Tryz.prog W=.ok () W'∧MapP b (n+1) (i+1) R W'∧But (fun k=>k=b) W W':=by
  obtain ⟨D,h1,h3⟩:=h
  obtain ⟨W',hr,ho,hm⟩:=h1.store lawStr Tryz.underlying102 (by unfold maxLen; omega) (key:=strT (dotL R[i])) (val:=.int .i64 i) (kl:=.string (keyT (dotL R[i]))) (d:=.lit (.int .i64 i)) (ps:=[]) (keyStr hk) (intR_mk (by unfold i64B; omega))
  refine ⟨W',hr,⟨_,ho,fun j hj hji z=>?_⟩,but_turned hm⟩
  by_cases e:j=i
  · subst e
    exact atKey_put_same h1.isMap (lawStr.key (keyStr hk)) _ _
  · rw [atKey_put_other (fun e'=>e (keys_apart hp hall hj hi (by simpa using e')))]
    exact h3 j hj (by omega) z
theorem MapP.look {b n:Nat} {R:List (List Ir)} {W:World} (h:MapP b n R.length R W) {j:Nat} (hj:j<R.length) {K:List Ir} (hK:dotL R[j]=K) (hk:(keyT K).length≤1000000000) :
    (Instr.lookup 102 (.map (some b)) (strT K) false).run Tryz.prog W=.ok (.int .i64 j) W:=by
  obtain ⟨D,h1,h3⟩:=h
  obtain ⟨v,ps,hr,hv⟩:=h1.lookup lawStr Tryz.underlying102 (zeroInt W) (zd:=.lit (.int .i64 0)) (zp:=[]) (intR_mk (by unfold i64B; omega)) (key:=strT K) (keyStr hk)
  subst hK
  rw [h3 j hj hj] at hv
  obtain ⟨c,rfl,hc,_⟩:=plainElem_int_inv Tryz.underlying3 hv
  simp only [Prod.mk.injEq,DataW.lit.injEq,Lit.int.injEq] at hc
  rw [hr,← hc.1.2]
def MkAt (f:Fl) (a:FlA) (R:List (List Ir)) (m b:Nat) (W:World):Prop :=
  m<W.heap.size∧W.cell? ⟨m,0,none⟩=some (.slice a.ta f.terms.length a.tc)∧W.cell? ⟨m,1,none⟩=some (.slice a.na f.nons.length a.nc)∧W.cell? ⟨m,2,none⟩=some (.slice a.pa f.prods.length a.pc)∧W.cell? ⟨m,3,none⟩=some (.map (some b))∧MapP b R.length R.length R W
theorem MkAt.next {f:Fl} {a:FlA} {R:List (List Ir)} {m b:Nat} {W W':World} (h:MkAt f a R m b W) (hb:Below W.heap.size W W'):MkAt f a R m b W':=by
  obtain ⟨h0,h1,h2,h3,h4,h5⟩:=h
  exact ⟨Nat.lt_of_lt_of_le h0 hb.size,(hb.cell (p:=⟨m,0,none⟩) h0).trans h1,(hb.cell (p:=⟨m,1,none⟩) h0).trans h2,(hb.cell (p:=⟨m,2,none⟩) h0).trans h3,(hb.cell (p:=⟨m,3,none⟩) h0).trans h4,h5.next hb⟩
set_option maxRecDepth 100000 in
set_option maxHeartbeats 2000000 in
theorem makerOf_any (f:Fl) (a:FlA) (R:List (List Ir)) (v:Value) (w:World) (hp:FitP f) (hall:allF f=some R) (hR:SlLL R v w) (hR6:R.length≤600) (hRl:∀ x∈R,x.length≤maxI) :
    Calls Tryz.prog 25 #[a.val f,v] w fun e w'=>∃ m b,e=.returned (.pointer (some ⟨m,0,none⟩))∧MkAt f a R m b w'∧Below w.heap.size w w':=by
  have HKO:Hid (∀ l∈R,∀ (u:Value) W,SlL l u W→Calls Tryz.prog 37 #[u] W fun e w'=>e=.returned (strT (dotL l))∧Below W.heap.size W w'):=fun l hl u W hu=>keyOfT_any l u W hu (fun x hx=>fitT_of hp ((sets_fit hp hall hl).2 x hx)) (hRl l hl)
  have HST:Hid (∀ (b n i:Nat) W (hi:i<R.length),MapP b n i R W→n≤1000→∃ W',(Instr.mapUpdate 102 (.map (some b)) (strT (dotL R[i])) (.int .i64 i)).run Tryz.prog W=.ok () W'∧MapP b (n+1) (i+1) R W'∧But (fun k=>k=b) W W'):=fun b n i W hi h hn=>MapP.store hp hall h hn hi hR6 (by
    rw [keyT_len]
    have h1:=dotL_len R[i]
    have h2:=hRl R[i] (List.getElem_mem hi)
    unfold maxI at h2
    omega)
  have HL:Hid (∀ W,Below w.heap.size w W→SlLL R v W):=fun W hW=>hR.next hW
  obtain ⟨la,lc,rfl,_⟩:=hR
  obtain ⟨ta,tc,na,nc,pa,pc⟩:=a
  obtain ⟨wm,hwm⟩:∃ wm,((w.alloc (Obj.cells #[.slice ta f.terms.length tc,.slice na f.nons.length nc,.slice pa f.prods.length pc] 50)).alloc (.map #[] 0)).alloc (Obj.cells #[.slice ta f.terms.length tc,.slice na f.nons.length nc,.slice pa f.prods.length pc,.map (some (w.heap.size+1))] 104)=wm:=⟨_,rfl⟩
  have B0:Below w.heap.size w wm:=by rw [← hwm]; exact (((Below.refl _ _).alloc (Nat.le_refl _) _).alloc (by simp) _).alloc (by simp; omega) _
  have hblk:wm.heap[w.heap.size+1+1]?=some (Obj.cells #[.slice ta f.terms.length tc,.slice na f.nons.length nc,.slice pa f.prods.length pc,.map (some (w.heap.size+1))] 104):=by
    have e:=heap_alloc_new ((w.alloc (Obj.cells #[.slice ta f.terms.length tc,.slice na f.nons.length nc,.slice pa f.prods.length pc] 50)).alloc (.map #[] 0)) (Obj.cells #[.slice ta f.terms.length tc,.slice na f.nons.length nc,.slice pa f.prods.length pc,.map (some (w.heap.size+1))] 104)
    rw [hwm] at e
    simpa using e
  have hML:w.heap.size+1+1<wm.heap.size:=(Array.getElem?_eq_some_iff.1 hblk).1
  have m0:wm.cell? ⟨w.heap.size+1+1,0,none⟩=some (.slice ta f.terms.length tc):=by rw [Lib.cell_of_heap hblk]; rfl
  have m1:wm.cell? ⟨w.heap.size+1+1,1,none⟩=some (.slice na f.nons.length nc):=by rw [Lib.cell_of_heap hblk]; rfl
  have m2:wm.cell? ⟨w.heap.size+1+1,2,none⟩=some (.slice pa f.prods.length pc):=by rw [Lib.cell_of_heap hblk]; rfl
  have m3:wm.cell? ⟨w.heap.size+1+1,3,none⟩=some (.map (some (w.heap.size+1))):=by rw [Lib.cell_of_heap hblk]; rfl
  have HM0:Hid (MapP (w.heap.size+1) 0 0 R wm):=by
    show MapP (w.heap.size+1) 0 0 R wm
    rw [← hwm]
    have h1:=MapP.made R (w.alloc (Obj.cells #[.slice ta f.terms.length tc,.slice na f.nons.length nc,.slice pa f.prods.length pc] 50))
    have e:(w.alloc (Obj.cells #[.slice ta f.terms.length tc,.slice na f.nons.length nc,.slice pa f.prods.length pc] 50)).heap.size=w.heap.size+1:=by simp
    rw [e] at h1
    exact h1.next ((Below.refl _ _).alloc (Nat.le_refl _) _)
  have hne:¬ (w.heap.size+1+1=w.heap.size+1):=by omega
  have hbw:w.heap.size≤w.heap.size+1:=by omega
  unfold FlA.val
  simp only
  clear hblk
  go_enter Tryz.func25,Tryz.ntmps25
  go_wp2_with fail
  simp only [run_makeMap,Result.andThen]
  rw [Oper.upon_value]
  go_wp2_with fail
  try rw [hwm]
  clear hwm
  generalize w.heap.size+1+1=m at *
  generalize w.heap.size+1=b at *
  have HCM:Hid (∀ W,But (fun k=>k=b) wm W→W.cell? ⟨m,0,none⟩=some (.slice ta f.terms.length tc)∧W.cell? ⟨m,1,none⟩=some (.slice na f.nons.length nc)∧W.cell? ⟨m,2,none⟩=some (.slice pa f.prods.length pc)∧W.cell? ⟨m,3,none⟩=some (.map (some b))):=fun W hW=>by
    exact ⟨(hW.cell (p:=⟨m,0,none⟩) hML hne).trans m0,(hW.cell (p:=⟨m,1,none⟩) hML hne).trans m1,(hW.cell (p:=⟨m,2,none⟩) hML hne).trans m2,(hW.cell (p:=⟨m,3,none⟩) hML hne).trans m3⟩
  have HBW:Hid (∀ W,But (fun k=>k=b) wm W→Below w.heap.size w W):=fun W hW=>B0.trans (hW.below B0.size (fun k e=>by rw [e]; exact hbw))
  clear m0 m1 m2 m3
  go_loopw [14] (fun iv wr=>∃ (i:Nat),iv=.int .i64 i∧i≤R.length∧MapP b i i R wr∧But (fun k=>k=b) wm wr) (fun i _=>R.length - (Go.RowKit.intOf i).toNat)
  case atStart=>exact ⟨0,rfl,Nat.zero_le _,HM0.out,But.refl _ _⟩
  case round =>
  clear HM0
  obtain ⟨i,rfl,hi,hM,BR⟩:=hrel
  have BW:=HBW.out _ BR
  by_cases hlt:i<R.length
  case neg =>
    obtain rfl:i=R.length:=by omega
    have HR:Hid (MkAt f ⟨ta,tc,na,nc,pa,pc⟩ R m b wr):=by
      obtain ⟨h1,h2,h3,h4⟩:=HCM.out _ BR
      exact ⟨Nat.lt_of_lt_of_le hML BR.size,h1,h2,h3,h4,hM⟩
    clear hM HKO HST HL HCM
    go_wp2_with fail
    go_ret
    exact ⟨m,b,rfl,HR.out,BW⟩
  obtain ⟨_,_,e0,hrl,_⟩:=HL.out _ BW
  cases e0
  obtain ⟨b2,o2,u,rfl,hb2,c0,hsl⟩:=hrl.at (Below.refl _ _) hlt
  have HK1:=HKO.out R[i] (List.getElem_mem hlt) u wr.drew (hsl.next (Below.refl _ wr).drew)
  have HS1:=HST.out b i i
  have HMN:Hid (∀ W,Below wr.heap.size wr W→MapP b i i R W):=fun W hW=>hM.next hW
  obtain ⟨ua,uc,rfl,_⟩:=hsl
  have hS0:(fun W:World=>(W.cell? ⟨m,3,none⟩=some (.map (some b)))) wr.drew:=(HCM.out _ BR).2.2.2
  have HSK:Hid (∀ W,Below wr.heap.size wr W→(fun W:World=>(W.cell? ⟨m,3,none⟩=some (.map (some b)))) W):=fun W hW=>(hW.cell (p:=⟨m,3,none⟩) (Nat.lt_of_lt_of_le hML BR.size)).trans hS0
  have HIL:Hid (i<R.length):=hlt
  clear hM hrl HKO HST HL HCM
  generalize R[i].length=rn at *
  go_wp2_with fail
  refine wp_region_L (fun W=>W.cell? ⟨m,3,none⟩=some (.map (some b))) 7 (by kernel_rfl) 8 rfl ?_
  refine tk 0 ⟨some 19,.move (.tmp 5),82, "make.go:23",#[],none⟩ hS0 ?_;simp only [Act.put,sA,s0,sS]
  refine tk 1 ⟨some 20,.nilCheck (.tmp 19),0, "make.go:23",#[⟨0,.data⟩],none⟩ hS0 ?_;simp only [Act.put,sA,s0,sS]
  refine tk 2 ⟨some 21,.fieldAddr 104 (.tmp 20) 1,0, "make.go:23",#[⟨1,.data⟩],none⟩ hS0 ?_;simp only [Act.put,sA,s0,sS]
  refine tk 3 ⟨some 22,.load 102 (.tmp 21),102, "make.go:23",#[⟨2,.data⟩],none⟩ hS0 ?_;simp only [Act.put,sA,s0,sS]
  refine tk 4 ⟨some 23,.move (.tmp 7),84, "make.go:23",#[],none⟩ hS0 ?_;simp only [Act.put,sA,s0,sS]
  refine tk 6 ⟨some 25,.move (.tmp 6),3, "make.go:23",#[],none⟩ hS0 ?_;simp only [Act.put,sA,s0,sS]
  refine wpAnyL_one' (i:=5) (o:=⟨some 24,.call ⟨.value (.func 37),#[.tmp 23],#[84]⟩,9, "make.go:23",#[⟨4,.data⟩],none⟩) (by kernel_rfl) rfl rfl (fun KQ hK=>?_)
  go_simp
  refine HK1.mono ?_
  rintro e w6 ⟨rfl,b6⟩
  have b6':Below wr.heap.size wr w6:=(Below.refl _ wr).drew.trans b6
  refine hK.out _ _ (fun _=>HSK.out w6 b6') ?_
  have hS1:=HSK.out w6 b6'
  obtain ⟨W',hr,hM',hbt⟩:=HS1 w6 HIL.out (HMN.out w6 b6') (by omega)
  unfold strT at hr
  unfold strT
  clear hK
  refine wpAnyL_one' (i:=7) (o:=⟨none,.mapUpdate 102 (.tmp 22) (.tmp 24) (.tmp 25),0, "make.go:23",#[⟨3,.data⟩,⟨5,.data⟩,⟨6,.data⟩,⟨5,.chain⟩,⟨0,.phase⟩,⟨1,.phase⟩,⟨2,.phase⟩,⟨3,.phase⟩,⟨4,.phase⟩,⟨5,.phase⟩,⟨6,.phase⟩],none⟩) (by kernel_rfl) rfl rfl (fun KQ hK=>?_)
  go_simp
  refine hK.out _ _ (fun h=>absurd h (by omega)) ?_
  clear hK
  refine wpAnyL_done (by kernel_rfl) ?_ _
  have HF:Hid (MapP b (i+1) (i+1) R W'∧But (fun k=>k=b) wm W'):=⟨hM',(BR.trans (But.of_next b6')).trans hbt⟩
  clear hM' hbt hr HS1 HMN HK1 hS0 hS1 HSK c0 b6 b6'
  go_wp2_with fail
  exact ⟨⟨i+1,by go_num,by omega,HF.out⟩,by simp [Go.RowKit.intOf]; omega⟩
structure RowI (B b1 g n:Nat) (w0:World) (G:Int→Option Ac) (U:Int→Value) (L:List Wr) (W:World):Prop where
  mp:MapA B b1 n G U W
  ws:WsAt B g L W
  dis:∀ k,inA b1 G U k→inW g W k→False
  o1:∀ k,inA b1 G U k→k=b1∨w0.heap.size≤k
  o2:∀ k,inW g W k→k=g∨w0.heap.size≤k
  bt:But (fun k=>k=b1∨k=g) w0 W
theorem RowI.keep {B b1 g n:Nat} {w0:World} {G:Int→Option Ac} {U:Int→Value} {L:List Wr} {W W':World} {D:Nat→Prop} (h:RowI B b1 g n w0 G U L W) (hb:But D W W') (hA:∀ k,inA b1 G U k→¬ D k) (hW:∀ k,inW g W k→¬ D k) (h0:∀ k,D k→w0.heap.size≤k):RowI B b1 g n w0 G U L W':=by
  have hi:=inW_same (g:=g) (hb.block g h.ws.lt (hW g (.inl rfl)))
  exact ⟨h.mp.keep hb hA,h.ws.keep hb hW,fun k h1 h2=>h.dis k h1 ((hi k).1 h2),h.o1,fun k hk=>h.o2 k ((hi k).1 hk),
    ⟨hb.os.trans h.bt.os,hb.tape.trans h.bt.tape,hb.output.trans h.bt.output,Nat.le_trans h.bt.size hb.size,fun k hk hd=>(hb.block k (Nat.lt_of_lt_of_le hk h.bt.size) (fun e=>by have:=h0 k e; omega)).trans (h.bt.block k hk hd)⟩⟩
theorem RowI.next {B b1 g n:Nat} {w0:World} {G:Int→Option Ac} {U:Int→Value} {L:List Wr} {W W':World} (h:RowI B b1 g n w0 G U L W) (hb:Below W.heap.size W W'):RowI B b1 g n w0 G U L W' :=
  h.keep (D:=fun _=>False) (But.of_next hb) (fun _ _ h=>h) (fun _ _ h=>h) (fun _ h=>h.elim)
theorem RowI.ended {B b1 g n:Nat} {w0:World} {G:Int→Option Ac} {U:Int→Value} {L:List Wr} {W W':World} {t:Int} {a:Ac} (h:RowI B b1 g n w0 G U L W) (he:Ended B b1 n G U t a W W'):∃ U',RowI B b1 g (n+1) w0 (updG G t a) U' L W':=by
  obtain ⟨u,hm,hb,hin⟩:=he
  have hn:∀ k,inW g W k→¬ inA b1 G U k:=fun k h1 h2=>h.dis k h2 h1
  have hi:=inW_same (g:=g) (hb.block g h.ws.lt (hn g (.inl rfl)))
  refine ⟨_,hm,h.ws.keep hb hn,fun k h1 h2=>?_,fun k hk=>?_,fun k hk=>h.o2 k ((hi k).1 hk),⟨hb.os.trans h.bt.os,hb.tape.trans h.bt.tape,hb.output.trans h.bt.output,Nat.le_trans h.bt.size hb.size,fun k hk hd=>(hb.block k (Nat.lt_of_lt_of_le hk h.bt.size) (fun e=>?_)).trans (h.bt.block k hk hd)⟩⟩
  · have h3:=(hi k).1 h2
    rcases hin k h1 with h4 | h4
    · exact h.dis k h4 h3
    · have:=(h.ws.inLt h3).2; omega
  · rcases hin k hk with h4 | h4
    · exact h.o1 k h4
    · exact .inr (Nat.le_trans h.bt.size h4)
  · rcases h.o1 k e with e1 | e1
    · exact hd (.inl e1)
    · omega
theorem RowI.wrote {B b1 g n:Nat} {w0:World} {G:Int→Option Ac} {U:Int→Value} {L L':List Wr} {W W':World} (h:RowI B b1 g n w0 G U L W) (hw:Wrote g W W') (hs:WsAt B g L' W'):RowI B b1 g n w0 G U L' W':=by
  obtain ⟨hb,hin⟩:=hw
  refine ⟨h.mp.keep hb (fun k h1 h2=>h.dis k h1 h2),hs,fun k h1 h2=>?_,h.o1,fun k hk=>?_,⟨hb.os.trans h.bt.os,hb.tape.trans h.bt.tape,hb.output.trans h.bt.output,Nat.le_trans h.bt.size hb.size,fun k hk hd=>(hb.block k (Nat.lt_of_lt_of_le hk h.bt.size) (fun e=>?_)).trans (h.bt.block k hk hd)⟩⟩
  · rcases hin k h2 with h4 | h4
    · exact h.dis k h1 h4
    · have:=(h.mp.inLt h1).2; omega
  · rcases hin k hk with h4 | h4
    · exact h.o2 k h4
    · exact .inr (Nat.le_trans h.bt.size h4)
  · rcases h.o2 k e with e1 | e1
    · exact hd (.inr e1)
    · omega
theorem made3 (a b c:Value) {n i j:Nat} (hi:i<n) (hj:j<3):(madeCells #[a,b,c] (n * 3))[i * 3+j]?=some #[a,b,c][j]! := by
  unfold madeCells
  rw [Array.getElem?_map,Array.getElem?_range,if_pos (by omega)]
  have e:(i * 3+j) % (#[a,b,c]:Array Value).size=j:=by show (i * 3+j) % 3=j; omega
  simp only [Option.map_some,e]
theorem ws_made {B g n:Nat} {W:World} (hB:B≤g) (h:W.heap[g]?=some (.cells (madeCells #[.pointer none,.slice none 0 0,.bool false] (n * 3)) 71 (0,0))):WsAt B g (List.replicate n ⟨[],false⟩) W:=by
  have hz:∀ (i:Nat) (x:Wr),(List.replicate n (⟨[],false⟩:Wr))[i]?=some x→i<n∧x=⟨[],false⟩:=fun i x hx=>by
    rw [List.getElem?_replicate] at hx
    split at hx
    · rename_i hi; exact ⟨hi,(Option.some.inj hx).symm⟩
    · cases hx
  have hs:(madeCells #[.pointer none,.slice none 0 0,.bool false] (n * 3)).size=n * 3:=size_madeCells _ _
  have hb:∀ (i:Nat) (v:Value),W.cell? ⟨g,i * 3+1,none⟩=some v→v=.slice none 0 0:=fun i v hv=>by
    rw [Lib.cell_of_heap h] at hv
    have hi:i<n:=by have:=(Array.getElem?_eq_some_iff.1 hv).1; omega
    rw [made3 _ _ _ hi (by omega)] at hv
    exact (Option.some.inj hv).symm
  refine ⟨hB,⟨_,h,by rw [hs,List.length_replicate]⟩,fun i x hx=>?_,fun i x hx=>?_,fun i x hx=>?_,fun i x v _ _ hv=>hb i v hv,fun i j u v k _ hu _ hk=>?_⟩
  · obtain ⟨hi,rfl⟩:=hz i x hx
    exact .inl (by rw [Lib.cell_of_heap h]; exact made3 _ _ _ hi (j:=0) (by omega))
  · obtain ⟨hi,rfl⟩:=hz i x hx
    exact ⟨.slice none 0 0,by rw [Lib.cell_of_heap h]; exact made3 _ _ _ hi (j:=1) (by omega),World.ownsRow_nil _ _ _ _⟩
  · obtain ⟨hi,rfl⟩:=hz i x hx
    rw [Lib.cell_of_heap h]; exact made3 _ _ _ hi (j:=2) (by omega)
  · rw [hb i u hu] at hk; cases hk
theorem wL_nil (f:Fl):wL f []=List.replicate f.n ⟨[],false⟩:=by
  unfold wL
  refine List.ext_getElem? (fun i=>?_)
  rw [List.getElem?_map,List.getElem?_replicate]
  by_cases hi:i<f.n
  · simp [hi,movedL,keyT]
  · simp [hi]
def Dst (g b1 rb:Nat) (w2:World) (s k:Nat):Prop:=k=b1∨k=rb∨∃ i u,i<s∧w2.cell? ⟨g,i * 3+1,none⟩=some u∧u.ownBlock=some k
theorem Dst.mono {g b1 rb:Nat} {w2:World} {s s' k:Nat} (h:Dst g b1 rb w2 s k) (hs:s≤s'):Dst g b1 rb w2 s' k:=by
  rcases h with h | h | ⟨i,u,hi,h⟩
  · exact .inl h
  · exact .inr (.inl h)
  · exact .inr (.inr ⟨i,u,by omega,h⟩)
structure RowJ (B b1 g rb n1:Nat) (w2:World) (f:Fl) (R:List (List Ir)) (l:List Ir) (U0:Int→Value) (s sg sd:Nat) (U:Int→Value) (vg:Value) (W:World):Prop where
  mp:∃ n',n'≤n1+s∧MapA B b1 n' (gS f R l s) U W
  sub:∀ k,inA b1 (gS f R l s) U k→inA b1 (gEnd f l) U0 k
  box:W.heap[rb]?=some (Obj.cells #[.slice none 0 0,vg] 38)
  own:OwnP 65 w2.heap.size (goUp f R l sg) vg W
  bt:But (Dst g b1 rb w2 sd) w2 W
structure Row2 (B b1 g rb n1:Nat) (w2:World) (f:Fl) (l:List Ir) (U0:Int→Value):Prop where
  mp:MapA B b1 n1 (gEnd f l) U0 w2
  ws:WsAt B g (wL f l) w2
  dis:∀ k,inA b1 (gEnd f l) U0 k→inW g w2 k→False
  a1:∀ k,inA b1 (gEnd f l) U0 k→k<rb
  a2:∀ k,inW g w2 k→k<rb
  rlt:rb<w2.heap.size
theorem RowJ.keep {B b1 g rb n1:Nat} {w2:World} {f:Fl} {R:List (List Ir)} {l:List Ir} {U0:Int→Value} {s sg sd sd':Nat} {U:Int→Value} {vg:Value} {W W':World} {D:Nat→Prop} (h:RowJ B b1 g rb n1 w2 f R l U0 s sg sd U vg W) (hb:But D W W')
    (hA:∀ k,inA b1 (gEnd f l) U0 k→¬ D k) (hr:¬ D rb) (hv:∀ k,w2.heap.size≤k→¬ D k) (hD:∀ k,k<w2.heap.size→D k→Dst g b1 rb w2 sd' k) (hs:sd≤sd'):RowJ B b1 g rb n1 w2 f R l U0 s sg sd' U vg W':=by
  obtain ⟨n',hn',hm⟩:=h.mp
  refine ⟨⟨n',hn',hm.keep hb (fun k hk=>hA k (h.sub k hk))⟩,h.sub,(hb.block rb (Array.getElem?_eq_some_iff.1 h.box).1 hr).trans h.box,ownsRow_keep h.own hb (fun k hk=>hv k (World.ownsRow.lt h.own k hk).1),?_⟩
  exact ⟨hb.os.trans h.bt.os,hb.tape.trans h.bt.tape,hb.output.trans h.bt.output,Nat.le_trans h.bt.size hb.size,fun k hk hd=>(hb.block k (Nat.lt_of_lt_of_le hk h.bt.size) (fun e=>hd (hD k hk e))).trans (h.bt.block k hk (fun e=>hd (e.mono hs)))⟩
theorem RowJ.next {B b1 g rb n1:Nat} {w2:World} {f:Fl} {R:List (List Ir)} {l:List Ir} {U0:Int→Value} {s sg sd sd':Nat} {U:Int→Value} {vg:Value} {W W':World} (h:RowJ B b1 g rb n1 w2 f R l U0 s sg sd U vg W) (hb:Below W.heap.size W W') (hs:sd≤sd'):RowJ B b1 g rb n1 w2 f R l U0 s sg sd' U vg W' :=
  h.keep (D:=fun _=>False) (But.of_next hb) (fun _ _ h=>h) (fun h=>h) (fun _ _ h=>h) (fun _ _ h=>h.elim) hs
theorem RowJ.gkeep {B b1 g rb n1:Nat} {w2:World} {f:Fl} {R:List (List Ir)} {l:List Ir} {U0:Int→Value} {s sg sd:Nat} {U:Int→Value} {vg:Value} {W:World} (h:RowJ B b1 g rb n1 w2 f R l U0 s sg sd U vg W) (h2:Row2 B b1 g rb n1 w2 f l U0) (hsn:sd≤f.n):W.heap[g]?=w2.heap[g]?:=by
  refine h.bt.block g h2.ws.lt (fun e=>?_)
  rcases e with e | e | ⟨i,u,hi,hu,hk⟩
  · exact h2.dis g (.inl e) (.inl rfl)
  · have:=h2.a2 g (.inl rfl); omega
  · obtain ⟨cs,hc,hs⟩:=h2.ws.blk
    obtain ⟨v,hv,ho⟩:=h2.ws.buf i _ (wL_get (l:=l) (by omega))
    rw [hu] at hv; cases hv
    exact Lib.ownBlock_ne ho hc (by decide) hk
theorem RowJ.key {B b1 g rb n1:Nat} {w2:World} {f:Fl} {R:List (List Ir)} {l:List Ir} {U0:Int→Value} {s sg sd:Nat} {U:Int→Value} {vg:Value} {W:World} (h:RowJ B b1 g rb n1 w2 f R l U0 s sg sd U vg W) (h2:Row2 B b1 g rb n1 w2 f l U0) (hsn:sd<f.n) :
    ∃ v,W.cell? ⟨g,sd * 3+1,none⟩=some v∧w2.cell? ⟨g,sd * 3+1,none⟩=some v∧OwnB B (keyT (movedL f l (sd:Int))) v W∧(keyT (movedL f l (sd:Int))=[]→v=.slice none 0 0):=by
  have hg:=h.gkeep h2 (by omega)
  obtain ⟨v,hv,ho⟩:=h2.ws.buf sd _ (wL_get (l:=l) hsn)
  refine ⟨v,(World.cell?_of_block hg).trans hv,hv,ownsRow_keep ho h.bt (fun k hk e=>?_),fun e=>h2.ws.nil sd _ v (wL_get (l:=l) hsn) e hv⟩
  have hin:inW g w2 k:=.inr ⟨sd,v,hv,hk⟩
  rcases e with e | e | ⟨i,u,hi,hu,hk'⟩
  · exact h2.dis k (.inl e) hin
  · have:=h2.a2 k hin; omega
  · exact h2.ws.apart i sd u v k (by omega) hu hv hk' hk
theorem RowJ.str {B b1 g rb n1:Nat} {w2:World} {f:Fl} {R:List (List Ir)} {l:List Ir} {U0:Int→Value} {s sg sd:Nat} {U:Int→Value} {vg v:Value} {W W':World} (h:RowJ B b1 g rb n1 w2 f R l U0 s sg sd U vg W) (h2:Row2 B b1 g rb n1 w2 f l U0) (hv:w2.cell? ⟨g,sd * 3+1,none⟩=some v) (hb:But (fun k=>v.ownBlock=some k) W W'):RowJ B b1 g rb n1 w2 f R l U0 s sg (sd+1) U vg W':=by
  have hin:∀ k,v.ownBlock=some k→inW g w2 k:=fun k hk=>.inr ⟨sd,v,hv,hk⟩
  refine h.keep hb (fun k hk e=>h2.dis k hk (hin k e)) (fun e=>?_) (fun k hk e=>?_) (fun k _ e=>.inr (.inr ⟨sd,v,by omega,hv,e⟩)) (by omega)
  · have:=h2.a2 rb (hin rb e); omega
  · have:=h2.a2 k (hin k e)
    have:=h2.rlt; omega
theorem RowJ.go {B b1 g rb n1:Nat} {w2:World} {f:Fl} {R:List (List Ir)} {l:List Ir} {U0:Int→Value} {s sg sd:Nat} {U:Int→Value} {vg vg':Value} {W W1:World} (h:RowJ B b1 g rb n1 w2 f R l U0 s sg sd U vg W) (h2:Row2 B b1 g rb n1 w2 f l U0) (hgr:W.grownBy W1 vg.ownBlock) (ho:OwnP 65 w2.heap.size (goUp f R l (sg+1)) vg' W1) :
    RowJ B b1 g rb n1 w2 f R l U0 s (sg+1) sd U vg' (W1.setCell ⟨rb,1,none⟩ vg'):=by
  have hvl:∀ k,vg.ownBlock=some k→w2.heap.size≤k:=fun k hk=>(World.ownsRow.lt h.own k hk).1
  have hvl':∀ k,vg'.ownBlock=some k→w2.heap.size≤k:=fun k hk=>(World.ownsRow.lt ho k hk).1
  have hrl:=h2.rlt
  have hrb:rb<W.heap.size:=(Array.getElem?_eq_some_iff.1 h.box).1
  have hb:But (fun k=>vg.ownBlock=some k∨k=rb) W (W1.setCell ⟨rb,1,none⟩ vg') :=
    But.setCell ⟨hgr.os,hgr.tape,hgr.output,hgr.size,fun k hk hd=>hgr.block k hk (fun e=>hd (.inl e.symm))⟩ _ _ (.inr (.inr rfl))
  have hbox1:W1.heap[rb]?=some (Obj.cells #[.slice none 0 0,vg] 38):=(hgr.block rb hrb (fun e=>by have:=hvl rb e.symm; omega)).trans h.box
  obtain ⟨n',hn',hm⟩:=h.mp
  refine ⟨⟨n',hn',hm.keep hb (fun k hk e=>?_)⟩,h.sub,?_,ownsRow_keep (D:=fun k=>k=rb) ho ((But.refl _ W1).setCell _ _ (.inr rfl)) (fun k hk e=>by have:=hvl' k hk; omega),?_⟩
  · have:=h2.a1 k (h.sub k hk)
    rcases e with e | e
    · have:=hvl k e; omega
    · omega
  · have:=blk_set (o:=1) hbox1 vg'
    simpa using this
  · exact ⟨hb.os.trans h.bt.os,hb.tape.trans h.bt.tape,hb.output.trans h.bt.output,Nat.le_trans h.bt.size hb.size,fun k hk hd=>(hb.block k (Nat.lt_of_lt_of_le hk h.bt.size) (fun e=>by
      rcases e with e | e
      · have:=hvl k e; omega
      · exact hd (.inr (.inl e)))).trans (h.bt.block k hk hd)⟩
theorem RowJ.shift {B b1 g rb n1:Nat} {w2:World} {f:Fl} {R:List (List Ir)} {l:List Ir} {U0:Int→Value} {s sg sd n':Nat} {U:Int→Value} {vg:Value} {W W':World} (h:RowJ B b1 g rb n1 w2 f R l U0 s sg sd U vg W) (h2:Row2 B b1 g rb n1 w2 f l U0) (hn':n'≤n1+s) (hm:MapA B b1 (n'+1) (gS f R l (s+1)) (updU U s (curU (gS f R l s) U s)) W') (hb:But (fun k=>k=b1) W W')
    (hG:∀ t a,gS f R l (s+1) t=some a→t≠(s:Int)→∃ a',gS f R l s t=some a'):RowJ B b1 g rb n1 w2 f R l U0 (s+1) sg sd (updU U s (curU (gS f R l s) U s)) vg W':=by
  have hbr:b1≠rb:=fun e=>by have:=h2.a1 b1 (.inl rfl); omega
  refine ⟨⟨n'+1,by omega,hm⟩,fun k hk=>?_,(hb.block rb (Array.getElem?_eq_some_iff.1 h.box).1 (fun e=>hbr e.symm)).trans h.box,ownsRow_keep h.own hb (fun k hk e=>?_),?_⟩
  · rcases hk with e | ⟨t,a,ha,hk⟩
    · exact .inl e
    · unfold updU at hk
      split at hk
      · obtain ⟨a',ha',hk'⟩:=curU_in hk
        exact h.sub k (.inr ⟨_,a',ha',hk'⟩)
      · rename_i ht
        obtain ⟨a',ha'⟩:=hG t a ha ht
        exact h.sub k (.inr ⟨t,a',ha',hk⟩)
  · have h3:=(World.ownsRow.lt h.own k hk).1
    have:=h2.a1 b1 (.inl rfl)
    have:=h2.rlt
    omega
  · exact ⟨hb.os.trans h.bt.os,hb.tape.trans h.bt.tape,hb.output.trans h.bt.output,Nat.le_trans h.bt.size hb.size,fun k hk hd=>(hb.block k (Nat.lt_of_lt_of_le hk h.bt.size) (fun e=>hd (.inl e))).trans (h.bt.block k hk hd)⟩
theorem gS_old {f:Fl} {R:List (List Ir)} {l:List Ir} {s:Nat}:∀ t a,gS f R l (s+1) t=some a→t≠(s:Int)→∃ a',gS f R l s t=some a':=by
  intro t a h ht
  unfold gS at h
  split at h
  · rename_i hc
    exact ⟨_,by unfold gS; rw [if_pos ⟨hc.1,by omega,hc.2.2⟩]⟩
  · rename_i hc
    refine ⟨a,?_⟩
    unfold gS
    rw [if_neg (fun h'=>hc ⟨h'.1,by omega,h'.2.2⟩)]
    exact h
theorem RowJ.skip {B b1 g rb n1:Nat} {w2:World} {f:Fl} {R:List (List Ir)} {l:List Ir} {U0:Int→Value} {s sg sd:Nat} {U:Int→Value} {vg:Value} {W:World} (h:RowJ B b1 g rb n1 w2 f R l U0 s sg sd U vg W) (hk:¬ s<f.terms.length∨movedL f l (s:Int)=[]):RowJ B b1 g rb n1 w2 f R l U0 (s+1) sg sd U vg W:=by
  obtain ⟨n',hn',hm⟩:=h.mp
  have e:=gS_skip (R:=R) hk
  exact ⟨⟨n',by omega,by rw [e]; exact hm⟩,fun k hk=>h.sub k (by rw [e] at hk; exact hk),h.box,h.own,h.bt⟩
theorem RowJ.noGo {B b1 g rb n1:Nat} {w2:World} {f:Fl} {R:List (List Ir)} {l:List Ir} {U0:Int→Value} {s sg sd:Nat} {U:Int→Value} {vg:Value} {W:World} (h:RowJ B b1 g rb n1 w2 f R l U0 s sg sd U vg W) (hk:movedL f l (sg:Int)=[]):RowJ B b1 g rb n1 w2 f R l U0 s (sg+1) (sd+1) U vg W :=
  ⟨h.mp,h.sub,h.box,by rw [goUp_succ,if_pos hk,List.append_nil]; exact h.own,h.bt.mono (fun k _ e=>e.mono (by omega))⟩
theorem goUp_ok {f:Fl} {R:List (List Ir)} {l:List Ir} {s:Nat} (hs:s≤600) (hR:R.length≤600):∀ x∈goUp f R l s,okP x:=by
  intro x hx
  unfold goUp at hx
  obtain ⟨q,hq,hx⟩:=List.mem_filterMap.1 hx
  obtain ⟨t,ht,rfl⟩:=Option.map_eq_some_iff.1 hx
  rw [List.mem_range] at hq
  unfold toF at ht
  split at ht
  · cases ht
  · cases ht
    have:=findI_le R (gotoF f l q)
    unfold okP i64B
    omega
theorem gS_ok {f:Fl} {R:List (List Ir)} {l:List Ir} {n:Nat} (hp:FitP f) (hl:∀ x∈l,fitI f x=true) (hll:l.length≤16000000) (hR:R.length≤600) (t:Int) (a:Ac) (h:gS f R l n t=some a):i64B a.look∧i64B a.to∧(∀ x∈a.red,i64B x)∧a.red.length≤140737488351232:=by
  have h1:=gS_look hl (by rw [h]; rfl)
  have h4:f.terms.length+f.nons.length≤600:=hp.size
  have h3:=hp.prods
  have hr:∀ x∈redL f l t,i64B x:=fun x hx=>by
    unfold redL at hx
    obtain ⟨y,hy,rfl⟩:=List.mem_map.1 hx
    have:=fitI_iff.1 (hl y (List.mem_filter.1 hy).1)
    unfold i64B; omega
  have hn:=redL_len f l t
  unfold gS at h
  split at h
  · cases h
    have:=findI_le R (gotoF f l t)
    exact ⟨by unfold i64B; simp only; omega,by unfold i64B; simp only; omega,hr,by simp only; omega⟩
  · unfold gEnd at h
    split at h
    · cases h
      exact ⟨by unfold i64B; simp only; omega,by unfold i64B; simp only; omega,hr,by simp only; omega⟩
    · cases h
theorem infoWr:(Tryz.prog.info? 71).map (fun i=>(i.zero,i.size,i.bytes))=some (some (.agg #[.pointer none,.slice none 0 0,.bool false]),3,40):=by kernel_rfl
theorem infoGo12:(Tryz.prog.info? 65).map (fun i=>(i.zero,i.size,i.bytes))=some (some (.agg #[.int .i64 0,.int .i64 0]),2,16):=by kernel_rfl
def zeroU:Int→Value:=fun _=>.slice none 0 0
def KeepR (lo hi:Nat) (r:Rw) (va vg:Value) (W:World):Prop:=∀ (W':World) (D:Nat→Prop),But D W W'→(∀ k,D k→k<lo∨hi≤k)→SlA r.acts va W'∧SlG r.goes vg W'
theorem KeepR.keep {lo hi:Nat} {r:Rw} {va vg:Value} {W W1:World} {D:Nat→Prop} (h:KeepR lo hi r va vg W) (hb:But D W W1) (hd:∀ k,D k→k<lo∨hi≤k):KeepR lo hi r va vg W1:=fun W' D' hb' hd' =>
  h W' (fun k=>D k∨D' k) ((hb.mono (fun _ _ h=>.inl h)).trans (hb'.mono (fun _ _ h=>.inr h))) (fun k hk=>hk.elim (hd k) (hd' k))
set_option maxRecDepth 100000 in
set_option maxHeartbeats 4000000 in
theorem rowM_any (f:Fl) (a:FlA) (R:List (List Ir)) (l:List Ir) (v:Value) (m b0 i0:Nat) (w:World) (hp:FitP f) (hall:allF f=some R) (hR6:R.length≤600) (hl:R[i0]?=some l) (hll:l.length≤maxI) (hf:FlAt f a w) (hM:MkAt f a R m b0 w) (hv:SlL l v w) :
    Calls Tryz.prog 26 #[.pointer (some ⟨m,0,none⟩),v] w fun e w'=>∃ va vg,e=.returned (.agg #[va,vg])∧KeepR w.heap.size w'.heap.size (rowT f R l) va vg w'∧Below w.heap.size w w':=by
  obtain ⟨iw,hiw,hw0,hw1,hw2⟩:=info_parts infoWr
  obtain ⟨ig,hig,hg0,hg1,hg2⟩:=info_parts infoGo12
  have hn6:f.terms.length+f.nons.length≤600:=hp.size
  have hfn:f.n=f.terms.length+f.nons.length:=rfl
  have hfit:=(sets_fit hp hall (List.mem_of_getElem? hl)).2
  have HFIT:Hid (∀ x∈l,fitI f x=true):=hfit
  have HNX:Hid (∀ x W,Below w.heap.size w W→Calls Tryz.prog 38 #[a.val f,valR x] W fun e w'=>e=.returned (.tuple #[.int .i64 ((nextI f x).getD 0),.bool (nextI f x).isSome])∧Below W.heap.size W w'):=fun x W hW=>next_item f a x W (hf.next hW) hn6
  have HEN:Hid (∀ (b n:Nat) (G:Int→Option Ac) (U:Int→Value) (x:Ir) W,MapA w.heap.size b n G U W→okR x→n<1000000000→(curA G x.2.2).red.length≤100000000→w.heap.size≤W.heap.size→Calls Tryz.prog 39 #[.map (some b),valR x] W fun e w'=>e=.returned (.tuple #[])∧Ended w.heap.size b n G U x.2.2 (endA (curA G x.2.2) x.1) W w'):=fun b n G U x W h1 h2 h3 h4 h5=>endAct_any x W h1 h2 h3 h4 h5
  have HIT:Hid (∀ (g i:Nat) (L:List Wr) (y:Wr) (x:Ir) W,WsAt w.heap.size g L W→L[i]?=some y→FitT x→y.bs.length≤100000000→w.heap.size≤W.heap.size→Calls Tryz.prog 40 #[.pointer (some ⟨g,i * 3,none⟩),valR x] W fun e w'=>e=.returned (.tuple #[])∧WsAt w.heap.size g (L.set i ⟨y.bs++encT x,y.bad⟩) w'∧Wrote g W w'):=fun g i L y x W h1 h2 h3 h4 h5=>wItem_any x W h1 h2 h3 h4 h5
  have HMK:Hid (∀ W,Below w.heap.size w W→MkAt f a R m b0 W):=fun W hW=>hM.next hW
  have HSL:Hid (∀ W,Below w.heap.size w W→SlL l v W):=fun W hW=>hv.next hW
  obtain ⟨la,lc,rfl,_⟩:=hv
  obtain ⟨ta,tc,na,nc,pa,pc⟩:=a
  unfold FlA.val at HNX
  simp only at *
  -- the boxes
  obtain ⟨wz,hwz⟩:∃ wz,(w.alloc (Obj.cells #[.slice none 0 0,.slice none 0 0] 38)).alloc (.map #[] 0)=wz:=⟨_,rfl⟩
  have Bz:Below w.heap.size w wz:=by rw [← hwz]; exact ((Below.refl _ _).alloc (Nat.le_refl _) _).alloc (by simp) _
  have hzs:wz.heap.size=w.heap.size+1+1:=by rw [← hwz]; simp
  have hzb:wz.heap[w.heap.size]?=some (Obj.cells #[.slice none 0 0,.slice none 0 0] 38):=by rw [← hwz]; exact (Lib.alloc_old _ _ _ (by simp)).trans (heap_alloc_new _ _)
  have HMZ:Hid (MapA w.heap.size (w.heap.size+1) 0 (fun _=>none) zeroU wz):=by
    show MapA _ _ _ _ _ _
    rw [← hwz]
    have h1:=MapA.made (B:=w.heap.size) (w.alloc (Obj.cells #[.slice none 0 0,.slice none 0 0] 38)) (by simp) zeroU
    have e:(w.alloc (Obj.cells #[.slice none 0 0,.slice none 0 0] 38)).heap.size=w.heap.size+1:=by simp
    rw [e] at h1
    exact h1
  clear hM hf
  go_enter Tryz.func26,Tryz.ntmps26
  go_wp2_with fail
  simp only [run_makeMap,Result.andThen]
  rw [Oper.upon_value]
  go_upto_region 2 with fail
  try rw [hwz]
  clear hwz
  have hS0:(fun W:World=>(W.cell? ⟨m,0,none⟩=some (.slice ta f.terms.length tc)∧W.cell? ⟨m,1,none⟩=some (.slice na f.nons.length nc))) wz.drew:=⟨(HMK.out wz Bz).2.1,(HMK.out wz Bz).2.2.1⟩
  have hwn:IntKind.i64.wrap ((f.terms.length:Int)+(f.nons.length:Int))=((f.terms.length+f.nons.length:Nat):Int):=by rw [IntKind.wrap_i64]; omega
  obtain ⟨n,hn⟩:∃ n,f.terms.length+f.nons.length=n:=⟨_,rfl⟩
  rw [hn] at hwn hn6 hfn
  have hrun:(Instr.makeSlice 108 (.int .i64 (n:Int)) (.int .i64 (n:Int))).run Tryz.prog wz.drew=.ok (.slice (some ⟨w.heap.size+1+1,0,none⟩) n n) (wz.drew.alloc (.cells (madeCells #[.pointer none,.slice none 0 0,.bool false] (n * 3)) 71)):=by
    have h:=run_make wz.drew 108 71 iw _ Tryz.underlying108 hiw hw0 .i64 .i64 (n:Int) (n:Int) (by omega) (by omega) (by rw [hw2]; omega) (by omega)
    rw [hw1] at h
    simp only [Int.toNat_natCast] at h
    have e:wz.drew.heap.size=w.heap.size+1+1:=hzs
    rw [e] at h
    exact h
  refine wp_region_L (fun W=>W.cell? ⟨m,0,none⟩=some (.slice ta f.terms.length tc)∧W.cell? ⟨m,1,none⟩=some (.slice na f.nons.length nc)) 14 (by kernel_rfl) 15 rfl ?_
  refine tk 0 ⟨some 15,.move (.tmp 0),82, "make.go:42",#[],none⟩ hS0 ?_;simp only [Act.put,sA,s0,sS]
  refine tk 1 ⟨some 16,.nilCheck (.tmp 15),0, "make.go:42",#[⟨0,.data⟩],none⟩ hS0 ?_;simp only [Act.put,sA,s0,sS]
  refine tk 2 ⟨some 17,.fieldAddr 104 (.tmp 16) 0,0, "make.go:42",#[⟨1,.data⟩],none⟩ hS0 ?_;simp only [Act.put,sA,s0,sS]
  refine tk 3 ⟨some 18,.fieldAddr 50 (.tmp 17) 0,0, "make.go:42",#[⟨2,.data⟩],none⟩ hS0 ?_;simp only [Act.put,sA,s0,sS]
  refine tk 4 ⟨some 19,.load 42 (.tmp 18),42, "make.go:42",#[⟨3,.data⟩],none⟩ hS0 ?_;simp only [Act.put,sA,s0,sS]
  refine tk 5 ⟨some 20,.call ⟨.builtin .len,#[.tmp 19],#[42]⟩,3, "make.go:42",#[⟨4,.data⟩],none⟩ hS0 ?_;simp only [Act.put,sA,s0,sS]
  refine tk 6 ⟨some 21,.move (.tmp 0),82, "make.go:42",#[],none⟩ hS0 ?_;simp only [Act.put,sA,s0,sS]
  refine tk 7 ⟨some 22,.nilCheck (.tmp 21),0, "make.go:42",#[⟨6,.data⟩],none⟩ hS0 ?_;simp only [Act.put,sA,s0,sS]
  refine tk 8 ⟨some 23,.fieldAddr 104 (.tmp 22) 0,0, "make.go:42",#[⟨7,.data⟩],none⟩ hS0 ?_;simp only [Act.put,sA,s0,sS]
  refine tk 9 ⟨some 24,.fieldAddr 50 (.tmp 23) 1,0, "make.go:42",#[⟨8,.data⟩],none⟩ hS0 ?_;simp only [Act.put,sA,s0,sS]
  refine tk 10 ⟨some 25,.load 42 (.tmp 24),42, "make.go:42",#[⟨9,.data⟩],none⟩ hS0 ?_;simp only [Act.put,sA,s0,sS]
  refine tk 11 ⟨some 26,.call ⟨.builtin .len,#[.tmp 25],#[42]⟩,3, "make.go:42",#[⟨10,.data⟩],none⟩ hS0 ?_;simp only [Act.put,sA,s0,sS]
  refine tk 12 ⟨some 27,.binOp .add 3 (.tmp 20) (.tmp 26) 3,3, "make.go:42",#[⟨5,.data⟩,⟨11,.data⟩],none⟩ hS0 ?_;simp only [Act.put,sA,s0,sS]
  try simp only [hwn]
  refine wpAnyL_one' (i:=13) (o:=⟨some 28,.makeSlice 108 (.tmp 27) (.tmp 27),108, "make.go:42",#[⟨12,.data⟩,⟨12,.data⟩],none⟩) (by kernel_rfl) rfl rfl (fun K hK=>?_)
  go_simp
  refine hK.out _ _ (fun _=>⟨?_,?_⟩) ?_
  · exact (World.cell?_of_block (show _=_ from Lib.alloc_old wz _ m (HMK.out wz Bz).1)).trans hS0.1
  · exact (World.cell?_of_block (show _=_ from Lib.alloc_old wz _ m (HMK.out wz Bz).1)).trans hS0.2
  clear hK
  refine wpAnyL_one' (i:=14) (o:=⟨some 6,.assign (.tmp 28),108, "make.go:42",#[⟨13,.data⟩,⟨0,.phase⟩,⟨1,.phase⟩,⟨2,.phase⟩,⟨3,.phase⟩,⟨4,.phase⟩,⟨5,.phase⟩,⟨6,.phase⟩,⟨7,.phase⟩,⟨8,.phase⟩,⟨9,.phase⟩,⟨10,.phase⟩,⟨11,.phase⟩,⟨12,.phase⟩,⟨13,.phase⟩],none⟩) (by kernel_rfl) rfl rfl (fun K hK=>?_)
  go_simp
  refine hK.out _ _ (fun h=>absurd h (by omega)) ?_
  clear hK
  refine wpAnyL_done (by kernel_rfl) ?_ _
  obtain ⟨w0,hw0'⟩:∃ w0,(wz.alloc (Obj.cells (madeCells #[.pointer none,.slice none 0 0,.bool false] (n * 3)) 71)).drew=w0:=⟨_,rfl⟩
  have b0z:Below wz.heap.size wz w0:=by rw [← hw0']; exact ((Below.refl _ _).alloc (Nat.le_refl _) _).drew
  have B0:Below w.heap.size w w0:=Bz.trans (b0z.mono Bz.size)
  have h0g:w0.heap[w.heap.size+1+1]?=some (.cells (madeCells #[.pointer none,.slice none 0 0,.bool false] (n * 3)) 71 (0,0)):=by
    rw [← hw0',← hzs]; exact heap_alloc_new wz _
  have h0z:w0.heap[w.heap.size]?=some (Obj.cells #[.slice none 0 0,.slice none 0 0] 38):=(b0z.block _ (by omega)).trans hzb
  have h0s:w.heap.size+1+1<w0.heap.size:=(Array.getElem?_eq_some_iff.1 h0g).1
  have HI0:Hid (RowI w.heap.size (w.heap.size+1) (w.heap.size+1+1) 0 w0 (gEnd f (l.take 0)) zeroU (wL f (l.take 0)) w0):=by
    have e1:gEnd f (l.take 0)=fun _=>none:=gEnd_nil f
    have e2:wL f (l.take 0)=List.replicate n ⟨[],false⟩:=by rw [← hfn]; exact wL_nil f
    show RowI _ _ _ _ _ _ _ _ _
    rw [e1,e2]
    have hws:=ws_made (B:=w.heap.size) (g:=w.heap.size+1+1) (by omega) h0g
    have hA:∀ k,inA (w.heap.size+1) (fun _=>none) zeroU k→k=w.heap.size+1:=fun k hk=>by
      rcases hk with e | ⟨t,c,hc,_⟩
      · exact e
      · cases hc
    have hWi:∀ k,inW (w.heap.size+1+1) w0 k→k=w.heap.size+1+1:=fun k hk=>by
      rcases hk with e | ⟨i,u,hu,hk⟩
      · exact e
      · have hi:i<n:=by
          rw [Lib.cell_of_heap h0g] at hu
          have:=(Array.getElem?_eq_some_iff.1 hu).1
          rw [size_madeCells] at this
          omega
        have:=hws.nil i ⟨[],false⟩ u (by rw [List.getElem?_replicate,if_pos hi]) rfl hu
        rw [this] at hk; cases hk
    exact ⟨HMZ.out.next b0z,hws,fun k h1 h2=>by have:=hA k h1; have:=hWi k h2; omega,fun k hk=>.inl (hA k hk),fun k hk=>.inl (hWi k hk),But.refl _ _⟩
  have hSB:w.heap.size≤w0.heap.size:=B0.size
  try rw [hw0']
  clear hw0' hS0 hrun b0z h0g hzb hzs HMZ hwn Bz
  generalize hb1:w.heap.size+1=b1 at *
  have hg1':b1+1=b1+1:=rfl
  obtain ⟨g,hg⟩:∃ g,b1+1=g:=⟨_,rfl⟩
  rw [hg] at HI0 h0s ⊢
  have HBW:Hid (∀ W,But (fun k=>k=b1∨k=g) w0 W→Below w.heap.size w W):=fun W hW=>B0.trans (hW.below hSB (fun k e=>by rcases e with e | e <;> omega))
  go_wp2_with fail
  go_loopw [31] (fun iv wr=>∃ (j:Nat),iv=.int .i64 j∧j≤l.length∧∃ U n,n≤j∧RowI w.heap.size b1 g n w0 (gEnd f (l.take j)) U (wL f (l.take j)) wr) (fun i _=>l.length - (Go.RowKit.intOf i).toNat)
  case atStart=>exact ⟨0,rfl,Nat.zero_le _,zeroU,0,Nat.le_refl _,HI0.out⟩
  case round =>
  clear HI0
  obtain ⟨j,rfl,hj,U,n1,hn1,hI⟩:=hrel
  have hB:=HBW.out _ hI.bt
  have hsz0:=hI.bt.size
  have hbs:=hB.size
  unfold maxI at hll
  by_cases hlt:j<l.length
  case pos =>
    obtain ⟨_,_,e0,hrl,_⟩:=HSL.out _ hB
    cases e0
    obtain ⟨b2,o2,rfl,hb2,c0,c1,c2,hok⟩:=hrl.at (Below.refl _ _) hlt
    have hfx:=HFIT.out l[j] (List.getElem_mem hlt)
    have HTK:Hid (l.take (j+1)=l.take j++[l[j]]):=List.take_succ_eq_append_getElem hlt
    have hrd:∀ t,(curA (gEnd f (l.take j)) t).red.length≤100000000:=fun t=>by
      rw [gEnd_cur]
      have h1:=redL_len f (l.take j) t
      have h2:(l.take j).length≤l.length:=by rw [List.length_take]; omega
      show (redL f (l.take j) t).length≤_
      omega
    have hkb:∀ s:Nat,(keyT (movedL f (l.take j) (s:Int))).length≤100000000:=fun s=>by
      rw [keyT_len]
      have h1:=moved_len f (l.take j) s
      have h2:(l.take j).length≤l.length:=by rw [List.length_take]; omega
      omega
    generalize l[j]=x at *
    obtain ⟨x0,x1,x2⟩:=x
    simp only at c0 c1 c2
    have Bx:Below wr.heap.size wr (wr.alloc (Obj.cells #[.int .i64 x0,.int .i64 x1,.int .i64 x2] 110)):=(Below.refl _ _).alloc (Nat.le_refl _) _
    have hIx:=hI.next Bx
    have X0:=RBox.new (x0,x1,x2) 110 wr
    have hXb:(wr.alloc (Obj.cells #[.int .i64 x0,.int .i64 x1,.int .i64 x2] 110)).heap[wr.heap.size]?=some (Obj.cells #[.int .i64 x0,.int .i64 x1,.int .i64 x2] 110):=heap_alloc_new _ _
    have HIX:Hid (RowI w.heap.size b1 g n1 w0 (gEnd f (l.take j)) U (wL f (l.take j)) (wr.alloc (Obj.cells #[.int .i64 x0,.int .i64 x1,.int .i64 x2] 110))):=hIx
    have HIR:Hid (RowI w.heap.size b1 g n1 w0 (gEnd f (l.take j)) U (wL f (l.take j)) wr):=hI
    have HRD:Hid (∀ t,(curA (gEnd f (l.take j)) t).red.length≤100000000):=hrd
    have HKB:Hid (∀ s:Nat,(keyT (movedL f (l.take j) (s:Int))).length≤100000000):=hkb
    have hBx:Below w.heap.size w (wr.alloc (Obj.cells #[.int .i64 x0,.int .i64 x1,.int .i64 x2] 110)):=hB.trans (Bx.mono hbs)
    clear hI hIx hrl hrd hkb
    go_upto_region 6 with fail
    generalize wr.alloc (Obj.cells #[.int .i64 x0,.int .i64 x1,.int .i64 x2] 110)=wx at *
    obtain ⟨hxl,y0,y1,y2⟩:=X0
    simp only at y0 y1 y2 hxl
    clear c0 c1 c2
    obtain ⟨kl,k0,k1,k2,k3,_⟩:=HMK.out wx hBx
    simp only at k0 k1 k2
    have hS0:(fun W:World=>(W.cell? ⟨m,0,none⟩=some (.slice ta f.terms.length tc)∧W.cell? ⟨m,1,none⟩=some (.slice na f.nons.length nc)∧W.cell? ⟨m,2,none⟩=some (.slice pa f.prods.length pc)∧W.cell? ⟨wr.heap.size,0,none⟩=some (.int .i64 x0)∧W.cell? ⟨wr.heap.size,1,none⟩=some (.int .i64 x1)∧W.cell? ⟨wr.heap.size,2,none⟩=some (.int .i64 x2))) wx.drew:=⟨k0,k1,k2,y0,y1,y2⟩
    have HSK:Hid (∀ W,Below wx.heap.size wx.drew W→(fun W:World=>(W.cell? ⟨m,0,none⟩=some (.slice ta f.terms.length tc)∧W.cell? ⟨m,1,none⟩=some (.slice na f.nons.length nc)∧W.cell? ⟨m,2,none⟩=some (.slice pa f.prods.length pc)∧W.cell? ⟨wr.heap.size,0,none⟩=some (.int .i64 x0)∧W.cell? ⟨wr.heap.size,1,none⟩=some (.int .i64 x1)∧W.cell? ⟨wr.heap.size,2,none⟩=some (.int .i64 x2))) W):=fun W b5=>⟨(b5.cell (p:=⟨m,0,none⟩) kl).trans k0,(b5.cell (p:=⟨m,1,none⟩) kl).trans k1,(b5.cell (p:=⟨m,2,none⟩) kl).trans k2,(b5.cell (p:=⟨wr.heap.size,0,none⟩) hxl).trans y0,(b5.cell (p:=⟨wr.heap.size,1,none⟩) hxl).trans y1,(b5.cell (p:=⟨wr.heap.size,2,none⟩) hxl).trans y2⟩
    have HNC:=HNX.out (x0,x1,x2) wx.drew (hBx.drew)
    unfold valR at HNC
    simp only at HNC
    clear k0 k1 k2 k3 y0 y1 y2
    obtain ⟨NX,hNX⟩:∃ NX,nextI f (x0,x1,x2)=NX:=⟨_,rfl⟩
    rw [hNX] at HNC
    have HNXE:Hid (nextI f (x0,x1,x2)=NX):=hNX
    obtain ⟨sv,hsv⟩:∃ sv:Int,NX.getD 0=sv:=⟨_,rfl⟩
    obtain ⟨ok,hok'⟩:∃ ok:Bool,NX.isSome=ok:=⟨_,rfl⟩
    rw [hsv,hok'] at HNC
    have HSV:Hid (NX.getD 0=sv∧NX.isSome=ok):=⟨hsv,hok'⟩
    clear hNX hsv hok'
    refine wp_region_L (fun W=>W.cell? ⟨m,0,none⟩=some (.slice ta f.terms.length tc)∧W.cell? ⟨m,1,none⟩=some (.slice na f.nons.length nc)∧W.cell? ⟨m,2,none⟩=some (.slice pa f.prods.length pc)∧W.cell? ⟨wr.heap.size,0,none⟩=some (.int .i64 x0)∧W.cell? ⟨wr.heap.size,1,none⟩=some (.int .i64 x1)∧W.cell? ⟨wr.heap.size,2,none⟩=some (.int .i64 x2)) 11 (by kernel_rfl) 11 rfl ?_
    refine tk 0 ⟨some 36,.move (.tmp 0),82, "make.go:44",#[],none⟩ hS0 ?_;simp only [Act.put,sA,s0,sS]
    refine tk 1 ⟨some 37,.nilCheck (.tmp 36),0, "make.go:44",#[⟨0,.data⟩],none⟩ hS0 ?_;simp only [Act.put,sA,s0,sS]
    refine tk 2 ⟨some 38,.fieldAddr 104 (.tmp 37) 0,0, "make.go:44",#[⟨1,.data⟩],none⟩ hS0 ?_;simp only [Act.put,sA,s0,sS]
    refine tk 3 ⟨some 39,.load 50 (.tmp 38),50, "make.go:44",#[⟨2,.data⟩],none⟩ hS0 ?_;simp only [Act.put,sA,s0,sS]
    refine tk 4 ⟨some 40,.load 110 (.tmp 8),110, "make.go:44",#[],none⟩ hS0 ?_;simp only [Act.put,sA,s0,sS]
    refine wpAnyL_one' (i:=5) (o:=⟨some 41,.call ⟨.value (.func 38),#[.tmp 39,.tmp 40],#[50,110]⟩,111, "make.go:44",#[⟨3,.data⟩,⟨4,.data⟩],none⟩) (by kernel_rfl) rfl rfl (fun KQ hK=>?_)
    go_simp
    refine HNC.mono ?_
    rintro e w6 ⟨rfl,b6⟩
    refine hK.out _ _ (fun _=>HSK.out w6 b6) ?_
    have hS1:=HSK.out w6 b6
    clear hK
    refine tk 6 ⟨some 35,.move (.tmp 41),111, "make.go:44",#[⟨5,.data⟩],none⟩ hS1 ?_;simp only [Act.put,sA,s0,sS]
    refine tk 7 ⟨some 42,.extract (.tmp 35) 0,3, "make.go:44",#[⟨6,.data⟩],none⟩ hS1 ?_;simp only [Act.put,sA,s0,sS]
    refine tk 8 ⟨some 43,.extract (.tmp 35) 1,4, "make.go:44",#[⟨6,.data⟩,⟨9,.gcOnly .lateStores⟩],none⟩ hS1 ?_;simp only [Act.put,sA,s0,sS]
    refine tk 9 ⟨some 9,.assign (.tmp 42),3, "make.go:44",#[⟨7,.data⟩,⟨5,.chain⟩,⟨0,.phase⟩,⟨1,.phase⟩,⟨2,.phase⟩,⟨3,.phase⟩,⟨4,.phase⟩,⟨5,.phase⟩,⟨6,.phase⟩,⟨7,.phase⟩,⟨8,.textOnly .lateStores⟩],none⟩ hS1 ?_;simp only [Act.put,sA,s0,sS]
    refine tk 10 ⟨some 10,.assign (.tmp 43),4, "make.go:44",#[⟨8,.data⟩,⟨9,.chain⟩,⟨0,.phase⟩,⟨1,.phase⟩,⟨2,.phase⟩,⟨3,.phase⟩,⟨4,.phase⟩,⟨5,.phase⟩,⟨6,.phase⟩,⟨7,.phase⟩,⟨8,.phase⟩,⟨9,.phase⟩],none⟩ hS1 ?_;simp only [Act.put,sA,s0,sS]
    refine wpAnyL_done (by kernel_rfl) ?_ _
    have b6':Below wx.heap.size wx w6:=(Below.refl _ wx).drew.trans b6
    have HI6:Hid (RowI w.heap.size b1 g n1 w0 (gEnd f (l.take j)) U (wL f (l.take j)) w6):=HIX.out.next b6'
    have hs6:w.heap.size≤w6.heap.size:=Nat.le_trans hbs (Nat.le_trans Bx.size b6'.size)
    have hxb6:w6.heap[wr.heap.size]?=some (Obj.cells #[.int .i64 x0,.int .i64 x1,.int .i64 x2] 110):=(b6'.block _ hxl).trans hXb
    obtain ⟨_,_,_,z0,z1,z2⟩:=hS1
    have hg6:w6.heap[g]?=wr.heap[g]?:=(b6'.block g (Nat.lt_of_lt_of_le HIR.out.ws.lt Bx.size)).trans (Bx.block g HIR.out.ws.lt)
    clear HIX HNC HSK hS0 b6 b6'
    cases NX with
    | none =>
      obtain ⟨e1,e2⟩:=HSV.out
      simp only [Option.getD_none,Option.isSome_none] at e1 e2
      subst e1
      subst e2
      have HEC:=HEN.out b1 n1 (gEnd f (l.take j)) U (x0,x1,x2) w6 HI6.out.mp hok (by omega) (HRD.out _) hs6
      unfold valR at HEC
      simp only at HEC
      have HECH:Hid (Calls Tryz.prog 39 #[.map (some b1),.agg #[.int .i64 x0,.int .i64 x1,.int .i64 x2]] w6 fun e w'=>e=.returned (.tuple #[])∧Ended w.heap.size b1 n1 (gEnd f (l.take j)) U x2 (endA (curA (gEnd f (l.take j)) x2) x0) w6 w'):=HEC
      clear HEC
      go_wp2_with fail
      refine HECH.out.mono ?_
      rintro e w7 ⟨rfl,h7⟩
      obtain ⟨U',hI7⟩:=HI6.out.ended h7
      have HF:Hid (RowI w.heap.size b1 g (n1+1) w0 (gEnd f (l.take (j+1))) U' (wL f (l.take (j+1))) w7):=by
        have e3:=gEnd_end (l:=l.take j) hfx HNXE.out
        have e4:=wL_end (l:=l.take j) HNXE.out
        show RowI _ _ _ _ _ _ _ _ _
        rw [HTK.out,e3,e4]
        exact hI7
      clear hI7 h7 HECH HI6 HRD HKB HTK HIR HIT HEN HNX HSL HMK HFIT z0 z1 z2 hxb6
      go_wp2_with fail
      exact ⟨⟨j+1,by go_num,by omega,U',n1+1,by omega,HF.out⟩,by simp [Go.RowKit.intOf]; omega⟩
    | some s =>
      obtain ⟨e1,e2⟩:=HSV.out
      simp only [Option.getD_some,Option.isSome_some] at e1 e2
      subst e1
      subst e2
      have hsr:=nextI_lt hp HNXE.out
      rw [hfn] at hsr
      obtain ⟨q,rfl⟩:∃ q:Nat,s=(q:Int):=⟨s.toNat,by omega⟩
      have hqn:q<n:=by omega
      have hfm:=moved_fit HNXE.out
      have hFT:=fitT_of hp hfm
      simp only at hFT
      have hx1w:IntKind.i64.wrap (x1+1)=x1+1:=by unfold FitT at hFT; simp only at hFT; rw [IntKind.wrap_i64]; omega
      have hx1w':wrap64 (x1+1)=x1+1:=by unfold FitT at hFT; simp only at hFT; unfold wrap64; omega
      have hzf:w6.frozen? ⟨wr.heap.size,1,none⟩=false:=Lib.frozen_of_heap hxb6 _
      have B7:But (fun k=>k=wr.heap.size) w6 (w6.setCell ⟨wr.heap.size,1,none⟩ (.int .i64 (x1+1))):=(But.refl _ w6).setCell _ _ (.inr rfl)
      have HI7:Hid (RowI w.heap.size b1 g n1 w0 (gEnd f (l.take j)) U (wL f (l.take j)) (w6.setCell ⟨wr.heap.size,1,none⟩ (.int .i64 (x1+1)))):=by
        refine HI6.out.keep B7 (fun k hk e=>?_) (fun k hk e=>?_) (fun k e=>by rw [e]; exact hsz0)
        · have:=(HIR.out.mp.inLt hk).2; omega
        · have h3:=(inW_same hg6 k).1 hk
          have:=(HIR.out.ws.inLt h3).2; omega
      have HXB:Hid ((w6.setCell ⟨wr.heap.size,1,none⟩ (.int .i64 (x1+1))).heap[wr.heap.size]?=some (Obj.cells #[.int .i64 x0,.int .i64 (x1+1),.int .i64 x2] 110)):=by
        have:=blk_set (o:=1) hxb6 (.int .i64 (x1+1))
        show _=_
        simpa using this
      have HNI:Hid (¬ inW g (w6.setCell ⟨wr.heap.size,1,none⟩ (.int .i64 (x1+1))) wr.heap.size∧wr.heap.size<(w6.setCell ⟨wr.heap.size,1,none⟩ (.int .i64 (x1+1))).heap.size):=by
        refine ⟨fun hin=>?_,(Array.getElem?_eq_some_iff.1 HXB.out).1⟩
        have hlt':=HIR.out.ws.lt
        have hg7:(w6.setCell ⟨wr.heap.size,1,none⟩ (.int .i64 (x1+1))).heap[g]?=wr.heap[g]?:=(set_block _ _ _ _ _ (by omega)).trans hg6
        have h3:=(inW_same hg7 _).1 hin
        have:=(HIR.out.ws.inLt h3).2; omega
      have hs7:w.heap.size≤(w6.setCell ⟨wr.heap.size,1,none⟩ (.int .i64 (x1+1))).heap.size:=Nat.le_trans hs6 B7.size
      go_upto_region 10 with fail
      clear z0 z1 z2 hzf B7 hxb6 HI6 hx1w hx1w'
      generalize w6.setCell ⟨wr.heap.size,1,none⟩ (.int .i64 (x1+1))=w7 at *
      have hS0:(fun W:World=>(W.cell? ⟨wr.heap.size,0,none⟩=some (.int .i64 x0)∧W.cell? ⟨wr.heap.size,1,none⟩=some (.int .i64 (x1+1))∧W.cell? ⟨wr.heap.size,2,none⟩=some (.int .i64 x2))) w7.drew:=by
        have hb:=HXB.out
        exact ⟨by show w7.cell? _=_; rw [Lib.cell_of_heap hb]; rfl,by show w7.cell? _=_; rw [Lib.cell_of_heap hb]; rfl,by show w7.cell? _=_; rw [Lib.cell_of_heap hb]; rfl⟩
      have HI7d:Hid (RowI w.heap.size b1 g n1 w0 (gEnd f (l.take j)) U (wL f (l.take j)) w7.drew):=HI7.out.next (Below.refl _ _).drew
      have HCI:=HIT.out g q (wL f (l.take j)) ⟨keyT (movedL f (l.take j) (q:Int)),false⟩ (x0,x1+1,x2) w7.drew HI7d.out.ws (wL_get (by omega)) hFT (HKB.out q) hs7
      unfold valR at HCI
      simp only at HCI
      have HCH:Hid (Calls Tryz.prog 40 #[.pointer (some ⟨g,q * 3,none⟩),.agg #[.int .i64 x0,.int .i64 (x1+1),.int .i64 x2]] w7.drew fun e w'=>e=.returned (.tuple #[])∧WsAt w.heap.size g ((wL f (l.take j)).set q ⟨keyT (movedL f (l.take j) (q:Int))++encT (x0,x1+1,x2),false⟩) w'∧Wrote g w7.drew w'):=HCI
      clear HCI HI7 HXB
      refine wp_region_L (fun W=>W.cell? ⟨wr.heap.size,0,none⟩=some (.int .i64 x0)∧W.cell? ⟨wr.heap.size,1,none⟩=some (.int .i64 (x1+1))∧W.cell? ⟨wr.heap.size,2,none⟩=some (.int .i64 x2)) 5 (by kernel_rfl) 5 rfl ?_
      refine tk 0 ⟨some 53,.move (.tmp 6),108, "make.go:50",#[],none⟩ hS0 ?_;simp only [Act.put,sA,s0,sS]
      refine tk 1 ⟨some 54,.move (.tmp 9),3, "make.go:50",#[],none⟩ hS0 ?_;simp only [Act.put,sA,s0,sS]
      refine tk 2 ⟨some 55,.indexAddr 108 (.tmp 53) (.tmp 54),0, "make.go:50",#[⟨0,.data⟩,⟨1,.data⟩],none⟩ hS0 ?_;simp only [Act.put,sA,s0,sS]
      refine tk 3 ⟨some 56,.load 110 (.tmp 8),110, "make.go:50",#[],none⟩ hS0 ?_;simp only [Act.put,sA,s0,sS]
      refine wpAnyL_one' (i:=4) (o:=⟨some 57,.call ⟨.value (.func 40),#[.tmp 55,.tmp 56],#[71,110]⟩,0, "make.go:50",#[⟨2,.data⟩,⟨3,.data⟩],none⟩) (by kernel_rfl) rfl rfl (fun KQ hK=>?_)
      go_simp
      refine HCH.out.mono ?_
      rintro e w8 ⟨rfl,h8,h8w⟩
      refine hK.out _ _ (fun _=>⟨(h8w.1.cell (p:=⟨wr.heap.size,0,none⟩) HNI.out.2 HNI.out.1).trans hS0.1,(h8w.1.cell (p:=⟨wr.heap.size,1,none⟩) HNI.out.2 HNI.out.1).trans hS0.2.1,(h8w.1.cell (p:=⟨wr.heap.size,2,none⟩) HNI.out.2 HNI.out.1).trans hS0.2.2⟩) ?_
      clear hK
      refine wpAnyL_done (by kernel_rfl) ?_ _
      have HF:Hid (RowI w.heap.size b1 g n1 w0 (gEnd f (l.take (j+1))) U (wL f (l.take (j+1))) w8):=by
        have e3:=gEnd_next (l:=l.take j) HNXE.out
        have e4:=wL_next (l:=l.take j) HNXE.out
        show RowI _ _ _ _ _ _ _ _ _
        rw [HTK.out,e3,e4]
        exact HI7d.out.wrote h8w h8
      clear h8 h8w HCH HI7d HRD HKB HTK HIR HIT HEN HNX HSL HMK HFIT hS0
      go_wp2_with fail
      exact ⟨⟨j+1,by go_num,by omega,U,n1,by omega,HF.out⟩,by simp [Go.RowKit.intOf]; omega⟩
  obtain rfl:j=l.length:=by omega
  rw [List.take_of_length_le (Nat.le_refl _)] at hI
  have Br:Below wr.heap.size wr (wr.alloc (Obj.cells #[.slice none 0 0,.slice none 0 0] 38)):=(Below.refl _ _).alloc (Nat.le_refl _) _
  have hI2:=hI.next Br
  have hrb:(wr.alloc (Obj.cells #[.slice none 0 0,.slice none 0 0] 38)).heap[wr.heap.size]?=some (Obj.cells #[.slice none 0 0,.slice none 0 0] 38):=heap_alloc_new _ _
  have hrl:wr.heap.size<(wr.alloc (Obj.cells #[.slice none 0 0,.slice none 0 0] 38)).heap.size:=by simp
  have HR2:Hid (Row2 w.heap.size b1 g wr.heap.size n1 (wr.alloc (Obj.cells #[.slice none 0 0,.slice none 0 0] 38)) f l U):=by
    refine ⟨hI2.mp,hI2.ws,hI2.dis,fun k hk=>(hI.mp.inLt hk).2,fun k hk=>?_,hrl⟩
    have h3:=(inW_same (Br.block g hI.ws.lt) k).1 hk
    exact (hI.ws.inLt h3).2
  have B2:Below w.heap.size w (wr.alloc (Obj.cells #[.slice none 0 0,.slice none 0 0] 38)):=hB.trans (Br.mono hbs)
  have hzw:(wr.alloc (Obj.cells #[.slice none 0 0,.slice none 0 0] 38)).heap[w.heap.size]?=some (Obj.cells #[.slice none 0 0,.slice none 0 0] 38):=(Br.block _ (by omega)).trans ((hI.bt.block _ (by omega) (fun e=>by rcases e with e | e <;> omega)).trans h0z)
  have HZW:Hid (w.heap.size<w0.heap.size∧w0.heap.size≤wr.heap.size):=⟨by omega,hsz0⟩
  have HO12:Hid ((∀ k,inA b1 (gEnd f l) U k→k=b1∨w0.heap.size≤k)∧∀ k,inW g (wr.alloc (Obj.cells #[.slice none 0 0,.slice none 0 0] 38)) k→k=g∨w0.heap.size≤k):=⟨hI2.o1,hI2.o2⟩
  clear hI hI2 HIT HEN HNX
  go_wp2_with fail
  obtain ⟨rb,hrbe⟩:∃ rb,wr.heap.size=rb:=⟨_,rfl⟩
  rw [hrbe] at HR2 hrb hrl HZW ⊢
  generalize wr.alloc (Obj.cells #[.slice none 0 0,.slice none 0 0] 38)=w2 at *
  have HBW2:Hid (∀ (s:Nat) W,s≤n→But (Dst g b1 rb w2 s) w2 W→Below w.heap.size w W):=fun s W hsn hW=>B2.trans (hW.below B2.size (fun k e=>by
    rcases e with e | e | ⟨i,u,hi,hu,hk⟩
    · omega
    · omega
    · exact (HR2.out.ws.inLt (.inr ⟨i,u,hu,hk⟩)).1))
  have HZK:Hid (∀ (s:Nat) W,s≤n→But (Dst g b1 rb w2 s) w2 W→W.heap[w.heap.size]?=some (Obj.cells #[.slice none 0 0,.slice none 0 0] 38)):=fun s W hsn hW=>by
    have hz:=HZW.out
    refine (hW.block _ (Array.getElem?_eq_some_iff.1 hzw).1 (fun e=>?_)).trans hzw
    rcases e with e | e | ⟨i,u,hi,hu,hk⟩
    · omega
    · omega
    · rcases HO12.out.2 _ (.inr ⟨i,u,hu,hk⟩) with e | e <;> omega
  go_loopw [61] (fun iv wr=>∃ (s:Nat),iv=.int .i64 s∧s≤n∧∃ U' vg,RowJ w.heap.size b1 g rb n1 w2 f R l U s s s U' vg wr) (fun i _=>n - (Go.RowKit.intOf i).toNat)
  case atStart =>
    refine ⟨0,rfl,Nat.zero_le _,U,.slice none 0 0,⟨⟨n1,by omega,by rw [gS_zero]; exact HR2.out.mp⟩,fun k hk=>by rw [gS_zero] at hk; exact hk,hrb,OwnP.nil _ _ _,But.refl _ _⟩⟩
  case round =>
  clear hB hbs Br
  obtain ⟨s,rfl,hsn,U',vg,hJ⟩:=hrel
  have hB:=HBW2.out s _ hsn hJ.bt
  have hbs:=hB.size
  have HJ:Hid (RowJ w.heap.size b1 g rb n1 w2 f R l U s s s U' vg wr):=hJ
  clear hJ
  by_cases hlt2:s<n
  case pos =>
    obtain ⟨kv,hk1,hk2,hko,hkn⟩:=HJ.out.key HR2.out (by omega)
    obtain ⟨ka,kc,rfl⟩:=slice_of_ownK hko
    have HLN:=len_any g (s * 3) _ kc ka wr hk1
    obtain ⟨so,hso⟩:∃ so,s * 3=so:=⟨_,rfl⟩
    have HKL:Hid ((keyT (movedL f l (s:Int))).length≤100000000):=by
      show _≤_
      rw [keyT_len]
      have h1:=moved_len f l s
      omega
    rw [hso] at HLN hk1
    by_cases hmv:movedL f l (s:Int)=[]
    · have hk0:(keyT (movedL f l (s:Int))).length=0:=by rw [hmv]; rfl
      rw [hk0] at HLN
      have HF:Hid (RowJ w.heap.size b1 g rb n1 w2 f R l U (s+1) (s+1) (s+1) U' vg wr):=(HJ.out.noGo hmv).skip (.inr hmv)
      have hsx:IntKind.i64.wrap ((s:Int) * 3)=(so:Int):=by rw [IntKind.wrap_i64]; omega
      clear hk1 hk2 hko hkn HJ
      go_wp2_with fail
      refine HLN.mono ?_
      rintro e wq ⟨rfl,rfl⟩
      clear HLN
      go_wp2_with fail
      exact ⟨⟨s+1,by go_num,by omega,U',vg,HF.out⟩,by simp [Go.RowKit.intOf]; omega⟩
    have hkp:0<(keyT (movedL f l (s:Int))).length:=by
      rw [keyT_len]
      have:=List.length_pos_iff.2 hmv
      omega
    have HSTR:Hid (Calls Tryz.prog 21 #[.pointer (some ⟨g,so,none⟩)] wr.drew fun e w'=>e=.returned (.string ⟨(keyT (movedL f l (s:Int))).toArray⟩)∧But (fun k=>(Value.slice ka (keyT (movedL f l (s:Int))).length kc).ownBlock=some k) wr.drew w'):=string_any w.heap.size g so (keyT (movedL f l (s:Int))) _ wr.drew hk1 (ownsRow_keep (D:=fun _=>False) hko (But.refl _ wr).drew (fun _ _ h=>h)) (fun e=>hkn e) (by have:=HKL.out; omega)
    obtain ⟨j0,hj0,hdj,hfj⟩:=goto_place hp hall hl (s:=s) (by omega) hmv
    have HLK:Hid (∀ W,Below w.heap.size w W→(Instr.lookup 102 (.map (some b0)) (.string ⟨(keyT (movedL f l (s:Int))).toArray⟩) false).run Tryz.prog W=.ok (.int .i64 (j0:Int)) W):=fun W hW=>(HMK.out W hW).2.2.2.2.2.look hj0 hdj (by have:=HKL.out; omega)
    have HGO:Hid (goUp f R l (s+1)=goUp f R l s++[((s:Int),(j0:Int))]):=by
      show _=_
      rw [goUp_succ,if_neg hmv,hfj]
    have HFJ:Hid ((findI R (gotoF f l s):Int)=(j0:Int)):=by show _=_; rw [hfj]
    have HMV:Hid (movedL f l (s:Int)≠[]):=hmv
    have HJD:Hid (RowJ w.heap.size b1 g rb n1 w2 f R l U s s s U' vg wr.drew):=HJ.out.next (Below.refl _ _).drew (Nat.le_refl _)
    have HK2:Hid (w2.cell? ⟨g,s * 3+1,none⟩=some (.slice ka (keyT (movedL f l (s:Int))).length kc)):=hk2
    have hke:(((keyT (movedL f l (s:Int))).length:Int) == 0)=false:=beq_eq_false_iff_ne.2 (by omega)
    have HMC:Hid (∀ W,Below w.heap.size w W→W.cell? ⟨m,3,none⟩=some (.map (some b0))∧W.cell? ⟨m,0,none⟩=some (.slice ta f.terms.length tc)):=fun W hW=>⟨(HMK.out W hW).2.2.2.2.1,(HMK.out W hW).2.1⟩
    clear hk1 hk2 hko hkn HJ hmv hfj hdj
    generalize (keyT (movedL f l (s:Int))).length=kl at *
    go_wp2_with fail
    refine HLN.mono ?_
    rintro e wq ⟨rfl,rfl⟩
    clear HLN
    go_upto_region 17 with fail
    have hS0:(fun W:World=>(W.cell? ⟨m,3,none⟩=some (.map (some b0)))) wq.drew:=(HMC.out wq hB).1
    refine wp_region_L (fun W=>W.cell? ⟨m,3,none⟩=some (.map (some b0))) 11 (by kernel_rfl) 11 rfl ?_
    refine tk 0 ⟨some 70,.move (.tmp 0),82, "make.go:57",#[],none⟩ hS0 ?_;simp only [Act.put,sA,s0,sS]
    refine tk 1 ⟨some 71,.nilCheck (.tmp 70),0, "make.go:57",#[⟨0,.data⟩],none⟩ hS0 ?_;simp only [Act.put,sA,s0,sS]
    refine tk 2 ⟨some 72,.fieldAddr 104 (.tmp 71) 1,0, "make.go:57",#[⟨1,.data⟩],none⟩ hS0 ?_;simp only [Act.put,sA,s0,sS]
    refine tk 3 ⟨some 73,.load 102 (.tmp 72),102, "make.go:57",#[⟨2,.data⟩],none⟩ hS0 ?_;simp only [Act.put,sA,s0,sS]
    refine tk 4 ⟨some 74,.move (.tmp 6),108, "make.go:57",#[],none⟩ hS0 ?_;simp only [Act.put,sA,s0,sS]
    refine tk 5 ⟨some 75,.move (.tmp 12),3, "make.go:57",#[],none⟩ hS0 ?_;simp only [Act.put,sA,s0,sS]
    refine tk 6 ⟨some 76,.indexAddr 108 (.tmp 74) (.tmp 75),0, "make.go:57",#[⟨4,.data⟩,⟨5,.data⟩],none⟩ hS0 ?_;simp only [Act.put,sA,s0,sS]
    refine tk 7 ⟨some 77,.fieldAddr 71 (.tmp 76) 0,0, "make.go:57",#[⟨6,.data⟩],none⟩ hS0 ?_;simp only [Act.put,sA,s0,sS]
    refine wpAnyL_one' (i:=8) (o:=⟨some 78,.call ⟨.value (.func 21),#[.tmp 77],#[69]⟩,9, "make.go:57",#[⟨7,.data⟩],none⟩) (by kernel_rfl) rfl rfl (fun KQ hK=>?_)
    go_simp
    refine HSTR.out.mono ?_
    rintro e w6 ⟨rfl,b6⟩
    have HJ6:Hid (RowJ w.heap.size b1 g rb n1 w2 f R l U s s (s+1) U' vg w6):=HJD.out.str HR2.out HK2.out b6
    have hB6:=HBW2.out (s+1) w6 (by omega) HJ6.out.bt
    have hS1:=(HMC.out w6 hB6).1
    refine hK.out _ _ (fun _=>hS1) ?_
    have hlk:=HLK.out w6 hB6
    clear hK
    refine wpAnyL_one' (i:=9) (o:=⟨some 79,.lookup 102 (.tmp 73) (.tmp 78) false,3, "make.go:57",#[⟨3,.data⟩,⟨8,.data⟩],none⟩) (by kernel_rfl) rfl rfl (fun KQ hK=>?_)
    go_simp
    refine hK.out _ _ (fun _=>hS1) ?_
    clear hK
    refine tk 10 ⟨some 13,.assign (.tmp 79),3, "make.go:57",#[⟨9,.data⟩,⟨8,.chain⟩,⟨0,.phase⟩,⟨1,.phase⟩,⟨2,.phase⟩,⟨3,.phase⟩,⟨4,.phase⟩,⟨5,.phase⟩,⟨6,.phase⟩,⟨7,.phase⟩,⟨8,.phase⟩,⟨9,.phase⟩],none⟩ hS1 ?_;simp only [Act.put,sA,s0,sS]
    refine wpAnyL_done (by kernel_rfl) ?_ _
    clear HSTR HLK HJD HK2 hS0 hS1 hlk hke b6
    obtain ⟨vga,vgc,rfl⟩:=slice_of_ownK HJ6.out.own
    have hbox:=HJ6.out.box
    have r1:w6.cell? ⟨rb,1,none⟩=some (.slice vga (goUp f R l s).length vgc):=by rw [Lib.cell_of_heap hbox]; rfl
    have HJN:Hid (RowJ w.heap.size b1 g rb n1 w2 f R l U s s (s+1) U' (.slice vga (goUp f R l s).length vgc) (w6.alloc (Obj.cells #[.int .i64 s,.int .i64 j0] 65))):=HJ6.out.next ((Below.refl _ _).alloc (Nat.le_refl _) _) (Nat.le_refl _)
    have HGN:Hid ((w6.alloc (Obj.cells #[.int .i64 s,.int .i64 j0] 65)).ownsRow w2.heap.size 65 2 (.slice vga (goUp f R l s).length vgc) (goUp f R l s).length ((goUp f R l s).flatMap encP)):=HJN.out.own
    have HN2:∀ (i:Nat) (u:Value),[Value.int .i64 s,.int .i64 j0][i]?=some u→(w6.alloc (Obj.cells #[.int .i64 s,.int .i64 j0] 65)).cell? ((⟨w6.heap.size,0,none⟩:Addr).add i)=some u:=fun i u hi=>by
      rw [add_plain,Nat.zero_add]
      rcases i with _ | _ | i <;> simp at hi <;> subst hi <;> simp
    have hgl:(goUp f R l s).length≤600:=Nat.le_trans (goUp_len f R l s) (by omega)
    have hszn:w2.heap.size≤(w6.alloc (Obj.cells #[.int .i64 s,.int .i64 j0] 65)).heap.size:=Nat.le_trans HJ6.out.bt.size (by simp)
    have HGU:Hid (∀ v' W,W.ownsRow w2.heap.size 65 2 v' ((goUp f R l s).length+1) ((goUp f R l s).flatMap encP++[.int .i64 s,.int .i64 j0])→OwnP 65 w2.heap.size (goUp f R l (s+1)) v' W):=fun v' W h=>by
      unfold OwnP
      rw [HGO.out,List.length_append,List.flatMap_append]
      exact h
    clear HJ6 hB6 hbox
    generalize (goUp f R l s).flatMap encP=GX at *
    generalize (goUp f R l s).length=gl at *
    go_upto_region 18 with fail
    go_wp2_with (at_builtin; refine wpList_append_own_at _ rfl (.tmp 81) (.tmp 85) 36 rfl w2.heap.size 65 ig _ 2 16 Tryz.underlying36 hig hg0 hg1 hg2 rfl (by omega) _ _ _ rfl HGN.out _ 1 1 [.int .i64 s,.int .i64 j0] rfl rfl HN2 (by simp [Value.oneCell']) (by unfold maxLen; omega) (by omega) hszn ?_)
    intro v' w8 hown' hgrow _ hat
    have hO8:=HGU.out v' w8 hown'
    have HJ9:Hid (RowJ w.heap.size b1 g rb n1 w2 f R l U s (s+1) (s+1) U' v' (w8.setCell ⟨rb,1,none⟩ v')):=HJN.out.go HR2.out hgrow hO8
    have hb8:w8.heap[rb]?=some (Obj.cells #[.slice none 0 0,.slice vga gl vgc] 38):=(hgrow.block rb (Array.getElem?_eq_some_iff.1 HJN.out.box).1 (fun e=>by
      have:=(World.ownsRow.lt HJN.out.own rb e.symm).1
      have:=HR2.out.rlt
      omega)).trans HJN.out.box
    have r81:w8.cell? ⟨rb,1,none⟩=some (.slice vga gl vgc):=by rw [Lib.cell_of_heap hb8]; rfl
    have f81:w8.frozen? ⟨rb,1,none⟩=false:=Lib.frozen_of_heap hb8 _
    obtain ⟨va',vc',rfl⟩:=slice_of_ownK hown'
    clear hown' hgrow hat hO8 hb8 HJN HGN HN2 HGU r1
    go_upto_region 19 with fail
    generalize w8.setCell ⟨rb,1,none⟩ (.slice va' (gl+1) vc')=w9 at *
    clear r81 f81
    have hB9:=HBW2.out (s+1) w9 (by omega) HJ9.out.bt
    have hc9:=(HMC.out w9 hB9).2
    by_cases hsT:s<f.terms.length
    · have hsT':(s:Int)<(f.terms.length:Int):=by omega
      obtain ⟨n',hn',hm9⟩:=HJ9.out.mp
      have HSH:=shift_any (s:Int) (j0:Int) w9 hm9 (by unfold i64B; omega) (by omega)
      have HSC:Hid (Calls Tryz.prog 42 #[.map (some b1),.int .i64 s,.int .i64 j0] w9 fun e w'=>e=.returned (.tuple #[])∧RowJ w.heap.size b1 g rb n1 w2 f R l U (s+1) (s+1) (s+1) (updU U' s (curU (gS f R l s) U' s)) (.slice va' (gl+1) vc') w'):=by
        refine HSH.mono ?_
        rintro e w' ⟨rfl,h1,h2⟩
        refine ⟨rfl,HJ9.out.shift HR2.out hn' ?_ h2 gS_old⟩
        rw [← HFJ.out,gS_shift hsT HMV.out] at h1
        exact h1
      clear HSH hm9 HJ9
      go_wp2_with fail
      refine HSC.out.mono ?_
      rintro e w10 ⟨rfl,h10⟩
      have HF:Hid (RowJ w.heap.size b1 g rb n1 w2 f R l U (s+1) (s+1) (s+1) (updU U' s (curU (gS f R l s) U' s)) (.slice va' (gl+1) vc') w10):=h10
      clear h10 HSC hc9
      go_wp2_with fail
      exact ⟨⟨s+1,by go_num,by omega,_,_,HF.out⟩,by simp [Go.RowKit.intOf]; omega⟩
    · have hsT':¬ (s:Int)<(f.terms.length:Int):=by omega
      have HF:Hid (RowJ w.heap.size b1 g rb n1 w2 f R l U (s+1) (s+1) (s+1) U' (.slice va' (gl+1) vc') w9):=HJ9.out.skip (.inl hsT)
      clear HJ9
      go_wp2_with fail
      exact ⟨⟨s+1,by go_num,by omega,_,_,HF.out⟩,by simp [Go.RowKit.intOf]; omega⟩
  obtain rfl:s=n:=by omega
  obtain ⟨n',hn',hm⟩:=HJ.out.mp
  have HLI:=listAct_any wr hm (by omega) (fun t a h=>gS_ok hp HFIT.out hll hR6 t a h)
  have HZR:=HZK.out s wr (Nat.le_refl _) HJ.out.bt
  obtain ⟨vga,vgc,rfl⟩:=slice_of_ownK HJ.out.own
  have hbox:=HJ.out.box
  have hrbl:rb<wr.heap.size:=(Array.getElem?_eq_some_iff.1 hbox).1
  have hzl:=HZW.out
  have hAA:∀ k,inA b1 (gS f R l s) U' k→k≠rb∧k≠w.heap.size:=fun k hk=>by
    have h1:=HR2.out.a1 k (HJ.out.sub k hk)
    rcases HO12.out.1 k (HJ.out.sub k hk) with e | e <;> omega
  have hGown:=HJ.out.own
  have hGl:∀ k,(Value.slice vga (goUp f R l s).length vgc).ownBlock=some k→w2.heap.size≤k:=fun k hk=>(World.ownsRow.lt hGown k hk).1
  have hr2:=HR2.out.rlt
  have HGOK:Hid (∀ x∈goUp f R l s,okP x):=goUp_ok (by omega) hR6
  have HGLE:Hid ((goUp f R l s).length≤600):=Nat.le_trans (goUp_len f R l s) (by omega)
  have HEQ:Hid (goRow f R l=goUp f R l s):=by
    show goUp f R l f.n=goUp f R l s
    rw [hfn]
  have HAK:Hid (∀ k,inA b1 (gS f R l s) U' k→k≠rb∧k≠w.heap.size):=hAA
  have HAB:Hid (∀ k,inA b1 (gS f R l s) U' k→w.heap.size≤k):=fun k hk=>(hm.inLt hk).1
  have HTLE:Hid (f.terms.length≤s):=by show _≤_; omega
  clear hm HR2 HO12 hAA
  go_wp2_with fail
  refine HLI.mono ?_
  rintro e w11 ⟨va,Sx,rfl,hs1,hs2,hkeep,b11⟩
  have HAE:Hid (Sx.map (curA (gS f R l s))=actRow f R l):=acts_eq HFIT.out HTLE.out hs1 hs2
  have hSA11:=hkeep w11 (fun _=>False) (But.refl _ _) (fun _ _ h=>h)
  have hb11:w11.heap[rb]?=some (Obj.cells #[.slice none 0 0,.slice vga (goUp f R l s).length vgc] 38):=(b11.block rb hrbl).trans hbox
  have hz11:w11.heap[w.heap.size]?=some (Obj.cells #[.slice none 0 0,.slice none 0 0] 38):=(b11.block _ (Array.getElem?_eq_some_iff.1 HZR).1).trans HZR
  obtain ⟨aa,ac,rfl,_⟩:=hSA11
  have hzr:w.heap.size≠rb:=by omega
  have hb12:(w11.setCell ⟨rb,0,none⟩ (.slice aa (Sx.map (curA (gS f R l s))).length ac)).heap[rb]?=some (Obj.cells #[.slice aa (Sx.map (curA (gS f R l s))).length ac,.slice vga (goUp f R l s).length vgc] 38):=by
    have:=blk_set (o:=0) hb11 (.slice aa (Sx.map (curA (gS f R l s))).length ac)
    simpa using this
  have hz12:(w11.setCell ⟨rb,0,none⟩ (.slice aa (Sx.map (curA (gS f R l s))).length ac)).heap[w.heap.size]?=some (Obj.cells #[.slice none 0 0,.slice none 0 0] 38):=(set_block _ _ _ _ _ hzr).trans hz11
  have HF:Hid (∀ (W:World) (Dx:Nat→Prop),But Dx w11 W→(∀ k,Dx k→k=rb∨k=w.heap.size∨k<w.heap.size∨w11.heap.size≤k)→SlA (rowT f R l).acts (.slice aa (Sx.map (curA (gS f R l s))).length ac) W∧SlG (rowT f R l).goes (.slice vga (goUp f R l s).length vgc) W):=fun W Dx hW0 hDx=>by
    have hW:But (fun k=>Dx k∧k<w11.heap.size) w11 W:=hW0.mono (fun k hk h=>⟨h,hk⟩)
    have hk:=hkeep W _ hW (fun k hk e=>by
      rcases hk with hk | hk
      · have h1:=HAK.out k hk
        have h2:=HAB.out k hk
        rcases hDx k e.1 with e' | e' | e' | e'
        · exact h1.1 e'
        · exact h1.2 e'
        · omega
        · omega
      · rcases hDx k e.1 with e' | e' | e' | e' <;> omega)
    refine ⟨?_,?_⟩
    · have h3:=hk
      rw [HAE.out] at h3
      rw [HAE.out]; exact h3
    · show SlG (goRow f R l) _ W
      rw [HEQ.out]
      refine OwnP.sl (B:=w2.heap.size) (t:=65) ?_ HGOK.out (by have:=HGLE.out; omega)
      have hGk:=ownsRow_keep (D:=fun _=>False) hGown (But.of_next b11) (fun _ _ h=>h)
      exact ownsRow_keep hGk hW (fun k hk e=>by
        have h4:=hGl k hk
        rcases hDx k e.1 with e' | e' | e' | e' <;> omega)
  have HBE:Hid (∀ W,But (fun k=>k=rb∨k=w.heap.size) w11 W→Below w.heap.size w W):=fun W hW=>(hB.trans (b11.mono hbs)).trans (hW.below (Nat.le_trans hbs b11.size) (fun k e=>by rcases e with e | e <;> omega))
  clear hkeep HLI hs1 hs2 hGown HJ
  generalize (Sx.map (curA (gS f R l s))).length=an at *
  generalize (goUp f R l s).length=gn at *
  have c110:w11.cell? ⟨rb,0,none⟩=some (.slice none 0 0):=by rw [Lib.cell_of_heap hb11]; rfl
  have f110:w11.frozen? ⟨rb,0,none⟩=false:=Lib.frozen_of_heap hb11 _
  go_upto_region 23 with fail
  have B12:But (fun k=>k=rb∨k=w.heap.size) w11 (w11.setCell ⟨rb,0,none⟩ (.slice aa an ac)):=(But.refl _ w11).setCell _ _ (.inr (.inl rfl))
  have HB12:Hid (But (fun k=>k=rb∨k=w.heap.size) w11 (w11.setCell ⟨rb,0,none⟩ (.slice aa an ac))):=B12
  clear c110 f110 hb11 hz11 B12
  generalize w11.setCell ⟨rb,0,none⟩ (.slice aa an ac)=w12 at *
  have c0:w12.cell? ⟨rb,0,none⟩=some (.slice aa an ac):=by rw [Lib.cell_of_heap hb12]; rfl
  have c1:w12.cell? ⟨rb,1,none⟩=some (.slice vga gn vgc):=by rw [Lib.cell_of_heap hb12]; rfl
  have z0:w12.cell? ⟨w.heap.size,0,none⟩=some (.slice none 0 0):=by rw [Lib.cell_of_heap hz12]; rfl
  have z1:w12.cell? ⟨w.heap.size,1,none⟩=some (.slice none 0 0):=by rw [Lib.cell_of_heap hz12]; rfl
  have fz:∀ k,w12.frozen? ⟨w.heap.size,k,none⟩=false:=fun k=>Lib.frozen_of_heap hz12 _
  have hz13:((w12.setCell ⟨w.heap.size,0,none⟩ (.slice aa an ac)).setCell ⟨w.heap.size,1,none⟩ (.slice vga gn vgc)).heap[w.heap.size]?=some (Obj.cells #[.slice aa an ac,.slice vga gn vgc] 38):=by
    have h1:=blk_set (o:=0) hz12 (.slice aa an ac)
    have h2:=blk_set (o:=1) h1 (.slice vga gn vgc)
    simpa using h2
  have hBt:But (fun k=>k=rb∨k=w.heap.size) w11 ((w12.setCell ⟨w.heap.size,0,none⟩ (.slice aa an ac)).setCell ⟨w.heap.size,1,none⟩ (.slice vga gn vgc)):=(HB12.out.setCell _ _ (.inr (.inr rfl))).setCell _ _ (.inr (.inr rfl))
  have HFH:Hid (KeepR w.heap.size ((w12.setCell ⟨w.heap.size,0,none⟩ (.slice aa an ac)).setCell ⟨w.heap.size,1,none⟩ (.slice vga gn vgc)).heap.size (rowT f R l) (.slice aa an ac) (.slice vga gn vgc) ((w12.setCell ⟨w.heap.size,0,none⟩ (.slice aa an ac)).setCell ⟨w.heap.size,1,none⟩ (.slice vga gn vgc))∧Below w.heap.size w ((w12.setCell ⟨w.heap.size,0,none⟩ (.slice aa an ac)).setCell ⟨w.heap.size,1,none⟩ (.slice vga gn vgc))):=by
    refine ⟨fun W' Dd hb hd=>HF.out W' (fun k=>(k=rb∨k=w.heap.size)∨Dd k) ((hBt.mono (fun _ _ h=>.inl h)).trans (hb.mono (fun _ _ h=>.inr h))) (fun k hk=>?_),HBE.out _ hBt⟩
    have:=hBt.size
    rcases hk with (e | e) | e
    · exact .inl e
    · exact .inr (.inl e)
    · rcases hd k e with e' | e'
      · exact .inr (.inr (.inl e'))
      · exact .inr (.inr (.inr (by omega)))
  clear HF hb12 hz12 hBt
  go_wp2_with fail
  refine bodyPost_ret (results_cell_row rfl _ _ w.heap.size 38 #[.slice aa an ac,.slice vga gn vgc] (0,0) _ rfl hz13 Tryz.underlying38 rfl (by kernel_rfl)) rfl ?_
  exact ⟨_,_,rfl,HFH.out⟩
end Go.Proofs.YtiamjafecbpfpaaGreatDoor
namespace Go.Proofs.YtiamjafecbpfpaaGreatDoor
open Go.RowKit Go.Shelf
structure Leaving {α:Type} (J:(Nat→Prop)→List α→World→Prop):Prop where
  new:∀ A pre W W',J A pre W→Below W.heap.size W W'→J (fun k=>A k∨(W.heap.size≤k∧k<W'.heap.size)) pre W'
  old:∀ A pre W k,J A pre W→A k→k<W.heap.size
  less:∀ A B pre W,J A pre W→(∀ k,B k→A k)→J B pre W
structure Feeds {α:Type} (n:Nat) (P:Program) (l:Nat) (encs:α→Array Value) (N:Nat) (Ok:α→Prop) (Fx:World→Prop) (J:(Nat→Prop)→List α→World→Prop):Prop extends Leaving J where
  fx:∀ A pre W,J A pre W→Fx W
  yield:∀ A pre x W1,J A pre W1→Ok x→pre.length<N→YieldAt Fence.wide n P l (encs x) W1 fun e W'=>e=.returned (.bool true)∧J A (pre++[x]) W'∧But (fun k=>¬ A k) W1 W'
def GivesAt {α:Type} (n:Nat) (P:Program) (g:Nat) (lb:Array Value) (encs:α→Array Value) (Pre:World→World→Prop) (S:List α→Prop) (N:Nat) (Ok:α→Prop) (A0:Nat→Prop) (Fx:World→Prop) (W:World):Prop :=
  ∀ (l:Nat) (J:(Nat→Prop)→List α→World→Prop),Feeds (n - 1) P l encs N Ok Fx J→(∀ W',Pre W W'→J A0 [] W') →
    CallsIn Fence.wide n P g (#[.func (.yield l) #[] #[]]++lb) W fun e W'=>(∃ v,e=.returned v)∧∃ xs,S xs∧J A0 xs W'
theorem But.same {D:Nat→Prop} {a b:World} (h:But D a b) {k:Nat} {o:Obj} (hk:a.heap[k]?=some o) (hd:¬ D k):b.heap[k]?=some o:=(h.block k (Array.getElem?_eq_some_iff.1 hk).1 hd).trans hk
theorem But.putObj (W:World) (l:Nat) (o:Obj):But (fun k=>k=l) W (W.putObj l o):=by
  have hg:=grownBy_putObj' W l o
  exact ⟨hg.os,hg.tape,hg.output,hg.size,fun k hk hd=>hg.block k hk (fun e=>hd (by cases e; rfl))⟩
theorem wpIn_range_P {n:Nat} {P:Program} {α:Type} {g:Operand} {ps:Array Tmp} {assign body:Code} {Q:Exit→Act→World→Prop} {a:Act} {w:World} (h1:1≤n)
    {gf:Nat} {lb:Array Value} (hg:a.eval g=.func (.func gf) #[] lb) (eg:∀ args w,(callFunc gf args).run P w=.ok (.enter gf args) w)
    {encs:α→Array Value} {Pre:World→World→Prop} {S:List α→Prop} {N:Nat} {Ok:α→Prop} {A0:Nat→Prop} {Fx:World→Prop} (hps:∀ x,(encs x).size=ps.size)
    (hseq:∀ W,Below w.heap.size w W→GivesAt (n - 1) P gf lb encs Pre S N Ok A0 Fx W)
    (I:(Nat→Prop)→List α→World→Prop) (hI:Leaving I) (hfx:∀ A pre W,I A pre W→Fx W)
    (hturn:∀ A pre W W',I A pre W→But (fun k=>k=w.heap.size+1) W W'→A (w.heap.size+1)→I A pre W')
    (h0:∀ W W',Below w.heap.size w W→W.heap.size=w.heap.size+2→Pre W W'→I (fun k=>A0 k∨k=w.heap.size∨k=w.heap.size+1) [] W'∧W'.heap[w.heap.size]?=W.heap[w.heap.size]?∧W'.heap[w.heap.size+1]?=W.heap[w.heap.size+1]?)
    (Ax:α→Act→Prop)
    (hassign:∀ (l:Nat) (x:α) (W:World) (K:Act→World→Prop),(∀ a',Ax x a'→K a' W) →
      assign.wpIn (Fence.wide.inRound l) (n - 1 - 1) P (Exit.then K (fun _ _ _=>False)) { tmps:=(ps.zip (encs x)).foldl (fun t (p,v)=>t.setIfInBounds p v) a.tmps,defers:=[] } W)
    (hbody:∀ (l:Nat) (A:Nat→Prop) (pre:List α) (x:α) (a':Act) (W:World),I A pre W→Ax x a'→Ok x→pre.length<N →
      body.wpIn (Fence.wide.inRound l) (n - 1 - 1) P (fun e _ W'=>e=.normal∧I A (pre++[x]) W'∧But (fun k=>¬ A k) W W') a' W)
    (hdone:∀ (xs:List α) (W:World),S xs→I (fun k=>A0 k∨k=w.heap.size∨k=w.heap.size+1) xs W→W.heap[w.heap.size]?=some (.deferred (some []))→Q .normal { a with defers:={ target:=.collected w.heap.size,args:=#[] } :: a.defers } W) :
    (Code.rangeFunc g ps assign body).wpIn Fence.wide n P Q a w:=by
  refine wpIn_rangeFunc fun fn hfn=>?_
  let rd:Loop:={ state:=.ready,pending:=none,fn:=fn,tmps:=a.tmps,params:=ps,assign:=assign,body:=body,defers:=w.heap.size }
  let bs:Loop:={ rd with state:=.busy }
  have hen:(Instr.enterLoop fn a.tmps ps assign body Fence.wide.round).run P w=.ok (w.heap.size+1,[{ target:=.collected w.heap.size,args:=#[] }]) ((w.alloc (.deferred (some []))).alloc (.loop rd)):=run_enterLoop_outer fn a.tmps ps assign body
  have e1:((w.alloc (.deferred (some []))).alloc (.loop rd)).heap[w.heap.size+1]?=some (.loop rd):=by
    have:=World.alloc_heap_new (w.alloc (.deferred (some []))) (.loop rd)
    rwa [World.size_alloc] at this
  have e0:((w.alloc (.deferred (some []))).alloc (.loop rd)).heap[w.heap.size]?=some (.deferred (some [])) :=
    (Below.heap_alloc _ _ _ (by simp)).trans (World.alloc_heap_new w _)
  have eB:Below w.heap.size w ((w.alloc (.deferred (some []))).alloc (.loop rd)):=((Below.refl _ w).alloc (Nat.le_refl _) _).alloc (by simp) _
  have eS:((w.alloc (.deferred (some []))).alloc (.loop rd)).heap.size=w.heap.size+2:=by simp
  generalize (w.alloc (.deferred (some []))).alloc (.loop rd)=W1 at *
  refine ⟨w.heap.size+1,_,W1,{ target:=.fn (.func gf) lb,args:=#[.func (.yield (w.heap.size+1)) #[] #[]] },W1,gf,#[.func (.yield (w.heap.size+1)) #[] #[]]++lb,W1,hen,?_,fun _ _=>trivial,?_,fun _=>h1,?_⟩
  · simp only [resolve,hg]
    simp [go_sem]
  · simp [invoke,go_sem,eg]
  refine (hseq W1 eB (w.heap.size+1) (fun A pre W=>I (fun k=>A k∨k=w.heap.size∨k=w.heap.size+1) pre W∧W.heap[w.heap.size+1]?=some (.loop rd)∧W.heap[w.heap.size]?=some (.deferred (some []))) ⟨⟨?_,?_,?_⟩,?_,?_⟩ ?_).mono ?_
  · rintro A pre W W' ⟨k0,k1,k2⟩ hb
    have h2:=hI.new _ _ _ _ k0 hb
    refine ⟨hI.less _ _ _ _ h2 (fun k hk=>?_),(hb.block _ (Array.getElem?_eq_some_iff.1 k1).1).trans k1,(hb.block _ (Array.getElem?_eq_some_iff.1 k2).1).trans k2⟩
    rcases hk with (hk | hk) | hk
    · exact .inl (.inl hk)
    · exact .inr hk
    · exact .inl (.inr hk)
  · rintro A pre W k ⟨k0,k1,k2⟩ hk
    exact hI.old _ _ _ k k0 (.inl hk)
  · rintro A B pre W ⟨k0,k1,k2⟩ hk
    exact ⟨hI.less _ _ _ _ k0 (fun k h=>h.imp (hk k) id),k1,k2⟩
  · rintro A pre W ⟨k0,_,_⟩
    exact hfx _ _ _ k0
  · -- a round
    rintro A pre x W ⟨k0,k1,k2⟩ hOk hlen
    have hy:(Instr.yield (w.heap.size+1) (encs x)).run P W=_:=run_yield k1 (hps x)
    refine ⟨fn,_,assign,body,hy,roundIn_of_wpIn hfn (hassign _ x W _ ?_)⟩
    intro a' f4
    have mlt:=(Array.getElem?_eq_some_iff.1 k1).1
    have u1:(W.putObj (w.heap.size+1) (.loop bs)).heap[w.heap.size+1]?=some (.loop bs):=World.putObj_heap_same mlt
    have u2:(W.putObj (w.heap.size+1) (.loop bs)).heap[w.heap.size]?=some (.deferred (some [])):=(World.putObj_heap_other (by omega)).trans k2
    refine ⟨_,run_beginRound k1 rfl,?_⟩
    have q1:=But.putObj W (w.heap.size+1) (.loop bs)
    refine wpIn_mono (hbody _ _ pre x a' _ (hturn _ _ _ _ k0 q1 (.inr (.inr rfl))) f4 hOk hlen) ?_
    rintro e a3 W3 ⟨rfl,p3,p1⟩
    have v1:=p1.same u1 (fun h=>h (.inr (.inr rfl)))
    have v2:=p1.same u2 (fun h=>h (.inr (.inl rfl)))
    have q2:=But.putObj W3 (w.heap.size+1) (.loop rd)
    refine ⟨_,_,run_endRound none v1,rfl,⟨hturn _ _ _ _ p3 q2 (.inr (.inr rfl)),?_,?_⟩,?_⟩
    · exact World.putObj_heap_same (Array.getElem?_eq_some_iff.1 v1).1
    · exact (World.putObj_heap_other (by omega)).trans v2
    · refine ⟨q2.os.trans (p1.os.trans q1.os),q2.tape.trans (p1.tape.trans q1.tape),q2.output.trans (p1.output.trans q1.output),Nat.le_trans q1.size (Nat.le_trans p1.size q2.size),fun k hk hd=>?_⟩
      have hA:A k:=Classical.byContradiction hd
      by_cases hkD:k=w.heap.size+1
      · subst hkD
        rw [k1]
        exact World.putObj_heap_same (Array.getElem?_eq_some_iff.1 v1).1
      · have r1:=q1.block k hk hkD
        have r2:=p1.block k (Nat.lt_of_lt_of_le hk q1.size) (fun h=>h (.inl hA))
        have r3:=q2.block k (Nat.lt_of_lt_of_le hk (Nat.le_trans q1.size p1.size)) hkD
        exact r3.trans (r2.trans r1)
  · intro W' hpre
    obtain ⟨j0,j1,j2⟩:=h0 W1 W' eB eS hpre
    exact ⟨j0,j2.trans e1,j1.trans e0⟩
  · -- behind it
    rintro e W2 ⟨⟨v,rfl⟩,xs,hS,k0,k1,k2⟩
    refine ⟨none,_,run_endLoop k1 (by simp [rd]),?_⟩
    exact hdone xs _ hS (hturn _ _ _ _ k0 (But.putObj _ _ _) (.inr (.inr rfl))) ((World.putObj_heap_other (by omega)).trans k2)
end Go.Proofs.YtiamjafecbpfpaaGreatDoor
