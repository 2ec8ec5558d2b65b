import Derived.Test.YtiamjafecbpfpaaGreatDoorJ01
import Derived.Test.YtiamjafecbpfpaaGreatDoorJ02
import Derived.Test.YtiamjafecbpfpaaGreatDoorJ06
import Derived.Test.YtiamjafecbpfpaaGreatDoorJ07
import Derived.Test.YtiamjafecbpfpaaGreatDoorJ08
import Derived.Shelf.SlSortCmp.WholeK
import Derived.Shelf.SlicesG.Cmp
import Derived.Shelf.Small.Bits
import Derived.Shelf.Lay
import Derived.Ground.SlsfProg
import Derived.Ground.SlgcProg
import Derived.Sort.LoopGhostIn
import Derived.OwnWalkIn
import Derived.OrdersIn
import Derived.RangeFuncCalls
import Derived.TacticsInMore

namespace Go.Proofs.YtiamjafecbpfpaaGreatDoor
open Go.Shelf Go.RowKit Go.Lib Go.Sort Go.Proofs
shelf_lay_g SlLaysF0.n6 Slsf 6 at Tryz 104 as Tryz.sortLr
shelf_lay_g SlLaysC2.n5 Slgc 5 at Tryz 124 as Tryz.cmpInt
def ordI (x y:Ir):Int:=if x.1≠y.1 then Lib.compareInt x.1 y.1 else if x.2.1≠y.2.1 then Lib.compareInt x.2.1 y.2.1 else Lib.compareInt x.2.2 y.2.2
set_option maxHeartbeats 1000000 in
theorem order_any (x y:Ir) (W:World):Calls Tryz.prog 105 #[valR x,valR y] W fun e w'=>e=.returned (.int .i64 (ordI x y))∧∃ q os',w'=grow (W.drewN q) os':=by
  have hcon:=fun a b W'=>AnyG.cmp_Compare_int Tryz.cmpInt a b W'
  change ∀ a b W',Calls Tryz.prog 124 _ _ _ at hcon
  unfold valR ordI
  by_cases h1:x.1=y.1
  · have h1':(x.1 != y.1)=false:=by simp [h1]
    rw [if_neg (by simp [h1])]
    by_cases h2:x.2.1=y.2.1
    · have h2':(x.2.1 != y.2.1)=false:=by simp [h2]
      rw [if_neg (by simp [h2])]
      have hc:=hcon x.2.2 y.2.2
      clear hcon
      generalize Lib.compareInt x.2.2 y.2.2=r at hc ⊢
      go_enter Tryz.func105,Tryz.ntmps105
      go_wp2_with (go_at_call 124; refine (hc _).mono ?_; rintro e w' ⟨rfl,rfl⟩)
      go_ret
      exact ⟨rfl,0,_,by rw [alloc_eq_grow,alloc_eq_grow,grow_grow]; rfl⟩
    · have h2':(x.2.1 != y.2.1)=true:=by simp [h2]
      rw [if_pos h2]
      have hc:=hcon x.2.1 y.2.1
      clear hcon
      generalize Lib.compareInt x.2.1 y.2.1=r at hc ⊢
      go_enter Tryz.func105,Tryz.ntmps105
      go_wp2_with (go_at_call 124; refine (hc _).mono ?_; rintro e w' ⟨rfl,rfl⟩)
      go_ret
      exact ⟨rfl,0,_,by rw [alloc_eq_grow,alloc_eq_grow,grow_grow]; rfl⟩
  · have h1':(x.1 != y.1)=true:=by simp [h1]
    rw [if_pos h1]
    have hc:=hcon x.1 y.1
    clear hcon
    generalize Lib.compareInt x.1 y.1=r at hc ⊢
    go_enter Tryz.func105,Tryz.ntmps105
    go_wp2_with (go_at_call 124; refine (hc _).mono ?_; rintro e w' ⟨rfl,rfl⟩)
    go_ret
    exact ⟨rfl,0,_,by rw [alloc_eq_grow,alloc_eq_grow,grow_grow]; rfl⟩
theorem ltO (x y:Ir):ltOf ordI x y=decide (ltI x y):=by
  unfold ltOf ordI Lib.compareInt
  rw [Bool.eq_iff_iff,decide_eq_true_eq,decide_eq_true_eq]
  unfold ltI
  by_cases h1:x.1=y.1
  · rw [if_neg (by simp [h1])]
    by_cases h2:x.2.1=y.2.1
    · rw [if_neg (by simp [h2])]
      by_cases h3:x.2.2<y.2.2
      · simp [h3,h1,h2]
      · by_cases h4:y.2.2<x.2.2 <;> simp [h1,h2,h3,h4]
    · rw [if_pos h2]
      by_cases h3:x.2.1<y.2.1
      · simp [h3,h1]
      · by_cases h4:y.2.1<x.2.1 <;> simp [h1,h2,h3,h4]
  · rw [if_pos h1]
    by_cases h3:x.1<y.1
    · simp [h3]
    · by_cases h4:y.1<x.1 <;> simp [h1,h3,h4]
theorem swoO:SWO (ltOf ordI) where
  irrefl x:=by rw [ltO]; simpa using ltI_irrefl x
  trans x y z h1 h2:=by rw [ltO] at *; simp at *; exact ltI_trans h1 h2
  ntrans x y z h1 h2:=by rw [ltO] at *; simp at *; unfold ltI at *; omega
theorem OwnL.holds {B g cap:Nat} {l:List Ir} {W:World} (h:OwnL B l (.slice (some ⟨g,0,none⟩) l.length cap) W):HoldsK encR 3 W g 0 l.toArray:=by
  intro j hj
  have hj2:j<l.length * 3:=by simpa using hj
  refine ⟨?_,World.ownsRow.frozenAt h _⟩
  rw [Nat.zero_add,World.ownsRow.cellAt h j hj2,get_flatK _ _ _ _ (by simpa using hj)]
  have h3:j=j / 3 * 3+j % 3:=by omega
  have h4:j / 3<l.length:=by omega
  conv=>lhs; rw [h3,flatR_get (List.getElem?_eq_getElem h4) (by omega)]
  have h5:j % 3<3:=by omega
  generalize j % 3=c at *
  have e:(l.toArray)[j / 3]! = l[j / 3]:=by simp [getElem!_pos,h4]
  rw [e]
  generalize l[j / 3]=x
  match c,h5 with
  | 0,_=>simp [encR]
  | 1,_=>simp [encR]
  | 2,_=>simp [encR]
theorem sorted_rising {l:List Ir} (hn:l.Nodup) (hs:∀ i j (hi:i<l.length) (hj:j<l.length),i<j→¬ ltI l[j] l[i]):RisingI l:=by
  unfold RisingI
  rw [List.pairwise_iff_getElem]
  intro i j hi hj hij
  have h1:=hs i j hi hj hij
  by_cases h2:ltI l[i] l[j]
  · exact h2
  · exfalso
    have hne:l[i]≠l[j]:=(List.pairwise_iff_getElem.1 hn) i j hi hj hij
    exact h1 (ltI_total h2 hne)
set_option maxHeartbeats 1000000 in
theorem sort_any (B g cap:Nat) (l:List Ir) (w:World) (h:OwnL B l (.slice (some ⟨g,0,none⟩) l.length cap) w) (hn:l.Nodup) (hok:∀ x∈l,okR x) (hcap:l.length≤cap) (hl:l.length≤100000000) :
    Calls Tryz.prog 104 #[.slice (some ⟨g,0,none⟩) l.length cap,.func (.func 105) #[] #[]] w fun e w'=>e=.returned (.tuple #[])∧∃ l',RisingI l'∧l'.Perm l∧SlL l' (.slice (some ⟨g,0,none⟩) l'.length cap) w'∧But (fun k=>k=g) w w':=by
  have hblk:g<w.heap.size:=(World.ownsRow.lt h g rfl).2
  have eg:∀ args w,(callFunc 105 args).run Tryz.prog w=.ok (.enter 105 args) w:=enters_of Tryz.func105 (by kernel_rfl) rfl
  have hH:=OwnL.holds h
  have hcon:=AnyQ.slices_SortFunc Tryz.sortLr 3 Tryz.isAgg110 Tryz.sizeOf110 encR (fun _=>rfl) (fun x v hv=>by simp [encR] at hv; rcases hv with rfl | rfl | rfl <;> rfl) ordI swoO 105 #[] g 0 cap l.toArray w eg (fun _ _ _ _ x y=>order_any x y _) hH hblk (by simp; omega)
  change Calls Tryz.prog 104 _ _ _ at hcon
  have e0:l.toArray.size=l.length:=by simp
  rw [e0] at hcon
  refine hcon.mono ?_
  rintro e w' ⟨rfl,d',n,os,⟨hs,_,hp⟩,hso,rfl⟩
  have hH':=holdsK_sortWorldK encR 3 w g 0 n l.toArray d' os hblk hH hs
  have hs':d'.size=l.length:=by simpa using hs
  have hperm:d'.toList.Perm l:=by
    have h1:d'.extract 0 l.toArray.size=d':=by rw [← hs]; simp
    have h2:l.toArray.extract 0 l.toArray.size=l.toArray:=by simp
    first
      | (rw [h1,h2] at hp; simpa using hp)
      | (rw [e0] at h1 h2; rw [h1,h2] at hp; simpa using hp)
  refine ⟨rfl,d'.toList,?_,hperm,?_,?_⟩
  · refine sorted_rising (hperm.nodup_iff.2 hn) (fun i j hi hj hij=>?_)
    have:=hso i j (Nat.zero_le _) hij (by simpa [hs'] using hj)
    rw [ltO] at this
    simp at hi hj
    simp [getElem!_pos,hi,hj] at this ⊢
    exact this
  · have hlt:g<(sortWorldK encR 3 w g 0 n d' os).heap.size:=lt_sortWorldK encR 3 w g 0 n d' os hblk
    refine ⟨_,cap,rfl,fun i m hm=>⟨g,0,rfl,hlt,?_⟩,(fun h=>by cases h),by simpa [hs'] using hcap⟩
    obtain ⟨hi,rfl⟩:=List.getElem?_eq_some_iff.1 hm
    have hi':i<d'.size:=by simpa using hi
    have h0:=(hH'.cell (i:=i) (c:=0) hi' (by omega)).1
    have h1:=(hH'.cell (i:=i) (c:=1) hi' (by omega)).1
    have h2:=(hH'.cell (i:=i) (c:=2) hi' (by omega)).1
    simp [encR,getElem!_pos,hi'] at h0 h1 h2
    have hk:=hok _ (hperm.mem_iff.1 (List.getElem_mem hi))
    simp at hk
    simpa using ⟨h0,h1,h2,hk⟩
  · refine ⟨rfl,rfl,rfl,size_sortWorldK_c ..,fun k hk hd=>?_⟩
    show ((w.heap.modify g _)++os)[k]?=w.heap[k]?
    rw [Array.getElem?_append_left (by simp; omega),Array.getElem?_modify,if_neg (fun e=>hd e.symm)]
end Go.Proofs.YtiamjafecbpfpaaGreatDoor
namespace Go.Proofs.YtiamjafecbpfpaaGreatDoor
open Go.RowKit Go.Shelf
attribute [local go_sem] Oper.semAt_some
theorem leaves_marks_v {F:Fence} {n:Nat} {P:Program} {fn:Func} {tmps:Array Value} {B:Nat} {Rw:World→Prop} {R:Ending→World→Prop} {v:Value} (hfin:∀ W,Rw W→R (.returned v) W) (hres:∀ W,(results fn tmps).run P W=.ok v W)
    (hR:∀ W d,B≤d→W.heap[d]?=some (.deferred (some []))→Rw W→Rw (W.putObj d (.deferred none))) :
    ∀ (Ds:List Nat) (W:World),Mk B Ds W→Rw W→LeavesInM F n P fn tmps R (Ds.map mark) .returning W
  | [],W,_,h=>⟨v,hres W,hfin W h⟩
  | d :: Ds,W,hM,h=>by
    obtain ⟨hB,hd⟩:=hM.2 d (by simp)
    have hn:=List.nodup_cons.1 hM.1
    refine ⟨by simp,.inl ⟨d,_,rfl,run_takeDeferred hd,?_⟩⟩
    refine leaves_marks_v hfin hres hR Ds _ ⟨hn.2,fun e he=>?_⟩ (hR W d hB hd h)
    have:=hM.2 e (by simp [he])
    exact ⟨this.1,(World.putObj_heap_other (fun h'=>hn.1 (by rw [← h']; exact he))).trans this.2⟩
theorem wpIn_calm {F:Fence} {n:Nat} {P:Program} {c:Code} {Q:Exit→Act→World→Prop} {a:Act} {w:World} (h:c.wpIn F n P (fun e a w=>(∀ c,e≠Exit.panic c)∧Q e a w) a w):c.wpIn F n P Q a w:=wpIn_mono h (fun _ _ _ h=>h.2)
theorem IBox (x:Value) (ty:TypeId) (w:World):(w.alloc (Obj.cells #[x] ty)).cell? ⟨w.heap.size,0,none⟩=some x∧(w.alloc (Obj.cells #[x] ty)).frozen? ⟨w.heap.size,0,none⟩=false∧w.heap.size<(w.alloc (Obj.cells #[x] ty)).heap.size:=by
  refine ⟨?_,?_,?_⟩ <;> simp
theorem fitI_ok {f:Fl} (hp:FitP f) {x:Ir} (h:fitI f x=true):okR x:=by
  have h1:=fitI_iff.1 h
  have h2:=rightI_le hp x.1
  have h3:=hp.prods
  have h4:f.terms.length+f.nons.length≤600:=hp.size
  exact ⟨by unfold i64B; omega,by unfold i64B; omega,by unfold i64B; omega⟩
theorem SlL.putObj {l:List Ir} {v:Value} {W:World} {d:Nat} {o:Obj} (h:SlL l v W) (hd:W.heap[d]?=some (.deferred (some []))):SlL l v (W.putObj d o):=by
  obtain ⟨ao,cap,h0,h1,h2⟩:=h
  have hb:=But.putObj W d o
  refine ⟨ao,cap,h0,fun i x hi=>?_,h2⟩
  obtain ⟨b,off,e,hbl,c0,c1,c2,hok⟩:=h1 i x hi
  have hne:b≠d:=fun e=>by subst e; simp [World.cell?,hd] at c0
  exact ⟨b,off,e,Nat.lt_of_lt_of_le hbl hb.size,(hb.cell (p:=⟨b,off+i * 3,none⟩) hbl hne).trans c0,(hb.cell (p:=⟨b,off+i * 3+1,none⟩) hbl hne).trans c1,(hb.cell (p:=⟨b,off+i * 3+2,none⟩) hbl hne).trans c2,hok⟩
set_option maxRecDepth 100000 in
set_option maxHeartbeats 4000000 in
theorem grown_in (n:Nat) (hn:6≤n) (f:Fl) (a:FlA) (Le:List Bool) (R:List (List Int)) (wv:World) (Bi Bc Bb G V:Nat) (S0:Ir→Prop) (lv0:Value) (L0:List Ir) (w:World)
    (h:GS Bi Bc Bb G V lv0 L0 [] [] w) (hv:VwAt f a V Le R wv) (hf:FlAt f a wv) (hfe:FE f R Le) (hwv:wv.heap.size≤Bi) (hB:Below wv.heap.size wv w) (hp:FitP f) (hG:GI f S0 L0 [] [] 0) (hne:L0≠[]) :
    CallsIn Fence.wide n Tryz.prog 80 #[.pointer (some ⟨G,0,none⟩)] w fun e W'=>∃ v',e=.returned v'∧(∃ L',ClosI f S0 L'∧SlL L' v' W'∧Apart Bi v')∧Below Bi w W':=by
  refine callsIn_of_wp_marks Tryz.func80 rfl trivial ?_ rfl
  simp only [Tryz.ntmps80,List.size_toArray,List.length_cons,List.length_nil,Nat.reduceAdd,Nat.reduceSub,Array.replicate_succ,Array.replicate_zero,List.push_toArray,List.append_toArray,List.nil_append,List.cons_append]
  have hdst:=And.intro h.o1 (And.intro h.o2 h.o3)
  have hGl:=h.lt
  have HFP:Hid (FitP f):=hp
  have HFE:Hid (FE f R Le):=hfe
  have HV:Hid (VwAt f a V Le R wv):=hv
  have HFA:Hid (FlAt f a wv):=hf
  have HBV:Hid (Below wv.heap.size wv w):=hB
  have hBK:Below w.heap.size w (w.alloc (Obj.cells #[.pointer (some ⟨G,0,none⟩)] 158)):=(Below.refl _ _).alloc (Nat.le_refl _) _
  have HST:Hid (GInv f S0 Bi Bc Bb G V w.heap.size w [] 0 L0 [] [] lv0 (w.alloc (Obj.cells #[.pointer (some ⟨G,0,none⟩)] 158))):=by
    refine ⟨h.next hBK,hG,⟨fun q hq=>?_,fun q e hq=>?_⟩,⟨List.nodup_nil,by simp⟩,by simp,hBK.mono (by omega),List.length_pos_iff.2 hne⟩
    · have:(w.alloc (Obj.cells #[.pointer (some ⟨G,0,none⟩)] 158)).heap.size=w.heap.size+1:=by simp
      rcases hq with hq | hq | hq
      · omega
      · omega
      · cases hq
    · have:=World.ownsRow.lt h.own q e
      rcases hq with hq | hq | hq
      · omega
      · omega
      · cases hq
  clear h hv hf hfe hB hp hG hne hBK
  refine wpIn_calm ?_
  gi_wp2
  generalize w.alloc (Obj.cells #[.pointer (some ⟨G,0,none⟩)] 158)=w0 at *
  refine wpIn_loop_ghost (fun m a' W=>∃ (t4 t5 t6 t7 t8 t9 t10 t11 t12 t13 t14 t15 t16 t17 t18 t19 t20 t21 t22 t23 t24 t25 t26 t27 t28 t29 t30 t31 t32 t33 t34 t35 t36 t37 t38 t39 t40 t41 t42 t43 t44 t45 t46 t47 t48 t49 t50 t51 t52 t53 t54 t55 t56 t57 t58 t59 t60:Value) (Ds:List Nat) (k:Nat) (L:List Ir) (C S:List (Int × Int)) (lv:Value),a'={ tmps:=#[.pointer (some ⟨G,0,none⟩),.pointer (some ⟨w.heap.size,0,none⟩),.slice none 0 0,.int .i64 k,t4,t5,t6,t7,t8,t9,t10,t11,t12,t13,t14,t15,t16,t17,t18,t19,t20,t21,t22,t23,t24,t25,t26,t27,t28,t29,t30,t31,t32,t33,t34,t35,t36,t37,t38,t39,t40,t41,t42,t43,t44,t45,t46,t47,t48,t49,t50,t51,t52,t53,t54,t55,t56,t57,t58,t59,t60,undef,undef,undef,undef,undef,undef,undef,undef,undef],defers:=Ds.map mark }∧m=maxI+1 - k∧GInv f S0 Bi Bc Bb G V w.heap.size w Ds k L C S lv W) (maxI+1) ?start ?round
  case start=>exact ⟨undef,undef,undef,undef,undef,undef,undef,undef,undef,undef,undef,undef,undef,undef,undef,undef,undef,undef,undef,undef,undef,undef,undef,undef,undef,undef,undef,undef,undef,undef,undef,undef,undef,undef,undef,undef,undef,undef,undef,undef,undef,undef,undef,undef,undef,undef,undef,undef,undef,undef,undef,undef,undef,undef,undef,undef,undef,[],0,L0,[],[],lv0,rfl,rfl,HST.out⟩
  case round =>
  clear HST
  rintro m a' W ⟨t4,t5,t6,t7,t8,t9,t10,t11,t12,t13,t14,t15,t16,t17,t18,t19,t20,t21,t22,t23,t24,t25,t26,t27,t28,t29,t30,t31,t32,t33,t34,t35,t36,t37,t38,t39,t40,t41,t42,t43,t44,t45,t46,t47,t48,t49,t50,t51,t52,t53,t54,t55,t56,t57,t58,t59,t60,Ds,k,L,C,S,lv,rfl,rfl,hGS,hGI,hAp,hMk,hc0,hBw,hLp⟩
  have hLm:=hGI.len HFP.out
  unfold maxI at hLm
  obtain ⟨la,lc,rfl⟩:=slice_of_ownK hGS.own
  have hg2:=hGS.g2
  have hK0:w.heap.size<W.heap.size:=World.block_lt_of_cell? _ _ hc0
  by_cases hlt:k<L.length
  case neg =>
    obtain rfl:k=L.length:=by have:=hGI.le; omega
    have HCL:Hid (∀ x,x∈L↔Cl f S0 x):=hGI.done'
    have hown:=hGS.own
    obtain ⟨g,rfl,hgG,hglt,hcap⟩:∃ g,la=some ⟨g,0,none⟩∧G+1≤g∧g<W.heap.size∧L.length≤lc:=by
      obtain ⟨h1,h2⟩:=hGS.own
      rcases h2 with ⟨e,hn⟩ | ⟨g,cap,cur,e,hB,hg,hcap,h3⟩
      · omega
      · cases e; exact ⟨g,rfl,hB,(Array.getElem?_eq_some_iff.1 hg).1,hcap⟩
    have hSort:=sort_any (G+1) g lc L W hown hGI.nodup (fun x hx=>fitI_ok HFP.out (cl_fit (hGI.sound x hx))) hcap (by omega)
    have HSO:Hid (Calls Tryz.prog 104 #[.slice (some ⟨g,0,none⟩) L.length lc,.func (.func 105) #[] #[]] W fun e w'=>e=.returned (.tuple #[])∧∃ l',RisingI l'∧l'.Perm L∧SlL l' (.slice (some ⟨g,0,none⟩) l'.length lc) w'∧But (fun k=>k=g) W w'):=hSort
    have HAA:Hid (∀ q,(q<Bi∨q=w.heap.size∨q∈Ds)→q≠g):=fun q hq e=>hAp.2 g rfl (e ▸ hq)
    clear hSort hown hGI hAp hGS
    gi_wp2_with fail
    refine ⟨trivial,fun _=>by omega,?_⟩
    refine (callsIn_wide.2 HSO.out).mono ?_
    rintro e W3 ⟨rfl,l',hr,hpm,hsl,hb3⟩
    have hlen:l'.length=L.length:=hpm.length_eq
    have c3:W3.cell? ⟨w.heap.size,0,none⟩=some (.pointer (some ⟨G,0,none⟩)):=(hb3.cell (p:=⟨w.heap.size,0,none⟩) hK0 (HAA.out _ (.inr (.inl rfl)))).trans hc0
    have c4:W3.cell? ⟨G,2,none⟩=some (.slice (some ⟨g,0,none⟩) L.length lc):=(hb3.cell (p:=⟨G,2,none⟩) (World.block_lt_of_cell? _ _ hg2) (by simp only; omega)).trans hg2
    have hMk3:Mk Bi Ds W3:=⟨hMk.1,fun d hd=>⟨(hMk.2 d hd).1,hb3.same (hMk.2 d hd).2 (HAA.out d (.inr (.inr hd)))⟩⟩
    have HF:Hid ((∃ L',ClosI f S0 L'∧SlL L' (.slice (some ⟨g,0,none⟩) L.length lc) W3∧Apart Bi (.slice (some ⟨g,0,none⟩) L.length lc))∧Below Bi w W3):=⟨⟨l',⟨hr,fun x=>(hpm.mem_iff).trans (HCL.out x)⟩,hlen ▸ hsl,fun ad n c e=>by cases e; simp only; omega⟩,hBw.trans (hb3.below (by have:=hBw.size; omega) (fun k hk=>by omega))⟩
    clear hsl hr hpm hb3 HSO hc0 hg2
    gi_wp2
    refine ⟨fun c hc=>(by cases hc),?_⟩
    refine leaves_marks_v (v:=.slice (some ⟨g,0,none⟩) L.length lc) (Rw:=fun W'=>(∃ L',ClosI f S0 L'∧SlL L' (.slice (some ⟨g,0,none⟩) L.length lc) W'∧Apart Bi (.slice (some ⟨g,0,none⟩) L.length lc))∧Below Bi w W') (fun W' hw=>⟨_,rfl,hw⟩) (fun W'=>by refine (results_tmp rfl _ _ _).trans ?_; rfl) (fun W' d hd hh hw=>?_) Ds W3 hMk3 HF.out
    obtain ⟨⟨L',k1,k2,k3⟩,k4⟩:=hw
    exact ⟨⟨L',k1,k2.putObj hh,k3⟩,k4.trans ((But.putObj W' d _).below (by have:=k4.size; omega) (fun k hk=>by omega))⟩
  -- a round
  obtain ⟨g,rfl,hgG,hglt,hcap⟩:∃ g,la=some ⟨g,0,none⟩∧G+1≤g∧g<W.heap.size∧L.length≤lc:=by
    obtain ⟨h1,h2⟩:=hGS.own
    rcases h2 with ⟨e,hn⟩ | ⟨g,cap,cur,e,hB,hg,hcap,h3⟩
    · omega
    · cases e; exact ⟨g,rfl,hB,(Array.getElem?_eq_some_iff.1 hg).1,hcap⟩
  have hxk:L[k]?=some L[k]:=by simp [hlt]
  have hSl:SlL L (.slice (some ⟨g,0,none⟩) L.length lc) W:=OwnL.sl hGS.own (fun x hx=>fitI_ok HFP.out (cl_fit (hGI.sound x hx)))
  obtain ⟨ao,cap,e0,hI,_,_⟩:=hSl
  cases e0
  obtain ⟨b,off,e1,hbl,c0,c1,c2,hok⟩:=hI.at (Below.refl _ _) hlt
  cases e1
  have hCx:Cl f S0 L[k]:=hGI.sound _ (by simp)
  generalize L[k]=x at *
  obtain ⟨x0,x1,x2⟩:=x
  simp only [Nat.zero_add] at c0 c1 c2
  obtain ⟨ta,tc,na,nc,pa,pc⟩:=a
  have hg0:=hGS.g0
  have HG:Hid (GS Bi Bc Bb G V (.slice (some ⟨g,0,none⟩) L.length lc) L C S W):=hGS
  have HGI:Hid (GI f S0 L C S k∧L[k]?=some (x0,x1,x2)∧Cl f S0 (x0,x1,x2)):=⟨hGI,hxk,hCx⟩
  have HAP:Hid (Apt (fun q=>q<Bi∨q=w.heap.size∨q∈Ds) Bi Bc Bb G (.slice (some ⟨g,0,none⟩) L.length lc) W):=hAp
  have HMK:Hid (Mk Bi Ds W):=hMk
  have hkl:(k:Int)<L.length:=by omega
  have Bx:Below W.heap.size W (W.alloc (Obj.cells #[.int .i64 x0,.int .i64 x1,.int .i64 x2] 110)):=(Below.refl _ _).alloc (Nat.le_refl _) _
  have X0:=RBox.new (x0,x1,x2) 110 W
  have hBV:Below wv.heap.size wv W:=HBV.out.trans (hBw.mono hwv)
  clear hGS hGI hxk hAp hMk hI hCx hok
  gi_wp2
  refine wpIn_wide.2 ?_
  have hg0':G<W.heap.size:=World.block_lt_of_cell? _ _ hg0
  have hn6:f.n≤600:=HFP.out.size
  have hBw4:Below Bi w (W.alloc (Obj.cells #[.int .i64 x0,.int .i64 x1,.int .i64 x2] 110)):=hBw.trans (Bx.mono (by have:=hBw.size; omega))
  obtain ⟨hXl,y0,y1,y2⟩:=X0
  simp only at y0 y1 y2
  have hc4:=(Bx.cell (p:=⟨w.heap.size,0,none⟩) hK0).trans hc0
  have hg4:=(Bx.cell (p:=⟨G,0,none⟩) hg0').trans hg0
  have hBV4:Below wv.heap.size wv (W.alloc (Obj.cells #[.int .i64 x0,.int .i64 x1,.int .i64 x2] 110)):=hBV.trans (Bx.mono hBV.size)
  have HG4:Hid (GS Bi Bc Bb G V (.slice (some ⟨g,0,none⟩) L.length lc) L C S (W.alloc (Obj.cells #[.int .i64 x0,.int .i64 x1,.int .i64 x2] 110))):=HG.out.next Bx
  have HMK4:Hid (Mk Bi Ds (W.alloc (Obj.cells #[.int .i64 x0,.int .i64 x1,.int .i64 x2] 110))):=⟨HMK.out.1,fun d hd=>⟨(HMK.out.2 d hd).1,(Bx.block d (HMK.out.lt d hd)).trans (HMK.out.2 d hd).2⟩⟩
  have HAP4:Hid (Apt (fun q=>q<Bi∨q=w.heap.size∨q∈Ds∨q=W.heap.size) Bi Bc Bb G (.slice (some ⟨g,0,none⟩) L.length lc) (W.alloc (Obj.cells #[.int .i64 x0,.int .i64 x1,.int .i64 x2] 110))):=by
    refine ⟨fun q hq=>?_,fun q e hq=>?_⟩
    · rcases hq with hq | hq | hq | hq
      · exact (HAP.out.next Bx.size).1 q (.inl hq)
      · exact (HAP.out.next Bx.size).1 q (.inr (.inl hq))
      · exact (HAP.out.next Bx.size).1 q (.inr (.inr hq))
      · subst hq; exact ⟨hXl,by omega,by omega,by omega,by omega⟩
    · rcases hq with hq | hq | hq | hq
      · exact HAP.out.2 q e (.inl hq)
      · exact HAP.out.2 q e (.inr (.inl hq))
      · exact HAP.out.2 q e (.inr (.inr hq))
      · have hq':g=W.heap.size:=by cases e; exact hq
        omega
  clear HG HMK HAP hc0 hg0 c0 c1 c2 hBw hBV Bx hg2
  generalize W.heap.size=X at *
  generalize W.alloc (Obj.cells #[.int .i64 x0,.int .i64 x1,.int .i64 x2] 110)=W4 at *
  have HVV:=HV.out
  obtain ⟨hvb,_⟩:=id HVV
  obtain ⟨hVl,u0,u1,u2⟩:=hvb
  simp only at u0 u1 u2
  have HSI:Hid (∀ W',Below W4.heap.size W4 W'→(W'.cell? ⟨w.heap.size,0,none⟩=some (.pointer (some ⟨G,0,none⟩))∧W'.cell? ⟨G,0,none⟩=some (.pointer (some ⟨V,0,none⟩))∧W'.cell? ⟨V,0,none⟩=some (.slice ta f.terms.length tc)∧W'.cell? ⟨V,1,none⟩=some (.slice na f.nons.length nc)∧W'.cell? ⟨V,2,none⟩=some (.slice pa f.prods.length pc)∧W'.cell? ⟨X,0,none⟩=some (.int .i64 x0)∧W'.cell? ⟨X,1,none⟩=some (.int .i64 x1)∧W'.cell? ⟨X,2,none⟩=some (.int .i64 x2)∧Below W4.heap.size W4 W')):=fun W' hb=>by
    have hbv:=hBV4.trans (hb.mono hBV4.size)
    have hBs:=hBw4.size
    exact ⟨(hb.cell (p:=⟨w.heap.size,0,none⟩) (World.block_lt_of_cell? _ _ hc4)).trans hc4,(hb.cell (p:=⟨G,0,none⟩) (World.block_lt_of_cell? _ _ hg4)).trans hg4,(hbv.cell (p:=⟨V,0,none⟩) hVl).trans u0,(hbv.cell (p:=⟨V,1,none⟩) hVl).trans u1,(hbv.cell (p:=⟨V,2,none⟩) hVl).trans u2,(hb.cell (p:=⟨X,0,none⟩) hXl).trans y0,(hb.cell (p:=⟨X,1,none⟩) hXl).trans y1,(hb.cell (p:=⟨X,2,none⟩) hXl).trans y2,hb⟩
  have HNX:Hid (∀ W',Below W4.heap.size W4 W'→Calls Tryz.prog 38 #[.agg #[.slice ta f.terms.length tc,.slice na f.nons.length nc,.slice pa f.prods.length pc],.agg #[.int .i64 x0,.int .i64 x1,.int .i64 x2]] W' fun e w'=>e=.returned (.tuple #[.int .i64 ((nextI f (x0,x1,x2)).getD 0),.bool (nextI f (x0,x1,x2)).isSome])∧Below W'.heap.size W' w'):=fun W' hb=>next_item f ⟨ta,tc,na,nc,pa,pc⟩ (x0,x1,x2) W' (HFA.out.next (hBV4.trans (hb.mono hBV4.size))) hn6
  obtain ⟨nx,hnx⟩:∃ nx,nextI f (x0,x1,x2)=nx:=⟨_,rfl⟩
  rw [hnx] at HNX
  have HNE:Hid (nextI f (x0,x1,x2)=nx):=hnx
  obtain ⟨nz,hnz⟩:∃ nz,nx.getD 0=nz:=⟨_,rfl⟩
  obtain ⟨nb,hnb⟩:∃ nb,nx.isSome=nb:=⟨_,rfl⟩
  have HNZ:Hid (nx.getD 0=nz∧nx.isSome=nb):=⟨hnz,hnb⟩
  rw [hnz,hnb] at HNX
  clear hnx hnz hnb u0 u1 u2 hc4 hg4 y0 y1 y2 HVV
  have hS0:=HSI.out _ (Below.refl _ W4).drew
  refine wp_region_L (fun W=>W.cell? ⟨w.heap.size,0,none⟩=some (.pointer (some ⟨G,0,none⟩))∧W.cell? ⟨G,0,none⟩=some (.pointer (some ⟨V,0,none⟩))∧W.cell? ⟨V,0,none⟩=some (.slice ta f.terms.length tc)∧W.cell? ⟨V,1,none⟩=some (.slice na f.nons.length nc)∧W.cell? ⟨V,2,none⟩=some (.slice pa f.prods.length pc)∧W.cell? ⟨X,0,none⟩=some (.int .i64 x0)∧W.cell? ⟨X,1,none⟩=some (.int .i64 x1)∧W.cell? ⟨X,2,none⟩=some (.int .i64 x2)∧Below W4.heap.size W4 W) 15 (by kernel_rfl) 15 rfl ?_
  refine tk 0 ⟨some 25,.load 158 (.tmp 1),158, "grower.go:46",#[],none⟩ hS0 ?_;simp only [Act.put,sA,s0,sS]
  refine tk 1 ⟨some 26,.nilCheck (.tmp 25),0, "grower.go:46",#[⟨0,.data⟩],none⟩ hS0 ?_;simp only [Act.put,sA,s0,sS]
  refine tk 2 ⟨some 27,.fieldAddr 185 (.tmp 26) 0,0, "grower.go:46",#[⟨1,.data⟩],none⟩ hS0 ?_;simp only [Act.put,sA,s0,sS]
  refine tk 3 ⟨some 28,.load 99 (.tmp 27),99, "grower.go:46",#[⟨2,.data⟩],none⟩ hS0 ?_;simp only [Act.put,sA,s0,sS]
  refine tk 4 ⟨some 29,.nilCheck (.tmp 28),0, "grower.go:46",#[⟨3,.data⟩],none⟩ hS0 ?_;simp only [Act.put,sA,s0,sS]
  refine tk 5 ⟨some 30,.fieldAddr 133 (.tmp 29) 0,0, "grower.go:46",#[⟨4,.data⟩],none⟩ hS0 ?_;simp only [Act.put,sA,s0,sS]
  refine tk 6 ⟨some 31,.load 50 (.tmp 30),50, "grower.go:46",#[⟨5,.data⟩],none⟩ hS0 ?_;simp only [Act.put,sA,s0,sS]
  refine tk 7 ⟨some 32,.load 110 (.tmp 4),110, "grower.go:46",#[],none⟩ hS0 ?_;simp only [Act.put,sA,s0,sS]
  refine wpAnyL_two (i:=8) (j:=12) (oi:=⟨some 33,.call ⟨.value (.func 38),#[.tmp 31,.tmp 32],#[50,110]⟩,111, "grower.go:46",#[⟨6,.data⟩,⟨7,.data⟩],none⟩) (oj:=⟨some 5,.alloc 3,0, "grower.go:46",#[],none⟩) (by kernel_rfl) rfl rfl rfl rfl (fun K hK=>?_) (fun K hK=>?_)
  · go_simp
    refine (HNX.out _ (Below.refl _ W4).drew).mono ?_
    rintro e W5 ⟨rfl,hb5⟩
    have B5:Below W4.heap.size W4 W5:=below_then (Below.refl _ _).drew hb5 (Nat.le_refl _)
    have hS5:=HSI.out _ B5
    refine hK.out _ _ (fun _=>hS5) ?_
    clear hK
    refine tk 9 ⟨some 24,.move (.tmp 33),111, "grower.go:46",#[⟨8,.data⟩],none⟩ hS5 ?_;simp only [Act.put,sA,s0,sS]
    refine tk 10 ⟨some 34,.extract (.tmp 24) 0,3, "grower.go:46",#[⟨9,.data⟩],none⟩ hS5 ?_;simp only [Act.put,sA,s0,sS]
    refine tk 11 ⟨some 35,.extract (.tmp 24) 1,4, "grower.go:46",#[⟨9,.data⟩,⟨13,.gcOnly .lateStores⟩],none⟩ hS5 ?_;simp only [Act.put,sA,s0,sS]
    refine wpAnyL_one' (i:=12) (o:=⟨some 5,.alloc 3,0, "grower.go:46",#[],none⟩) (by kernel_rfl) rfl rfl (fun K hK=>?_)
    go_simp
    have B6:Below W4.heap.size W4 (W5.alloc (Obj.cells #[.int .i64 0] 3)):=B5.alloc B5.size _
    have hS6:=HSI.out _ B6
    refine hK.out _ _ (fun _=>hS6) ?_
    clear hK
    refine wpAnyL_one' (i:=13) (o:=⟨none,.store 3 (.tmp 5) (.tmp 34),0, "grower.go:46",#[⟨12,.data⟩,⟨10,.data⟩,⟨8,.chain⟩,⟨0,.phase⟩,⟨1,.phase⟩,⟨2,.phase⟩,⟨3,.phase⟩,⟨4,.phase⟩,⟨5,.phase⟩,⟨6,.phase⟩,⟨7,.phase⟩,⟨8,.phase⟩,⟨9,.phase⟩,⟨10,.phase⟩,⟨11,.textOnly .lateStores⟩,⟨12,.phase⟩],none⟩) (by kernel_rfl) rfl rfl (fun K hK=>?_)
    go_simp
    have B7:Below W4.heap.size W4 (W5.alloc (Obj.cells #[.int .i64 nz] 3)):=B5.alloc B5.size _
    have hS7:=HSI.out _ B7
    refine hK.out _ _ (fun _=>hS7) ?_
    clear hK
    refine wpAnyL_one' (i:=14) (o:=⟨some 6,.assign (.tmp 35),4, "grower.go:46",#[⟨11,.data⟩,⟨13,.chain⟩,⟨0,.phase⟩,⟨1,.phase⟩,⟨2,.phase⟩,⟨3,.phase⟩,⟨4,.phase⟩,⟨5,.phase⟩,⟨6,.phase⟩,⟨7,.phase⟩,⟨8,.phase⟩,⟨9,.phase⟩,⟨10,.phase⟩,⟨11,.phase⟩,⟨12,.phase⟩,⟨13,.phase⟩],none⟩) (by kernel_rfl) rfl rfl (fun K hK=>?_)
    go_simp
    refine hK.out _ _ (fun _=>hS7) ?_
    clear hK
    refine wpAnyL_done (by kernel_rfl) ?_ _
    have hY7:=(IBox (.int .i64 nz) 3 W5).1
    have hYl:=(IBox (.int .i64 nz) 3 W5).2.2
    have hYw:W4.heap.size≤W5.heap.size:=B5.size
    clear hS5 hS6 hS7 B6 hb5 hS0
    generalize W5.alloc (Obj.cells #[.int .i64 nz] 3)=W6 at *
    generalize W5.heap.size=Y at *
    have HINV0:Hid (∀ W6',Below W4.heap.size W4 W6'→GI f S0 L C S (k+1)→GInv f S0 Bi Bc Bb G V w.heap.size w Ds (k+1) L C S (.slice (some ⟨g,0,none⟩) L.length lc) W6'):=fun W6' hb hgi=>⟨HG4.out.next hb,hgi,⟨fun q hq=>(HAP4.out.next hb.size).1 q (hq.imp id (fun h=>h.imp id .inl)),fun q e hq=>HAP4.out.2 q e (hq.imp id (fun h=>h.imp id .inl))⟩,⟨HMK4.out.1,fun d hd=>⟨(HMK4.out.2 d hd).1,(hb.block d (HMK4.out.lt d hd)).trans (HMK4.out.2 d hd).2⟩⟩,(HSI.out _ hb).1,hBw4.trans (hb.mono (by have:=hBw4.size; omega)),hLp⟩
    cases nx with
    | none =>
      obtain ⟨h1,h2⟩:=HNZ.out
      simp only [Option.getD_none,Option.isSome_none] at h1 h2
      subst h1 h2
      have HINV:=HINV0.out _ B7.drew (HGI.out.1.skip HGI.out.2.1 (fun s q p hs=>by rw [HNE.out] at hs; cases hs))
      have hS8:=B7.drew
      gi_wp2
      refine wpIn_wide.2 ?_
      refine wp_region_L (fun W=>Below W4.heap.size W4 W) 16 (by kernel_rfl) 16 rfl ?_
      refine tk 0 ⟨some 36,.move (.tmp 6),4, "grower.go:47",#[],none⟩ hS8 ?_;simp only [Act.put,sA,s0,sS]
      refine tk 1 ⟨some 37,.unOp .not 4 (.tmp 36),4, "grower.go:47",#[⟨0,.data⟩],none⟩ hS8 ?_;simp only [Act.put,sA,s0,sS]
      refine tk 2 ⟨some 38,.move (.tmp 37),4, "grower.go:47",#[⟨1,.data⟩],none⟩ hS8 ?_;simp only [Act.put,sA,s0,sS]
      refine tu 3 ⟨some 39,.load 158 (.tmp 1),158, "grower.go:47",#[⟨2,.guard⟩],some (2,false)⟩ hS8 ?_;simp only [Act.put,sA,s0,sS]
      refine tu 4 ⟨some 40,.nilCheck (.tmp 39),0, "grower.go:47",#[⟨3,.data⟩,⟨2,.guard⟩],some (2,false)⟩ hS8 ?_;simp only [Act.put,sA,s0,sS]
      refine tu 5 ⟨some 41,.fieldAddr 185 (.tmp 40) 0,0, "grower.go:47",#[⟨4,.data⟩,⟨2,.guard⟩],some (2,false)⟩ hS8 ?_;simp only [Act.put,sA,s0,sS]
      refine tu 6 ⟨some 42,.load 99 (.tmp 41),99, "grower.go:47",#[⟨5,.data⟩,⟨2,.guard⟩],some (2,false)⟩ hS8 ?_;simp only [Act.put,sA,s0,sS]
      refine tu 7 ⟨some 43,.nilCheck (.tmp 42),0, "grower.go:47",#[⟨6,.data⟩,⟨2,.guard⟩],some (2,false)⟩ hS8 ?_;simp only [Act.put,sA,s0,sS]
      refine tu 8 ⟨some 44,.fieldAddr 133 (.tmp 43) 3,0, "grower.go:47",#[⟨7,.data⟩,⟨2,.guard⟩],some (2,false)⟩ hS8 ?_;simp only [Act.put,sA,s0,sS]
      refine tu 9 ⟨some 45,.load 130 (.tmp 44),130, "grower.go:47",#[⟨8,.data⟩,⟨2,.guard⟩],some (2,false)⟩ hS8 ?_;simp only [Act.put,sA,s0,sS]
      refine tu 10 ⟨some 46,.load 3 (.tmp 5),3, "grower.go:47",#[⟨2,.guard⟩],some (2,false)⟩ hS8 ?_;simp only [Act.put,sA,s0,sS]
      refine tu 11 ⟨some 47,.indexAddr 130 (.tmp 45) (.tmp 46),0, "grower.go:47",#[⟨9,.data⟩,⟨10,.data⟩,⟨2,.guard⟩],some (2,false)⟩ hS8 ?_;simp only [Act.put,sA,s0,sS]
      refine tu 12 ⟨some 48,.load 39 (.tmp 47),39, "grower.go:47",#[⟨11,.data⟩,⟨2,.guard⟩],some (2,false)⟩ hS8 ?_;simp only [Act.put,sA,s0,sS]
      refine tu 13 ⟨some 49,.call ⟨.builtin .len,#[.tmp 48],#[39]⟩,3, "grower.go:47",#[⟨12,.data⟩,⟨2,.guard⟩],some (2,false)⟩ hS8 ?_;simp only [Act.put,sA,s0,sS]
      refine tu 14 ⟨some 50,.binOp .eql 3 (.tmp 49) (.const (.int .i64 0)) 3,4, "grower.go:47",#[⟨13,.data⟩,⟨2,.guard⟩],some (2,false)⟩ hS8 ?_;simp only [Act.put,sA,s0,sS]
      refine tk 15 ⟨some 51,.pick (.tmp 38) (.const (.bool true)) (.tmp 50),4, "grower.go:47",#[⟨2,.data⟩,⟨14,.data⟩],none⟩ hS8 ?_;simp only [Act.put,sA,s0,sS]
      refine wpAnyL_done (by kernel_rfl) ?_ _
      gi_wp2
      exact ⟨maxI+1 - (k+1),by unfold maxI; omega,_,_,_,_,_,_,_,_,_,_,_,_,_,_,_,_,_,_,_,_,_,_,_,_,_,_,_,_,_,_,_,_,_,_,_,_,_,_,_,_,_,_,_,_,_,_,_,_,_,_,_,_,_,_,_,_,_,Ds,k+1,L,C,S,_,rfl,rfl,HINV⟩
    | some z =>
      obtain ⟨h1,h2⟩:=HNZ.out
      simp only [Option.getD_some,Option.isSome_some] at h1 h2
      subst h1 h2
      have hzl:=nextI_lt HFP.out HNE.out
      obtain ⟨s,rfl⟩:∃ s:Nat,z=s:=⟨z.toNat,by omega⟩
      have hs:s<f.n:=by omega
      have hsI:(s:Int)<f.n:=by omega
      obtain ⟨_,ve,vf,vp,v3,v4,v5,v6,v7,v8⟩:=HV.out
      obtain ⟨pa',pc',rfl,hrows,_⟩:=v8
      rw [ofsL_len] at v5
      obtain ⟨pb,po,u,rfl,hpb,hrc,hru⟩:=hrows s _ (ofsL_get hs)
      obtain ⟨PL,hPL⟩:∃ PL,ofA f (s:Int)=PL:=⟨_,rfl⟩
      rw [hPL] at hru
      obtain ⟨ra,rc,rfl,hrow,_⟩:=hru
      have HS6:Hid (∀ W',Below W4.heap.size W4 W'→W'.cell? ⟨Y,0,none⟩=some (.int .i64 s)→(W'.cell? ⟨w.heap.size,0,none⟩=some (.pointer (some ⟨G,0,none⟩))∧W'.cell? ⟨G,0,none⟩=some (.pointer (some ⟨V,0,none⟩))∧W'.cell? ⟨V,5,none⟩=some (.slice (some ⟨pb,po,none⟩) f.n pc')∧W'.cell? ⟨pb,po+s,none⟩=some (.slice ra PL.length rc)∧W'.cell? ⟨Y,0,none⟩=some (.int .i64 s))):=fun W' hb hy=>by
        have hbv:=hBV4.trans (hb.mono hBV4.size)
        have h5:=HSI.out _ hb
        exact ⟨h5.1,h5.2.1,(hbv.cell (p:=⟨V,5,none⟩) hVl).trans v5,(hbv.cell (p:=⟨pb,po+s,none⟩) hpb).trans hrc,hy⟩
      have hS8:=HS6.out W6.drew B7.drew hY7
      have HPL:Hid (ofA f (s:Int)=PL):=hPL
      clear hPL hrows hrow hrc v3 v4 v5 v6 v7
      rcases Nat.eq_zero_or_pos PL.length with hP0 | hP0
      · have HINV:=HINV0.out _ B7.drew (HGI.out.1.skip HGI.out.2.1 (fun s' q p hs' hq hl=>by
          rw [HNE.out] at hs'
          cases hs'
          have hm:(q:Int)∈ofA f (s:Int):=mem_ofA.2 ⟨q,p,rfl,hq,hl⟩
          rw [HPL.out,List.eq_nil_of_length_eq_zero hP0] at hm
          cases hm))
        have hP1:((PL.length:Int) == 0)=true:=by rw [hP0]; rfl
        gi_wp2
        refine wpIn_wide.2 ?_
        refine wp_region_L (fun W=>W.cell? ⟨w.heap.size,0,none⟩=some (.pointer (some ⟨G,0,none⟩))∧W.cell? ⟨G,0,none⟩=some (.pointer (some ⟨V,0,none⟩))∧W.cell? ⟨V,5,none⟩=some (.slice (some ⟨pb,po,none⟩) f.n pc')∧W.cell? ⟨pb,po+s,none⟩=some (.slice ra PL.length rc)∧W.cell? ⟨Y,0,none⟩=some (.int .i64 s)) 16 (by kernel_rfl) 16 rfl ?_
        refine tk 0 ⟨some 36,.move (.tmp 6),4, "grower.go:47",#[],none⟩ hS8 ?_;simp only [Act.put,sA,s0,sS]
        refine tk 1 ⟨some 37,.unOp .not 4 (.tmp 36),4, "grower.go:47",#[⟨0,.data⟩],none⟩ hS8 ?_;simp only [Act.put,sA,s0,sS]
        refine tk 2 ⟨some 38,.move (.tmp 37),4, "grower.go:47",#[⟨1,.data⟩],none⟩ hS8 ?_;simp only [Act.put,sA,s0,sS]
        refine tk 3 ⟨some 39,.load 158 (.tmp 1),158, "grower.go:47",#[⟨2,.guard⟩],some (2,false)⟩ hS8 ?_;simp only [Act.put,sA,s0,sS]
        refine tk 4 ⟨some 40,.nilCheck (.tmp 39),0, "grower.go:47",#[⟨3,.data⟩,⟨2,.guard⟩],some (2,false)⟩ hS8 ?_;simp only [Act.put,sA,s0,sS]
        refine tk 5 ⟨some 41,.fieldAddr 185 (.tmp 40) 0,0, "grower.go:47",#[⟨4,.data⟩,⟨2,.guard⟩],some (2,false)⟩ hS8 ?_;simp only [Act.put,sA,s0,sS]
        refine tk 6 ⟨some 42,.load 99 (.tmp 41),99, "grower.go:47",#[⟨5,.data⟩,⟨2,.guard⟩],some (2,false)⟩ hS8 ?_;simp only [Act.put,sA,s0,sS]
        refine tk 7 ⟨some 43,.nilCheck (.tmp 42),0, "grower.go:47",#[⟨6,.data⟩,⟨2,.guard⟩],some (2,false)⟩ hS8 ?_;simp only [Act.put,sA,s0,sS]
        refine tk 8 ⟨some 44,.fieldAddr 133 (.tmp 43) 3,0, "grower.go:47",#[⟨7,.data⟩,⟨2,.guard⟩],some (2,false)⟩ hS8 ?_;simp only [Act.put,sA,s0,sS]
        refine tk 9 ⟨some 45,.load 130 (.tmp 44),130, "grower.go:47",#[⟨8,.data⟩,⟨2,.guard⟩],some (2,false)⟩ hS8 ?_;simp only [Act.put,sA,s0,sS]
        refine tk 10 ⟨some 46,.load 3 (.tmp 5),3, "grower.go:47",#[⟨2,.guard⟩],some (2,false)⟩ hS8 ?_;simp only [Act.put,sA,s0,sS]
        refine tk 11 ⟨some 47,.indexAddr 130 (.tmp 45) (.tmp 46),0, "grower.go:47",#[⟨9,.data⟩,⟨10,.data⟩,⟨2,.guard⟩],some (2,false)⟩ hS8 ?_;simp only [Act.put,sA,s0,sS]
        refine tk 12 ⟨some 48,.load 39 (.tmp 47),39, "grower.go:47",#[⟨11,.data⟩,⟨2,.guard⟩],some (2,false)⟩ hS8 ?_;simp only [Act.put,sA,s0,sS]
        refine tk 13 ⟨some 49,.call ⟨.builtin .len,#[.tmp 48],#[39]⟩,3, "grower.go:47",#[⟨12,.data⟩,⟨2,.guard⟩],some (2,false)⟩ hS8 ?_;simp only [Act.put,sA,s0,sS]
        refine tk 14 ⟨some 50,.binOp .eql 3 (.tmp 49) (.const (.int .i64 0)) 3,4, "grower.go:47",#[⟨13,.data⟩,⟨2,.guard⟩],some (2,false)⟩ hS8 ?_;simp only [Act.put,sA,s0,sS]
        refine tk 15 ⟨some 51,.pick (.tmp 38) (.const (.bool true)) (.tmp 50),4, "grower.go:47",#[⟨2,.data⟩,⟨14,.data⟩],none⟩ hS8 ?_;simp only [Act.put,sA,s0,sS]
        refine wpAnyL_done (by kernel_rfl) ?_ _
        gi_wp2
        exact ⟨maxI+1 - (k+1),by unfold maxI; omega,_,_,_,_,_,_,_,_,_,_,_,_,_,_,_,_,_,_,_,_,_,_,_,_,_,_,_,_,_,_,_,_,_,_,_,_,_,_,_,_,_,_,_,_,_,_,_,_,_,_,_,_,_,_,_,_,_,Ds,k+1,L,C,S,_,rfl,rfl,HINV⟩
      · have hP1:((PL.length:Int) == 0)=false:=beq_eq_false_iff_ne.2 (by omega)
        gi_wp2
        refine wpIn_wide.2 ?_
        refine wp_region_L (fun W=>W.cell? ⟨w.heap.size,0,none⟩=some (.pointer (some ⟨G,0,none⟩))∧W.cell? ⟨G,0,none⟩=some (.pointer (some ⟨V,0,none⟩))∧W.cell? ⟨V,5,none⟩=some (.slice (some ⟨pb,po,none⟩) f.n pc')∧W.cell? ⟨pb,po+s,none⟩=some (.slice ra PL.length rc)∧W.cell? ⟨Y,0,none⟩=some (.int .i64 s)) 16 (by kernel_rfl) 16 rfl ?_
        refine tk 0 ⟨some 36,.move (.tmp 6),4, "grower.go:47",#[],none⟩ hS8 ?_;simp only [Act.put,sA,s0,sS]
        refine tk 1 ⟨some 37,.unOp .not 4 (.tmp 36),4, "grower.go:47",#[⟨0,.data⟩],none⟩ hS8 ?_;simp only [Act.put,sA,s0,sS]
        refine tk 2 ⟨some 38,.move (.tmp 37),4, "grower.go:47",#[⟨1,.data⟩],none⟩ hS8 ?_;simp only [Act.put,sA,s0,sS]
        refine tk 3 ⟨some 39,.load 158 (.tmp 1),158, "grower.go:47",#[⟨2,.guard⟩],some (2,false)⟩ hS8 ?_;simp only [Act.put,sA,s0,sS]
        refine tk 4 ⟨some 40,.nilCheck (.tmp 39),0, "grower.go:47",#[⟨3,.data⟩,⟨2,.guard⟩],some (2,false)⟩ hS8 ?_;simp only [Act.put,sA,s0,sS]
        refine tk 5 ⟨some 41,.fieldAddr 185 (.tmp 40) 0,0, "grower.go:47",#[⟨4,.data⟩,⟨2,.guard⟩],some (2,false)⟩ hS8 ?_;simp only [Act.put,sA,s0,sS]
        refine tk 6 ⟨some 42,.load 99 (.tmp 41),99, "grower.go:47",#[⟨5,.data⟩,⟨2,.guard⟩],some (2,false)⟩ hS8 ?_;simp only [Act.put,sA,s0,sS]
        refine tk 7 ⟨some 43,.nilCheck (.tmp 42),0, "grower.go:47",#[⟨6,.data⟩,⟨2,.guard⟩],some (2,false)⟩ hS8 ?_;simp only [Act.put,sA,s0,sS]
        refine tk 8 ⟨some 44,.fieldAddr 133 (.tmp 43) 3,0, "grower.go:47",#[⟨7,.data⟩,⟨2,.guard⟩],some (2,false)⟩ hS8 ?_;simp only [Act.put,sA,s0,sS]
        refine tk 9 ⟨some 45,.load 130 (.tmp 44),130, "grower.go:47",#[⟨8,.data⟩,⟨2,.guard⟩],some (2,false)⟩ hS8 ?_;simp only [Act.put,sA,s0,sS]
        refine tk 10 ⟨some 46,.load 3 (.tmp 5),3, "grower.go:47",#[⟨2,.guard⟩],some (2,false)⟩ hS8 ?_;simp only [Act.put,sA,s0,sS]
        refine tk 11 ⟨some 47,.indexAddr 130 (.tmp 45) (.tmp 46),0, "grower.go:47",#[⟨9,.data⟩,⟨10,.data⟩,⟨2,.guard⟩],some (2,false)⟩ hS8 ?_;simp only [Act.put,sA,s0,sS]
        refine tk 12 ⟨some 48,.load 39 (.tmp 47),39, "grower.go:47",#[⟨11,.data⟩,⟨2,.guard⟩],some (2,false)⟩ hS8 ?_;simp only [Act.put,sA,s0,sS]
        refine tk 13 ⟨some 49,.call ⟨.builtin .len,#[.tmp 48],#[39]⟩,3, "grower.go:47",#[⟨12,.data⟩,⟨2,.guard⟩],some (2,false)⟩ hS8 ?_;simp only [Act.put,sA,s0,sS]
        refine tk 14 ⟨some 50,.binOp .eql 3 (.tmp 49) (.const (.int .i64 0)) 3,4, "grower.go:47",#[⟨13,.data⟩,⟨2,.guard⟩],some (2,false)⟩ hS8 ?_;simp only [Act.put,sA,s0,sS]
        refine tk 15 ⟨some 51,.pick (.tmp 38) (.const (.bool true)) (.tmp 50),4, "grower.go:47",#[⟨2,.data⟩,⟨14,.data⟩],none⟩ hS8 ?_;simp only [Act.put,sA,s0,sS]
        refine wpAnyL_done (by kernel_rfl) ?_ _
        have B8:=B7.drew
        have hY8:W6.drew.cell? ⟨Y,0,none⟩=some (.int .i64 s):=hY7
        have hYl8:Y<W6.drew.heap.size:=hYl
        have HLK:=looks_any G (x0,x1,x2) W6.drew
        unfold valR at HLK
        simp only at HLK
        have c08:=(HSI.out _ B8).1
        have y08:=(HSI.out _ B8).2.2.2.2.2.1
        have y18:=(HSI.out _ B8).2.2.2.2.2.2.1
        have y28:=(HSI.out _ B8).2.2.2.2.2.2.2.1
        generalize W6.drew=Wd at *
        gi_wp2_with fail
        refine ⟨trivial,fun _=>by omega,?_⟩
        refine (callsIn_wide.2 HLK).mono ?_
        rintro e W7 ⟨rfl,ty7,rfl⟩
        have B9:Below W4.heap.size W4 ((Wd.alloc (Obj.cells #[.pointer (some ⟨G,0,none⟩)] ty7)).alloc (Obj.cells #[.int .i64 x0,.int .i64 x1,.int .i64 x2] 110)):=(B8.alloc B8.size _).alloc (by have:=B8.size; simp; omega) _
        have k1:((Wd.alloc (Obj.cells #[.pointer (some ⟨G,0,none⟩)] ty7)).alloc (Obj.cells #[.int .i64 x0,.int .i64 x1,.int .i64 x2] 110)).cell? ⟨Wd.heap.size,0,none⟩=some (.pointer (some ⟨G,0,none⟩)):=(((Below.refl _ (Wd.alloc (Obj.cells #[.pointer (some ⟨G,0,none⟩)] ty7))).alloc (Nat.le_refl _) _).cell (p:=⟨Wd.heap.size,0,none⟩) (IBox _ _ Wd).2.2).trans (IBox _ _ Wd).1
        have k2:=RBox.new (x0,x1,x2) 110 (Wd.alloc (Obj.cells #[.pointer (some ⟨G,0,none⟩)] ty7))
        rw [World.size_alloc] at k2
        have kY:((Wd.alloc (Obj.cells #[.pointer (some ⟨G,0,none⟩)] ty7)).alloc (Obj.cells #[.int .i64 x0,.int .i64 x1,.int .i64 x2] 110)).cell? ⟨Y,0,none⟩=some (.int .i64 s):=((((Below.refl _ Wd).alloc (Nat.le_refl _) _).alloc (by simp) _).cell (p:=⟨Y,0,none⟩) hYl8).trans hY8
        have hsz7:((Wd.alloc (Obj.cells #[.pointer (some ⟨G,0,none⟩)] ty7)).alloc (Obj.cells #[.int .i64 x0,.int .i64 x1,.int .i64 x2] 110)).heap.size=Wd.heap.size+2:=by simp
        have hYg:W4.heap.size≤Y:=by omega
        have hd4:=B8.size
        have hap:Apt (fun q=>q<Bi∨q=w.heap.size∨q∈Ds∨q=Y∨q=Wd.heap.size∨q=Wd.heap.size+1) Bi Bc Bb G (.slice (some ⟨g,0,none⟩) L.length lc) ((Wd.alloc (Obj.cells #[.pointer (some ⟨G,0,none⟩)] ty7)).alloc (Obj.cells #[.int .i64 x0,.int .i64 x1,.int .i64 x2] 110)):=by
          have hg:=HG4.out.lt
          refine ⟨fun q hq=>?_,fun q e hq=>?_⟩
          · rcases hq with hq | hq | hq | hq | hq | hq
            · exact (HAP4.out.next B9.size).1 q (.inl hq)
            · exact (HAP4.out.next B9.size).1 q (.inr (.inl hq))
            · exact (HAP4.out.next B9.size).1 q (.inr (.inr (.inl hq)))
            · omega
            · omega
            · omega
          · have hql:=World.ownsRow.lt HG4.out.own q e
            rcases hq with hq | hq | hq | hq | hq | hq
            · exact HAP4.out.2 q e (.inl hq)
            · exact HAP4.out.2 q e (.inr (.inl hq))
            · exact HAP4.out.2 q e (.inr (.inr (.inl hq)))
            · omega
            · omega
            · omega
        have HFIN:Hid (∀ (D:Nat) (L':List Ir) (C' S':List (Int × Int)) (lv':Value) (W':World),GInv f S0 Bi Bc Bb G V w.heap.size w (D :: Ds) (k+1) L' C' S' lv' W'→GInv f S0 Bi Bc Bb G V w.heap.size w (D :: Ds) (k+1) L' C' S' lv' W'):=fun _ _ _ _ _ _ h=>h
        have HA7:Hid (GS Bi Bc Bb G V (.slice (some ⟨g,0,none⟩) L.length lc) L C S ((Wd.alloc (Obj.cells #[.pointer (some ⟨G,0,none⟩)] ty7)).alloc (Obj.cells #[.int .i64 x0,.int .i64 x1,.int .i64 x2] 110))):=HG4.out.next B9
        have HM7:Hid (Mk Bi Ds ((Wd.alloc (Obj.cells #[.pointer (some ⟨G,0,none⟩)] ty7)).alloc (Obj.cells #[.int .i64 x0,.int .i64 x1,.int .i64 x2] 110))):=⟨HMK4.out.1,fun d hd=>⟨(HMK4.out.2 d hd).1,(B9.block d (HMK4.out.lt d hd)).trans (HMK4.out.2 d hd).2⟩⟩
        have c07:=(HSI.out _ B9).1
        have bv7:=hBV4.trans (B9.mono hBV4.size)
        have bw7:=hBw4.trans (B9.mono (by have:=hBw4.size; omega))
        have HK7:Hid (_∧_∧_∧_∧_∧_∧_):=And.intro k1 (And.intro k2 (And.intro kY (And.intro hap (And.intro c07 (And.intro bv7 bw7)))))
        clear k1 k2 kY hap c07 bv7 bw7 B9 B8 c08 y08 y18 y28 hY8 HLK hS8
        generalize (Wd.alloc (Obj.cells #[.pointer (some ⟨G,0,none⟩)] ty7)).alloc (Obj.cells #[.int .i64 x0,.int .i64 x1,.int .i64 x2] 110)=W8 at *
        gi_wp2
        refine grown_range n (by omega) f ⟨ta,tc,na,nc,pa,pc⟩ Le R wv Bi Bc Bb G V w.heap.size Wd.heap.size (Wd.heap.size+1) Y S0 Ds k s _ L C S (x0,x1,x2) w W8 HA7.out HV.out HFA.out HFE.out hwv HK7.out.2.2.2.2.2.1 HFP.out HGI.out.1 HGI.out.2.1 HGI.out.2.2 HNE.out HK7.out.2.2.2.1 HM7.out HK7.out.2.2.2.2.1 HK7.out.2.2.1 HK7.out.1 HK7.out.2.1 HK7.out.2.2.2.2.2.2 ?_
        intro D L' C' S' lv' W9 hinv
        have HI9:Hid (GInv f S0 Bi Bc Bb G V w.heap.size w (D :: Ds) (k+1) L' C' S' lv' W9):=hinv
        clear hinv HA7 HM7 HK7 HFIN
        gi_wp2
        exact ⟨maxI+1 - (k+1),by unfold maxI; omega,_,_,_,_,_,_,_,_,_,_,_,_,_,_,_,_,_,_,_,_,_,_,_,_,_,_,_,_,_,_,_,_,_,_,_,_,_,_,_,_,_,_,_,_,_,_,_,_,_,_,_,_,_,_,_,_,_,D :: Ds,k+1,L',C',S',_,rfl,rfl,HI9.out⟩
  · go_simp
    have B4:Below W4.heap.size W4 (W4.drew.alloc (Obj.cells #[.int .i64 0] 3)):=(Below.refl _ _).drew.alloc (Nat.le_refl _) _
    have hS4:=HSI.out _ B4
    refine hK.out _ _ (fun _=>hS4) ?_
    clear hK
    have hy4:(W4.drew.alloc (Obj.cells #[.int .i64 0] 3)).cell? ⟨W4.drew.heap.size,0,none⟩=some (.int .i64 0):=(IBox _ _ W4.drew).1
    have hf4:(W4.drew.alloc (Obj.cells #[.int .i64 0] 3)).frozen? ⟨W4.drew.heap.size,0,none⟩=false:=(IBox _ _ W4.drew).2.1
    have hl4:W4.heap.size<(W4.drew.alloc (Obj.cells #[.int .i64 0] 3)).heap.size:=(IBox _ _ W4.drew).2.2
    have hN4:=HNX.out _ B4
    refine wpAnyL_one' (i:=8) (o:=⟨some 33,.call ⟨.value (.func 38),#[.tmp 31,.tmp 32],#[50,110]⟩,111, "grower.go:46",#[⟨6,.data⟩,⟨7,.data⟩],none⟩) (by kernel_rfl) rfl rfl (fun K hK=>?_)
    go_simp
    refine hN4.mono ?_
    rintro e W5 ⟨rfl,hb5⟩
    have B5:Below W4.heap.size W4 W5:=B4.trans (hb5.mono B4.size)
    have hS5:=HSI.out _ B5
    have hy5:W5.cell? ⟨W4.heap.size,0,none⟩=some (.int .i64 0):=(hb5.cell (p:=⟨W4.heap.size,0,none⟩) hl4).trans hy4
    have hf5:W5.frozen? ⟨W4.heap.size,0,none⟩=false:=(World.frozen?_of_block (hb5.block _ hl4)).trans hf4
    refine hK.out _ _ (fun _=>hS5) ?_
    clear hK
    refine tk 9 ⟨some 24,.move (.tmp 33),111, "grower.go:46",#[⟨8,.data⟩],none⟩ hS5 ?_;simp only [Act.put,sA,s0,sS]
    refine tk 10 ⟨some 34,.extract (.tmp 24) 0,3, "grower.go:46",#[⟨9,.data⟩],none⟩ hS5 ?_;simp only [Act.put,sA,s0,sS]
    refine tk 11 ⟨some 35,.extract (.tmp 24) 1,4, "grower.go:46",#[⟨9,.data⟩,⟨13,.gcOnly .lateStores⟩],none⟩ hS5 ?_;simp only [Act.put,sA,s0,sS]
    refine wpAnyL_one' (i:=13) (o:=⟨none,.store 3 (.tmp 5) (.tmp 34),0, "grower.go:46",#[⟨12,.data⟩,⟨10,.data⟩,⟨8,.chain⟩,⟨0,.phase⟩,⟨1,.phase⟩,⟨2,.phase⟩,⟨3,.phase⟩,⟨4,.phase⟩,⟨5,.phase⟩,⟨6,.phase⟩,⟨7,.phase⟩,⟨8,.phase⟩,⟨9,.phase⟩,⟨10,.phase⟩,⟨11,.textOnly .lateStores⟩,⟨12,.phase⟩],none⟩) (by kernel_rfl) rfl rfl (fun K hK=>?_)
    go_simp
    have B7:Below W4.heap.size W4 (W5.setCell ⟨W4.heap.size,0,none⟩ (.int .i64 nz)):=B5.setCell (Nat.le_refl _) _
    have hS7:=HSI.out _ B7
    refine hK.out _ _ (fun _=>hS7) ?_
    clear hK
    refine wpAnyL_one' (i:=14) (o:=⟨some 6,.assign (.tmp 35),4, "grower.go:46",#[⟨11,.data⟩,⟨13,.chain⟩,⟨0,.phase⟩,⟨1,.phase⟩,⟨2,.phase⟩,⟨3,.phase⟩,⟨4,.phase⟩,⟨5,.phase⟩,⟨6,.phase⟩,⟨7,.phase⟩,⟨8,.phase⟩,⟨9,.phase⟩,⟨10,.phase⟩,⟨11,.phase⟩,⟨12,.phase⟩,⟨13,.phase⟩],none⟩) (by kernel_rfl) rfl rfl (fun K hK=>?_)
    go_simp
    refine hK.out _ _ (fun _=>hS7) ?_
    clear hK
    refine wpAnyL_done (by kernel_rfl) ?_ _
    have hY7:(W5.setCell ⟨W4.heap.size,0,none⟩ (.int .i64 nz)).cell? ⟨W4.heap.size,0,none⟩=some (.int .i64 nz):=World.cell?_setCell_same _ _ _ hy5
    have hYl:W4.heap.size<(W5.setCell ⟨W4.heap.size,0,none⟩ (.int .i64 nz)).heap.size:=World.block_lt_of_cell? _ _ hY7
    clear hS4 hS5 hS7 hb5 hS0 hy4 hf4 hy5 hf5 hN4 B4 hl4
    generalize W5.setCell ⟨W4.heap.size,0,none⟩ (.int .i64 nz)=W6 at *
    have HINV0:Hid (∀ W6',Below W4.heap.size W4 W6'→GI f S0 L C S (k+1)→GInv f S0 Bi Bc Bb G V w.heap.size w Ds (k+1) L C S (.slice (some ⟨g,0,none⟩) L.length lc) W6'):=fun W6' hb hgi=>⟨HG4.out.next hb,hgi,⟨fun q hq=>(HAP4.out.next hb.size).1 q (hq.imp id (fun h=>h.imp id .inl)),fun q e hq=>HAP4.out.2 q e (hq.imp id (fun h=>h.imp id .inl))⟩,⟨HMK4.out.1,fun d hd=>⟨(HMK4.out.2 d hd).1,(hb.block d (HMK4.out.lt d hd)).trans (HMK4.out.2 d hd).2⟩⟩,(HSI.out _ hb).1,hBw4.trans (hb.mono (by have:=hBw4.size; omega)),hLp⟩
    cases nx with
    | none =>
      obtain ⟨h1,h2⟩:=HNZ.out
      simp only [Option.getD_none,Option.isSome_none] at h1 h2
      subst h1 h2
      have HINV:=HINV0.out _ B7.drew (HGI.out.1.skip HGI.out.2.1 (fun s q p hs=>by rw [HNE.out] at hs; cases hs))
      have hS8:=B7.drew
      gi_wp2
      refine wpIn_wide.2 ?_
      refine wp_region_L (fun W=>Below W4.heap.size W4 W) 16 (by kernel_rfl) 16 rfl ?_
      refine tk 0 ⟨some 36,.move (.tmp 6),4, "grower.go:47",#[],none⟩ hS8 ?_;simp only [Act.put,sA,s0,sS]
      refine tk 1 ⟨some 37,.unOp .not 4 (.tmp 36),4, "grower.go:47",#[⟨0,.data⟩],none⟩ hS8 ?_;simp only [Act.put,sA,s0,sS]
      refine tk 2 ⟨some 38,.move (.tmp 37),4, "grower.go:47",#[⟨1,.data⟩],none⟩ hS8 ?_;simp only [Act.put,sA,s0,sS]
      refine tu 3 ⟨some 39,.load 158 (.tmp 1),158, "grower.go:47",#[⟨2,.guard⟩],some (2,false)⟩ hS8 ?_;simp only [Act.put,sA,s0,sS]
      refine tu 4 ⟨some 40,.nilCheck (.tmp 39),0, "grower.go:47",#[⟨3,.data⟩,⟨2,.guard⟩],some (2,false)⟩ hS8 ?_;simp only [Act.put,sA,s0,sS]
      refine tu 5 ⟨some 41,.fieldAddr 185 (.tmp 40) 0,0, "grower.go:47",#[⟨4,.data⟩,⟨2,.guard⟩],some (2,false)⟩ hS8 ?_;simp only [Act.put,sA,s0,sS]
      refine tu 6 ⟨some 42,.load 99 (.tmp 41),99, "grower.go:47",#[⟨5,.data⟩,⟨2,.guard⟩],some (2,false)⟩ hS8 ?_;simp only [Act.put,sA,s0,sS]
      refine tu 7 ⟨some 43,.nilCheck (.tmp 42),0, "grower.go:47",#[⟨6,.data⟩,⟨2,.guard⟩],some (2,false)⟩ hS8 ?_;simp only [Act.put,sA,s0,sS]
      refine tu 8 ⟨some 44,.fieldAddr 133 (.tmp 43) 3,0, "grower.go:47",#[⟨7,.data⟩,⟨2,.guard⟩],some (2,false)⟩ hS8 ?_;simp only [Act.put,sA,s0,sS]
      refine tu 9 ⟨some 45,.load 130 (.tmp 44),130, "grower.go:47",#[⟨8,.data⟩,⟨2,.guard⟩],some (2,false)⟩ hS8 ?_;simp only [Act.put,sA,s0,sS]
      refine tu 10 ⟨some 46,.load 3 (.tmp 5),3, "grower.go:47",#[⟨2,.guard⟩],some (2,false)⟩ hS8 ?_;simp only [Act.put,sA,s0,sS]
      refine tu 11 ⟨some 47,.indexAddr 130 (.tmp 45) (.tmp 46),0, "grower.go:47",#[⟨9,.data⟩,⟨10,.data⟩,⟨2,.guard⟩],some (2,false)⟩ hS8 ?_;simp only [Act.put,sA,s0,sS]
      refine tu 12 ⟨some 48,.load 39 (.tmp 47),39, "grower.go:47",#[⟨11,.data⟩,⟨2,.guard⟩],some (2,false)⟩ hS8 ?_;simp only [Act.put,sA,s0,sS]
      refine tu 13 ⟨some 49,.call ⟨.builtin .len,#[.tmp 48],#[39]⟩,3, "grower.go:47",#[⟨12,.data⟩,⟨2,.guard⟩],some (2,false)⟩ hS8 ?_;simp only [Act.put,sA,s0,sS]
      refine tu 14 ⟨some 50,.binOp .eql 3 (.tmp 49) (.const (.int .i64 0)) 3,4, "grower.go:47",#[⟨13,.data⟩,⟨2,.guard⟩],some (2,false)⟩ hS8 ?_;simp only [Act.put,sA,s0,sS]
      refine tk 15 ⟨some 51,.pick (.tmp 38) (.const (.bool true)) (.tmp 50),4, "grower.go:47",#[⟨2,.data⟩,⟨14,.data⟩],none⟩ hS8 ?_;simp only [Act.put,sA,s0,sS]
      refine wpAnyL_done (by kernel_rfl) ?_ _
      gi_wp2
      exact ⟨maxI+1 - (k+1),by unfold maxI; omega,_,_,_,_,_,_,_,_,_,_,_,_,_,_,_,_,_,_,_,_,_,_,_,_,_,_,_,_,_,_,_,_,_,_,_,_,_,_,_,_,_,_,_,_,_,_,_,_,_,_,_,_,_,_,_,_,_,Ds,k+1,L,C,S,_,rfl,rfl,HINV⟩
    | some z =>
      obtain ⟨h1,h2⟩:=HNZ.out
      simp only [Option.getD_some,Option.isSome_some] at h1 h2
      subst h1 h2
      have hzl:=nextI_lt HFP.out HNE.out
      obtain ⟨s,rfl⟩:∃ s:Nat,z=s:=⟨z.toNat,by omega⟩
      have hs:s<f.n:=by omega
      have hsI:(s:Int)<f.n:=by omega
      obtain ⟨_,ve,vf,vp,v3,v4,v5,v6,v7,v8⟩:=HV.out
      obtain ⟨pa',pc',rfl,hrows,_⟩:=v8
      rw [ofsL_len] at v5
      obtain ⟨pb,po,u,rfl,hpb,hrc,hru⟩:=hrows s _ (ofsL_get hs)
      obtain ⟨PL,hPL⟩:∃ PL,ofA f (s:Int)=PL:=⟨_,rfl⟩
      rw [hPL] at hru
      obtain ⟨ra,rc,rfl,hrow,_⟩:=hru
      have HS6:Hid (∀ W',Below W4.heap.size W4 W'→W'.cell? ⟨W4.heap.size,0,none⟩=some (.int .i64 s)→(W'.cell? ⟨w.heap.size,0,none⟩=some (.pointer (some ⟨G,0,none⟩))∧W'.cell? ⟨G,0,none⟩=some (.pointer (some ⟨V,0,none⟩))∧W'.cell? ⟨V,5,none⟩=some (.slice (some ⟨pb,po,none⟩) f.n pc')∧W'.cell? ⟨pb,po+s,none⟩=some (.slice ra PL.length rc)∧W'.cell? ⟨W4.heap.size,0,none⟩=some (.int .i64 s))):=fun W' hb hy=>by
        have hbv:=hBV4.trans (hb.mono hBV4.size)
        have h5:=HSI.out _ hb
        exact ⟨h5.1,h5.2.1,(hbv.cell (p:=⟨V,5,none⟩) hVl).trans v5,(hbv.cell (p:=⟨pb,po+s,none⟩) hpb).trans hrc,hy⟩
      have hS8:=HS6.out W6.drew B7.drew hY7
      have HPL:Hid (ofA f (s:Int)=PL):=hPL
      clear hPL hrows hrow hrc v3 v4 v5 v6 v7
      rcases Nat.eq_zero_or_pos PL.length with hP0 | hP0
      · have HINV:=HINV0.out _ B7.drew (HGI.out.1.skip HGI.out.2.1 (fun s' q p hs' hq hl=>by
          rw [HNE.out] at hs'
          cases hs'
          have hm:(q:Int)∈ofA f (s:Int):=mem_ofA.2 ⟨q,p,rfl,hq,hl⟩
          rw [HPL.out,List.eq_nil_of_length_eq_zero hP0] at hm
          cases hm))
        have hP1:((PL.length:Int) == 0)=true:=by rw [hP0]; rfl
        gi_wp2
        refine wpIn_wide.2 ?_
        refine wp_region_L (fun W=>W.cell? ⟨w.heap.size,0,none⟩=some (.pointer (some ⟨G,0,none⟩))∧W.cell? ⟨G,0,none⟩=some (.pointer (some ⟨V,0,none⟩))∧W.cell? ⟨V,5,none⟩=some (.slice (some ⟨pb,po,none⟩) f.n pc')∧W.cell? ⟨pb,po+s,none⟩=some (.slice ra PL.length rc)∧W.cell? ⟨W4.heap.size,0,none⟩=some (.int .i64 s)) 16 (by kernel_rfl) 16 rfl ?_
        refine tk 0 ⟨some 36,.move (.tmp 6),4, "grower.go:47",#[],none⟩ hS8 ?_;simp only [Act.put,sA,s0,sS]
        refine tk 1 ⟨some 37,.unOp .not 4 (.tmp 36),4, "grower.go:47",#[⟨0,.data⟩],none⟩ hS8 ?_;simp only [Act.put,sA,s0,sS]
        refine tk 2 ⟨some 38,.move (.tmp 37),4, "grower.go:47",#[⟨1,.data⟩],none⟩ hS8 ?_;simp only [Act.put,sA,s0,sS]
        refine tk 3 ⟨some 39,.load 158 (.tmp 1),158, "grower.go:47",#[⟨2,.guard⟩],some (2,false)⟩ hS8 ?_;simp only [Act.put,sA,s0,sS]
        refine tk 4 ⟨some 40,.nilCheck (.tmp 39),0, "grower.go:47",#[⟨3,.data⟩,⟨2,.guard⟩],some (2,false)⟩ hS8 ?_;simp only [Act.put,sA,s0,sS]
        refine tk 5 ⟨some 41,.fieldAddr 185 (.tmp 40) 0,0, "grower.go:47",#[⟨4,.data⟩,⟨2,.guard⟩],some (2,false)⟩ hS8 ?_;simp only [Act.put,sA,s0,sS]
        refine tk 6 ⟨some 42,.load 99 (.tmp 41),99, "grower.go:47",#[⟨5,.data⟩,⟨2,.guard⟩],some (2,false)⟩ hS8 ?_;simp only [Act.put,sA,s0,sS]
        refine tk 7 ⟨some 43,.nilCheck (.tmp 42),0, "grower.go:47",#[⟨6,.data⟩,⟨2,.guard⟩],some (2,false)⟩ hS8 ?_;simp only [Act.put,sA,s0,sS]
        refine tk 8 ⟨some 44,.fieldAddr 133 (.tmp 43) 3,0, "grower.go:47",#[⟨7,.data⟩,⟨2,.guard⟩],some (2,false)⟩ hS8 ?_;simp only [Act.put,sA,s0,sS]
        refine tk 9 ⟨some 45,.load 130 (.tmp 44),130, "grower.go:47",#[⟨8,.data⟩,⟨2,.guard⟩],some (2,false)⟩ hS8 ?_;simp only [Act.put,sA,s0,sS]
        refine tk 10 ⟨some 46,.load 3 (.tmp 5),3, "grower.go:47",#[⟨2,.guard⟩],some (2,false)⟩ hS8 ?_;simp only [Act.put,sA,s0,sS]
        refine tk 11 ⟨some 47,.indexAddr 130 (.tmp 45) (.tmp 46),0, "grower.go:47",#[⟨9,.data⟩,⟨10,.data⟩,⟨2,.guard⟩],some (2,false)⟩ hS8 ?_;simp only [Act.put,sA,s0,sS]
        refine tk 12 ⟨some 48,.load 39 (.tmp 47),39, "grower.go:47",#[⟨11,.data⟩,⟨2,.guard⟩],some (2,false)⟩ hS8 ?_;simp only [Act.put,sA,s0,sS]
        refine tk 13 ⟨some 49,.call ⟨.builtin .len,#[.tmp 48],#[39]⟩,3, "grower.go:47",#[⟨12,.data⟩,⟨2,.guard⟩],some (2,false)⟩ hS8 ?_;simp only [Act.put,sA,s0,sS]
        refine tk 14 ⟨some 50,.binOp .eql 3 (.tmp 49) (.const (.int .i64 0)) 3,4, "grower.go:47",#[⟨13,.data⟩,⟨2,.guard⟩],some (2,false)⟩ hS8 ?_;simp only [Act.put,sA,s0,sS]
        refine tk 15 ⟨some 51,.pick (.tmp 38) (.const (.bool true)) (.tmp 50),4, "grower.go:47",#[⟨2,.data⟩,⟨14,.data⟩],none⟩ hS8 ?_;simp only [Act.put,sA,s0,sS]
        refine wpAnyL_done (by kernel_rfl) ?_ _
        gi_wp2
        exact ⟨maxI+1 - (k+1),by unfold maxI; omega,_,_,_,_,_,_,_,_,_,_,_,_,_,_,_,_,_,_,_,_,_,_,_,_,_,_,_,_,_,_,_,_,_,_,_,_,_,_,_,_,_,_,_,_,_,_,_,_,_,_,_,_,_,_,_,_,_,Ds,k+1,L,C,S,_,rfl,rfl,HINV⟩
      · have hP1:((PL.length:Int) == 0)=false:=beq_eq_false_iff_ne.2 (by omega)
        gi_wp2
        refine wpIn_wide.2 ?_
        refine wp_region_L (fun W=>W.cell? ⟨w.heap.size,0,none⟩=some (.pointer (some ⟨G,0,none⟩))∧W.cell? ⟨G,0,none⟩=some (.pointer (some ⟨V,0,none⟩))∧W.cell? ⟨V,5,none⟩=some (.slice (some ⟨pb,po,none⟩) f.n pc')∧W.cell? ⟨pb,po+s,none⟩=some (.slice ra PL.length rc)∧W.cell? ⟨W4.heap.size,0,none⟩=some (.int .i64 s)) 16 (by kernel_rfl) 16 rfl ?_
        refine tk 0 ⟨some 36,.move (.tmp 6),4, "grower.go:47",#[],none⟩ hS8 ?_;simp only [Act.put,sA,s0,sS]
        refine tk 1 ⟨some 37,.unOp .not 4 (.tmp 36),4, "grower.go:47",#[⟨0,.data⟩],none⟩ hS8 ?_;simp only [Act.put,sA,s0,sS]
        refine tk 2 ⟨some 38,.move (.tmp 37),4, "grower.go:47",#[⟨1,.data⟩],none⟩ hS8 ?_;simp only [Act.put,sA,s0,sS]
        refine tk 3 ⟨some 39,.load 158 (.tmp 1),158, "grower.go:47",#[⟨2,.guard⟩],some (2,false)⟩ hS8 ?_;simp only [Act.put,sA,s0,sS]
        refine tk 4 ⟨some 40,.nilCheck (.tmp 39),0, "grower.go:47",#[⟨3,.data⟩,⟨2,.guard⟩],some (2,false)⟩ hS8 ?_;simp only [Act.put,sA,s0,sS]
        refine tk 5 ⟨some 41,.fieldAddr 185 (.tmp 40) 0,0, "grower.go:47",#[⟨4,.data⟩,⟨2,.guard⟩],some (2,false)⟩ hS8 ?_;simp only [Act.put,sA,s0,sS]
        refine tk 6 ⟨some 42,.load 99 (.tmp 41),99, "grower.go:47",#[⟨5,.data⟩,⟨2,.guard⟩],some (2,false)⟩ hS8 ?_;simp only [Act.put,sA,s0,sS]
        refine tk 7 ⟨some 43,.nilCheck (.tmp 42),0, "grower.go:47",#[⟨6,.data⟩,⟨2,.guard⟩],some (2,false)⟩ hS8 ?_;simp only [Act.put,sA,s0,sS]
        refine tk 8 ⟨some 44,.fieldAddr 133 (.tmp 43) 3,0, "grower.go:47",#[⟨7,.data⟩,⟨2,.guard⟩],some (2,false)⟩ hS8 ?_;simp only [Act.put,sA,s0,sS]
        refine tk 9 ⟨some 45,.load 130 (.tmp 44),130, "grower.go:47",#[⟨8,.data⟩,⟨2,.guard⟩],some (2,false)⟩ hS8 ?_;simp only [Act.put,sA,s0,sS]
        refine tk 10 ⟨some 46,.load 3 (.tmp 5),3, "grower.go:47",#[⟨2,.guard⟩],some (2,false)⟩ hS8 ?_;simp only [Act.put,sA,s0,sS]
        refine tk 11 ⟨some 47,.indexAddr 130 (.tmp 45) (.tmp 46),0, "grower.go:47",#[⟨9,.data⟩,⟨10,.data⟩,⟨2,.guard⟩],some (2,false)⟩ hS8 ?_;simp only [Act.put,sA,s0,sS]
        refine tk 12 ⟨some 48,.load 39 (.tmp 47),39, "grower.go:47",#[⟨11,.data⟩,⟨2,.guard⟩],some (2,false)⟩ hS8 ?_;simp only [Act.put,sA,s0,sS]
        refine tk 13 ⟨some 49,.call ⟨.builtin .len,#[.tmp 48],#[39]⟩,3, "grower.go:47",#[⟨12,.data⟩,⟨2,.guard⟩],some (2,false)⟩ hS8 ?_;simp only [Act.put,sA,s0,sS]
        refine tk 14 ⟨some 50,.binOp .eql 3 (.tmp 49) (.const (.int .i64 0)) 3,4, "grower.go:47",#[⟨13,.data⟩,⟨2,.guard⟩],some (2,false)⟩ hS8 ?_;simp only [Act.put,sA,s0,sS]
        refine tk 15 ⟨some 51,.pick (.tmp 38) (.const (.bool true)) (.tmp 50),4, "grower.go:47",#[⟨2,.data⟩,⟨14,.data⟩],none⟩ hS8 ?_;simp only [Act.put,sA,s0,sS]
        refine wpAnyL_done (by kernel_rfl) ?_ _
        have B8:=B7.drew
        have hY8:W6.drew.cell? ⟨W4.heap.size,0,none⟩=some (.int .i64 s):=hY7
        have hYl8:W4.heap.size<W6.drew.heap.size:=hYl
        have HLK:=looks_any G (x0,x1,x2) W6.drew
        unfold valR at HLK
        simp only at HLK
        have c08:=(HSI.out _ B8).1
        have y08:=(HSI.out _ B8).2.2.2.2.2.1
        have y18:=(HSI.out _ B8).2.2.2.2.2.2.1
        have y28:=(HSI.out _ B8).2.2.2.2.2.2.2.1
        generalize W6.drew=Wd at *
        gi_wp2_with fail
        refine ⟨trivial,fun _=>by omega,?_⟩
        refine (callsIn_wide.2 HLK).mono ?_
        rintro e W7 ⟨rfl,ty7,rfl⟩
        have B9:Below W4.heap.size W4 ((Wd.alloc (Obj.cells #[.pointer (some ⟨G,0,none⟩)] ty7)).alloc (Obj.cells #[.int .i64 x0,.int .i64 x1,.int .i64 x2] 110)):=(B8.alloc B8.size _).alloc (by have:=B8.size; simp; omega) _
        have k1:((Wd.alloc (Obj.cells #[.pointer (some ⟨G,0,none⟩)] ty7)).alloc (Obj.cells #[.int .i64 x0,.int .i64 x1,.int .i64 x2] 110)).cell? ⟨Wd.heap.size,0,none⟩=some (.pointer (some ⟨G,0,none⟩)):=(((Below.refl _ (Wd.alloc (Obj.cells #[.pointer (some ⟨G,0,none⟩)] ty7))).alloc (Nat.le_refl _) _).cell (p:=⟨Wd.heap.size,0,none⟩) (IBox _ _ Wd).2.2).trans (IBox _ _ Wd).1
        have k2:=RBox.new (x0,x1,x2) 110 (Wd.alloc (Obj.cells #[.pointer (some ⟨G,0,none⟩)] ty7))
        rw [World.size_alloc] at k2
        have kY:((Wd.alloc (Obj.cells #[.pointer (some ⟨G,0,none⟩)] ty7)).alloc (Obj.cells #[.int .i64 x0,.int .i64 x1,.int .i64 x2] 110)).cell? ⟨W4.heap.size,0,none⟩=some (.int .i64 s):=((((Below.refl _ Wd).alloc (Nat.le_refl _) _).alloc (by simp) _).cell (p:=⟨W4.heap.size,0,none⟩) hYl8).trans hY8
        have hsz7:((Wd.alloc (Obj.cells #[.pointer (some ⟨G,0,none⟩)] ty7)).alloc (Obj.cells #[.int .i64 x0,.int .i64 x1,.int .i64 x2] 110)).heap.size=Wd.heap.size+2:=by simp
        have hYg:W4.heap.size≤W4.heap.size:=by omega
        have hd4:=B8.size
        have hap:Apt (fun q=>q<Bi∨q=w.heap.size∨q∈Ds∨q=W4.heap.size∨q=Wd.heap.size∨q=Wd.heap.size+1) Bi Bc Bb G (.slice (some ⟨g,0,none⟩) L.length lc) ((Wd.alloc (Obj.cells #[.pointer (some ⟨G,0,none⟩)] ty7)).alloc (Obj.cells #[.int .i64 x0,.int .i64 x1,.int .i64 x2] 110)):=by
          have hg:=HG4.out.lt
          refine ⟨fun q hq=>?_,fun q e hq=>?_⟩
          · rcases hq with hq | hq | hq | hq | hq | hq
            · exact (HAP4.out.next B9.size).1 q (.inl hq)
            · exact (HAP4.out.next B9.size).1 q (.inr (.inl hq))
            · exact (HAP4.out.next B9.size).1 q (.inr (.inr (.inl hq)))
            · omega
            · omega
            · omega
          · have hql:=World.ownsRow.lt HG4.out.own q e
            rcases hq with hq | hq | hq | hq | hq | hq
            · exact HAP4.out.2 q e (.inl hq)
            · exact HAP4.out.2 q e (.inr (.inl hq))
            · exact HAP4.out.2 q e (.inr (.inr (.inl hq)))
            · omega
            · omega
            · omega
        have HFIN:Hid (∀ (D:Nat) (L':List Ir) (C' S':List (Int × Int)) (lv':Value) (W':World),GInv f S0 Bi Bc Bb G V w.heap.size w (D :: Ds) (k+1) L' C' S' lv' W'→GInv f S0 Bi Bc Bb G V w.heap.size w (D :: Ds) (k+1) L' C' S' lv' W'):=fun _ _ _ _ _ _ h=>h
        have HA7:Hid (GS Bi Bc Bb G V (.slice (some ⟨g,0,none⟩) L.length lc) L C S ((Wd.alloc (Obj.cells #[.pointer (some ⟨G,0,none⟩)] ty7)).alloc (Obj.cells #[.int .i64 x0,.int .i64 x1,.int .i64 x2] 110))):=HG4.out.next B9
        have HM7:Hid (Mk Bi Ds ((Wd.alloc (Obj.cells #[.pointer (some ⟨G,0,none⟩)] ty7)).alloc (Obj.cells #[.int .i64 x0,.int .i64 x1,.int .i64 x2] 110))):=⟨HMK4.out.1,fun d hd=>⟨(HMK4.out.2 d hd).1,(B9.block d (HMK4.out.lt d hd)).trans (HMK4.out.2 d hd).2⟩⟩
        have c07:=(HSI.out _ B9).1
        have bv7:=hBV4.trans (B9.mono hBV4.size)
        have bw7:=hBw4.trans (B9.mono (by have:=hBw4.size; omega))
        have HK7:Hid (_∧_∧_∧_∧_∧_∧_):=And.intro k1 (And.intro k2 (And.intro kY (And.intro hap (And.intro c07 (And.intro bv7 bw7)))))
        clear k1 k2 kY hap c07 bv7 bw7 B9 B8 c08 y08 y18 y28 hY8 HLK hS8
        generalize (Wd.alloc (Obj.cells #[.pointer (some ⟨G,0,none⟩)] ty7)).alloc (Obj.cells #[.int .i64 x0,.int .i64 x1,.int .i64 x2] 110)=W8 at *
        gi_wp2
        refine grown_range n (by omega) f ⟨ta,tc,na,nc,pa,pc⟩ Le R wv Bi Bc Bb G V w.heap.size Wd.heap.size (Wd.heap.size+1) W4.heap.size S0 Ds k s _ L C S (x0,x1,x2) w W8 HA7.out HV.out HFA.out HFE.out hwv HK7.out.2.2.2.2.2.1 HFP.out HGI.out.1 HGI.out.2.1 HGI.out.2.2 HNE.out HK7.out.2.2.2.1 HM7.out HK7.out.2.2.2.2.1 HK7.out.2.2.1 HK7.out.1 HK7.out.2.1 HK7.out.2.2.2.2.2.2 ?_
        intro D L' C' S' lv' W9 hinv
        have HI9:Hid (GInv f S0 Bi Bc Bb G V w.heap.size w (D :: Ds) (k+1) L' C' S' lv' W9):=hinv
        clear hinv HA7 HM7 HK7 HFIN
        gi_wp2
        exact ⟨maxI+1 - (k+1),by unfold maxI; omega,_,_,_,_,_,_,_,_,_,_,_,_,_,_,_,_,_,_,_,_,_,_,_,_,_,_,_,_,_,_,_,_,_,_,_,_,_,_,_,_,_,_,_,_,_,_,_,_,_,_,_,_,_,_,_,_,_,D :: Ds,k+1,L',C',S',_,rfl,rfl,HI9.out⟩
attribute [local go_sem] Oper.semAt_some
set_option maxHeartbeats 400000 in
theorem kernels_any (V:Nat) (la:Option Addr) (m lc:Nat) (w:World) :
    Calls Tryz.prog 60 #[.pointer (some ⟨V,0,none⟩),.slice la m lc] w fun e w'=>e=.returned (.func (.func 81) #[] #[.pointer (some ⟨w.heap.size,0,none⟩),.pointer (some ⟨w.heap.size+1,0,none⟩)])∧∃ ty ty',w'=(w.alloc (Obj.cells #[.pointer (some ⟨V,0,none⟩)] ty)).alloc (Obj.cells #[.slice la m lc] ty'):=by
  go_enter Tryz.func60,Tryz.ntmps60
  go_wp2_with fail
  go_ret
  exact ⟨rfl,_,_,rfl⟩
def OkK (KL:List (List Ir)) (Bk:Nat) (A:Nat→Prop) (pre:List (List Ir × Value)) (x:List Ir × Value) (W:World):Prop :=
  (pre.map (·.1)++[x.1]) <+: KL∧SlL x.1 x.2 W∧x.1≠[]∧(∀ ad n c,x.2=.slice (some ad) n c→A ad.block∧Bk≤ad.block)∧∃ ua uc,x.2=.slice ua x.1.length uc
theorem filter_take {Rs:List (List Ir)} {j:Nat} {K:List Ir} (h:Rs[j]?=some K):(Rs.take (j+1)).filter (fun K=>!K.isEmpty)=(Rs.take j).filter (fun K=>!K.isEmpty)++(if K=[] then [] else [K]):=by
  rw [List.take_add_one,h,List.filter_append]
  congr 1
  by_cases e:K=[]
  · rw [if_pos e,e]; rfl
  · rw [if_neg e]
    show List.filter _ [K]=[K]
    simp [e]
theorem take_prefix (Rs:List (List Ir)) (p:List Ir→Bool) (j:Nat):(Rs.take j).filter p <+: Rs.filter p:=by
  have h:=List.take_append_drop j Rs
  refine ⟨(Rs.drop j).filter p,?_⟩
  rw [← List.filter_append,h]
set_option maxRecDepth 100000 in
set_option maxHeartbeats 4000000 in
theorem kern1_gives (n:Nat) (hn:1≤n) (f:Fl) (a:FlA) (Le:List Bool) (R:List (List Int)) (V:Nat) (l:List Ir) (la:Option Addr) (lc K1 K2:Nat) (A0:Nat→Prop) (wv W:World) (hv:VwAt f a V Le R wv) (hf:FlAt f a wv) (hB:Below wv.heap.size wv W) (hp:FitP f)
    (hk1:W.cell? ⟨K1,0,none⟩=some (.pointer (some ⟨V,0,none⟩))) (hk2:W.cell? ⟨K2,0,none⟩=some (.slice la l.length lc)) (hl:SlL l (.slice la l.length lc) W) (hll:l.length≤maxI) (Bk:Nat) (hBk:Bk≤W.heap.size) :
    GivesW n Tryz.prog 81 #[.pointer (some ⟨K1,0,none⟩),.pointer (some ⟨K2,0,none⟩)] (fun x:List Ir × Value=>#[x.2]) (fun W W'=>W'=W) (fun xs=>xs.map (·.1)=kernsL f l) (OkK (kernsL f l) Bk) A0 (fun _=>True) W:=by
  intro lp J St hF hPre
  show CallsIn Fence.wide n Tryz.prog 81 #[.func (.yield lp) #[] #[],.pointer (some ⟨K1,0,none⟩),.pointer (some ⟨K2,0,none⟩)] W _
  have HF:Hid (FeedsW (n - 1) Tryz.prog lp (fun x:List Ir × Value=>#[x.2]) (OkK (kernsL f l) Bk) (fun _=>True) J St):=hF
  have HJ0:Hid (J A0 [] W):=hPre W rfl
  have HFP:Hid (FitP f):=hp
  have hn6:f.n≤600:=hp.size
  have hnp:0<f.n:=by have:=hp.nons; unfold Fl.n; omega
  obtain ⟨i0,hi0,hz0,hz1,hz2⟩:=info_parts infoSL
  obtain ⟨j0,hj0,hy0,hy1,hy2⟩:=info_parts infoLr
  have hK1l:=World.block_lt_of_cell? _ _ hk1
  unfold maxI at hll
  obtain ⟨hvb,ve,vf,vp,v3,v4,v5,v6,v7,v8⟩:=id hv
  obtain ⟨hVl,u0,u1,u2⟩:=hvb
  obtain ⟨pa',pc',rfl,_,_⟩:=v8
  rw [ofsL_len] at v5
  have HNX:Hid (∀ (x:Ir) (W':World),Below W.heap.size W W'→Calls Tryz.prog 38 #[a.val f,valR x] W' fun e w'=>e=.returned (.tuple #[.int .i64 ((nextI f x).getD 0),.bool (nextI f x).isSome])∧Below W'.heap.size W' w'):=fun x W' hb=>next_item f a x W' (hf.next (hB.trans (hb.mono hB.size))) hn6
  obtain ⟨ta,tc,na,nc,pa,pc⟩:=a
  simp only at u0 u1 u2
  unfold FlA.val valR at HNX
  simp only at HNX
  have HVW:Hid (∀ W',Below W.heap.size W W'→W'.cell? ⟨K1,0,none⟩=some (.pointer (some ⟨V,0,none⟩))∧W'.cell? ⟨V,0,none⟩=some (.slice ta f.terms.length tc)∧W'.cell? ⟨V,1,none⟩=some (.slice na f.nons.length nc)∧W'.cell? ⟨V,2,none⟩=some (.slice pa f.prods.length pc)):=fun W' hb=>by
    have hbv:=hB.trans (hb.mono hB.size)
    exact ⟨(hb.cell (p:=⟨K1,0,none⟩) hK1l).trans hk1,(hbv.cell (p:=⟨V,0,none⟩) hVl).trans u0,(hbv.cell (p:=⟨V,1,none⟩) hVl).trans u1,(hbv.cell (p:=⟨V,2,none⟩) hVl).trans u2⟩
  have w5:W.cell? ⟨V,5,none⟩=some (.slice pa' f.n pc'):=(hB.cell (p:=⟨V,5,none⟩) hVl).trans v5
  obtain ⟨_,_,e0,hI,_,_⟩:=hl
  cases e0
  have HI:Hid (∀ W',Below W.heap.size W W'→IrsAt l la W'):=fun W' hb=>hI.next hb
  have HK2:Hid (∀ W',Below W.heap.size W W'→W'.cell? ⟨K2,0,none⟩=some (.slice la l.length lc)):=fun W' hb=>(hb.cell (p:=⟨K2,0,none⟩) (World.block_lt_of_cell? _ _ hk2)).trans hk2
  have HFI:Hid (∀ x∈l,okR x):=hI.ok
  clear hF hPre hv hf hp hI u0 u1 u2 v3 v4 v5 v6 v7 hk2
  refine callsIn_of_wp Tryz.func81 rfl trivial ?_ rfl
  simp only [Tryz.ntmps81,List.size_toArray,List.length_cons,List.length_nil,Nat.reduceAdd,Nat.reduceSub,Array.replicate_succ,Array.replicate_zero,List.push_toArray,List.append_toArray,List.nil_append,List.cons_append]
  refine wpIn_wide.2 ?_
  obtain ⟨N,hN⟩:∃ N,f.n=N:=⟨_,rfl⟩
  have HN:Hid (f.n=N):=hN
  rw [hN] at w5 hn6 hnp
  clear hN
  go_wp2_with (at_make; refine wpList_make_full _ rfl _ _ 79 rfl W.heap.size 84 i0 _ 1 Tryz.underlying79 hi0 hz0 hz1 _ _ _ _ N rfl rfl rfl rfl (by rw [hz2]; omega) (by unfold maxLen; omega) (Nat.le_refl _) ?_)
  intro w1 hown hg
  have hlt1:W.heap.size<w1.heap.size:=(World.ownsRow.lt hown W.heap.size rfl).2
  have hown':w1.ownsRow W.heap.size 84 1 (.slice (some ⟨W.heap.size,0,none⟩) N N) N (madeCells #[Value.slice none 0 0] N).toList:=by simpa using hown
  have HBY:Hid (ByAt W.heap.size (rowsM f l 0) w1):=by
    rw [rowsM_zero,HN.out]; exact ByAt.made hown' hlt1
  have B1:Below W.heap.size W w1:=(Below.refl _ _).grown hg (Nat.le_refl _) (fun k e=>by cases e)
  have k2:=HK2.out _ B1
  clear hown hown' hg w5
  obtain ⟨G,hG⟩:∃ G,W.heap.size=G:=⟨_,rfl⟩
  have HG:Hid (W.heap.size=G):=hG
  rw [hG] at HBY hlt1
  rw [hG]
  clear hG
  go_wp2_with fail
  go_loopw [19] (fun i wr=>∃ (j:Nat),i=.int .i64 j∧j≤l.length∧ByAt G (rowsM f l j) wr∧Below W.heap.size W wr) (fun i _=>l.length - (intOf i).toNat)
  case atStart=>exact ⟨0,rfl,Nat.zero_le _,HBY.out,B1⟩
  case round =>
  clear HBY B1 k2 hlt1
  obtain ⟨j,rfl,hj,hby,B1⟩:=hrel
  have HBY:Hid (∀ W',Below wr.heap.size wr W'→ByAt G (rowsM f l j) W'):=fun W' hb=>hby.next hb
  have HIX:Hid (∀ s,s<f.n→∃ u,wr.cell? ⟨G,s,none⟩=some u∧∀ k,inB u k→k<wr.heap.size):=fun s hs=>by
    obtain ⟨u,g1,_,_,gq,_⟩:=hby.grow (rowsM_get hs)
    exact ⟨u,g1,fun k hk=>(gq.inb hk).2⟩
  have hGl:=hby.1
  have hsz:=B1.size
  clear hby
  by_cases hlt:j<l.length
  · obtain ⟨b,off,rfl,_,c0,c1,c2,hok⟩:=(HI.out _ B1).at (Below.refl _ _) hlt
    have HRN:Hid (nextI f l[j]=none→rowsM f l (j+1)=rowsM f l j):=rowsM_none hlt
    have HRS:Hid (∀ s:Nat,nextI f l[j]=some (s:Int)→s<f.n→rowsM f l (j+1)=(rowsM f l j).set s (movedL f (l.take j) (s:Int)++[(l[j].1,l[j].2.1+1,l[j].2.2)])):=fun s hs h=>rowsM_some hlt h hs
    have HDT:Hid (∀ z,nextI f l[j]=some z→0≤z∧z<(f.n:Int)∧0≤l[j].2.1∧l[j].2.1≤64):=fun z hz=>by
      have h1:=nextI_lt HFP.out hz
      have h2:=fitI_iff.1 (nextI_fit hz)
      have h3:=rightI_le HFP.out l[j].1
      omega
    generalize l[j]=x at *
    obtain ⟨x0,x1,x2⟩:=x
    simp only at c0 c1 c2 HRS HDT
    have Bx:Below wr.heap.size wr (wr.alloc (Obj.cells #[.int .i64 x0,.int .i64 x1,.int .i64 x2] 110)):=(Below.refl _ _).alloc (Nat.le_refl _) _
    have X0:=RBox.new (x0,x1,x2) 110 wr
    have B2:Below W.heap.size W (wr.alloc (Obj.cells #[.int .i64 x0,.int .i64 x1,.int .i64 x2] 110)):=B1.trans (Bx.mono hsz)
    go_wp2_with fail
    clear c0 c1 c2
    obtain ⟨hXl,y0,y1,y2⟩:=X0
    simp only at y0 y1 y2
    have hxf:Hid ((wr.alloc (Obj.cells #[.int .i64 x0,.int .i64 x1,.int .i64 x2] 110)).frozen? ⟨wr.heap.size,1,none⟩=false):=by
      show _=false
      simp
    obtain ⟨X,hX⟩:∃ X,wr.heap.size=X:=⟨_,rfl⟩
    rw [hX] at hXl y0 y1 y2 hGl hsz hxf HBY HIX Bx
    rw [hX]
    clear hX
    generalize wr.alloc (Obj.cells #[.int .i64 x0,.int .i64 x1,.int .i64 x2] 110)=W1 at *
    have HSX:Hid (∀ W',Below W1.heap.size W1 W'→(W'.cell? ⟨K1,0,none⟩=some (.pointer (some ⟨V,0,none⟩))∧W'.cell? ⟨V,0,none⟩=some (.slice ta f.terms.length tc)∧W'.cell? ⟨V,1,none⟩=some (.slice na f.nons.length nc)∧W'.cell? ⟨V,2,none⟩=some (.slice pa f.prods.length pc)∧W'.cell? ⟨X,0,none⟩=some (.int .i64 x0)∧W'.cell? ⟨X,1,none⟩=some (.int .i64 x1)∧W'.cell? ⟨X,2,none⟩=some (.int .i64 x2))):=fun W' hb=>by
      have h1:=HVW.out W' (B2.trans (hb.mono B2.size))
      exact ⟨h1.1,h1.2.1,h1.2.2.1,h1.2.2.2,(hb.cell (p:=⟨X,0,none⟩) hXl).trans y0,(hb.cell (p:=⟨X,1,none⟩) hXl).trans y1,(hb.cell (p:=⟨X,2,none⟩) hXl).trans y2⟩
    have hN1:=HNX.out (x0,x1,x2) W1.drew B2.drew
    simp only at hN1
    have HXF:=hxf
    clear hxf
    have hS0:=HSX.out _ (Below.refl _ W1).drew
    obtain ⟨nx,hnx⟩:∃ nx,nextI f (x0,x1,x2)=nx:=⟨_,rfl⟩
    rw [hnx] at hN1
    have HNE:Hid (nextI f (x0,x1,x2)=nx):=hnx
    obtain ⟨nz,hnz⟩:∃ nz,nx.getD 0=nz:=⟨_,rfl⟩
    obtain ⟨nb,hnb⟩:∃ nb,nx.isSome=nb:=⟨_,rfl⟩
    have HNZ:Hid (nx.getD 0=nz∧nx.isSome=nb):=⟨hnz,hnb⟩
    rw [hnz,hnb] at hN1
    clear hnx hnz hnb y0 y1 y2
    refine wp_region_L (fun W=>W.cell? ⟨K1,0,none⟩=some (.pointer (some ⟨V,0,none⟩))∧W.cell? ⟨V,0,none⟩=some (.slice ta f.terms.length tc)∧W.cell? ⟨V,1,none⟩=some (.slice na f.nons.length nc)∧W.cell? ⟨V,2,none⟩=some (.slice pa f.prods.length pc)∧W.cell? ⟨X,0,none⟩=some (.int .i64 x0)∧W.cell? ⟨X,1,none⟩=some (.int .i64 x1)∧W.cell? ⟨X,2,none⟩=some (.int .i64 x2)) 11 (by kernel_rfl) 11 rfl ?_
    refine tk 0 ⟨some 24,.load 99 (.tmp 1),99, "all.go:35",#[],none⟩ hS0 ?_;simp only [Act.put,sA,s0,sS]
    refine tk 1 ⟨some 25,.nilCheck (.tmp 24),0, "all.go:35",#[⟨0,.data⟩],none⟩ hS0 ?_;simp only [Act.put,sA,s0,sS]
    refine tk 2 ⟨some 26,.fieldAddr 133 (.tmp 25) 0,0, "all.go:35",#[⟨1,.data⟩],none⟩ hS0 ?_;simp only [Act.put,sA,s0,sS]
    refine tk 3 ⟨some 27,.load 50 (.tmp 26),50, "all.go:35",#[⟨2,.data⟩],none⟩ hS0 ?_;simp only [Act.put,sA,s0,sS]
    refine tk 4 ⟨some 28,.load 110 (.tmp 6),110, "all.go:35",#[],none⟩ hS0 ?_;simp only [Act.put,sA,s0,sS]
    refine wpAnyL_one' (i:=5) (o:=⟨some 29,.call ⟨.value (.func 38),#[.tmp 27,.tmp 28],#[50,110]⟩,111, "all.go:35",#[⟨3,.data⟩,⟨4,.data⟩],none⟩) (by kernel_rfl) rfl rfl (fun K hK=>?_)
    go_simp
    refine hN1.mono ?_
    rintro e W2 ⟨rfl,hb2⟩
    have B3:Below W1.heap.size W1 W2:=below_then (Below.refl _ _).drew hb2 (Nat.le_refl _)
    have hS2:=HSX.out _ B3
    refine hK.out _ _ (fun _=>hS2) ?_
    clear hK
    refine tk 6 ⟨some 23,.move (.tmp 29),111, "all.go:35",#[⟨5,.data⟩],none⟩ hS2 ?_;simp only [Act.put,sA,s0,sS]
    refine tk 7 ⟨some 30,.extract (.tmp 23) 0,3, "all.go:35",#[⟨6,.data⟩],none⟩ hS2 ?_;simp only [Act.put,sA,s0,sS]
    refine tk 8 ⟨some 31,.extract (.tmp 23) 1,4, "all.go:35",#[⟨6,.data⟩,⟨9,.gcOnly .lateStores⟩],none⟩ hS2 ?_;simp only [Act.put,sA,s0,sS]
    refine wpAnyL_one' (i:=9) (o:=⟨some 7,.assign (.tmp 30),3, "all.go:35",#[⟨7,.data⟩,⟨5,.chain⟩,⟨0,.phase⟩,⟨1,.phase⟩,⟨2,.phase⟩,⟨3,.phase⟩,⟨4,.phase⟩,⟨5,.phase⟩,⟨6,.phase⟩,⟨7,.phase⟩,⟨8,.textOnly .lateStores⟩],none⟩) (by kernel_rfl) rfl rfl (fun K hK=>?_)
    go_simp
    refine hK.out _ _ (fun _=>hS2) ?_
    clear hK
    refine wpAnyL_one' (i:=10) (o:=⟨some 8,.assign (.tmp 31),4, "all.go:35",#[⟨8,.data⟩,⟨9,.chain⟩,⟨0,.phase⟩,⟨1,.phase⟩,⟨2,.phase⟩,⟨3,.phase⟩,⟨4,.phase⟩,⟨5,.phase⟩,⟨6,.phase⟩,⟨7,.phase⟩,⟨8,.phase⟩,⟨9,.phase⟩],none⟩) (by kernel_rfl) rfl rfl (fun K hK=>?_)
    go_simp
    refine hK.out _ _ (fun _=>hS2) ?_
    clear hK
    refine wpAnyL_done (by kernel_rfl) ?_ _
    have BW:=B2.trans (B3.mono B2.size)
    have BR:Below X wr W2:=Bx.trans (B3.mono (by omega))
    have hs2:=B3.size
    have hx0:=hS2.2.2.2.2.1
    have hx1:=hS2.2.2.2.2.2.1
    have hx2:=hS2.2.2.2.2.2.2
    have hxf2:W2.frozen? ⟨X,1,none⟩=false:=(World.frozen?_of_block (B3.block _ hXl)).trans HXF.out
    clear HSX hS2 hS0 hN1 hb2 B3 B2 HXF Bx
    cases nx with
    | none =>
      obtain ⟨h1,h2⟩:=HNZ.out
      simp only [Option.getD_none,Option.isSome_none] at h1 h2
      subst h1 h2
      have HNEW:Hid (ByAt G (rowsM f l (j+1)) W2):=by rw [HRN.out HNE.out]; exact HBY.out _ BR
      clear HBY hx0 hx1 hx2 hxf2
      go_wp2_with fail
      exact ⟨⟨j+1,by go_num,by omega,HNEW.out,BW⟩,by simp [intOf]; omega⟩
    | some z =>
      obtain ⟨h1,h2⟩:=HNZ.out
      simp only [Option.getD_some,Option.isSome_some] at h1 h2
      subst h1 h2
      obtain ⟨hz1,hz2',hd1,hd2⟩:=HDT.out _ HNE.out
      obtain ⟨s,rfl⟩:∃ s:Nat,z=s:=⟨z.toNat,by omega⟩
      have hsn:s<f.n:=by omega
      rw [HN.out] at hz2'
      have HRS':=HRS.out s HNE.out hsn
      obtain ⟨u',hu',hux⟩:=HIX.out s hsn
      have B5:Below X wr (W2.setCell ⟨X,1,none⟩ (.int .i64 (x1+1))):=BR.setCell (Nat.le_refl _) _
      have BW5:Below W.heap.size W (W2.setCell ⟨X,1,none⟩ (.int .i64 (x1+1))):=BW.setCell (by simp only; omega) _
      obtain ⟨u,g1,g2,⟨ua,uc,rfl⟩,gq,gg⟩:=(HBY.out _ B5).grow (rowsM_get hsn)
      obtain rfl:u'=.slice ua (movedL f (l.take j) (s:Int)).length uc:=by
        have:=(B5.cell (p:=⟨G,s,none⟩) hGl).symm.trans g1
        rw [hu'] at this
        exact Option.some.inj this
      have hLl:(movedL f (l.take j) (s:Int)).length≤16000000:=by have:=movedL_len f (l.take j) (s:Int); rw [List.length_take] at this; omega
      have z0:(W2.setCell ⟨X,1,none⟩ (.int .i64 (x1+1))).cell? ⟨X,0,none⟩=some (.int .i64 x0):=(World.cell?_setCell_other _ _ _ _ (fun e=>by cases e)).trans hx0
      have z1:(W2.setCell ⟨X,1,none⟩ (.int .i64 (x1+1))).cell? ⟨X,1,none⟩=some (.int .i64 (x1+1)):=World.cell?_setCell_same _ _ _ hx1
      have z2:(W2.setCell ⟨X,1,none⟩ (.int .i64 (x1+1))).cell? ⟨X,2,none⟩=some (.int .i64 x2):=(World.cell?_setCell_other _ _ _ _ (fun e=>by cases e)).trans hx2
      have HGG:Hid _:=gg
      have HQ0:Hid _:=gq
      have HUX:Hid _:=hux
      clear gg gq hux HBY HIX hu'
      go_wp2_with fail
      clear hx0 hx1 hx2 hxf2 BR BW B5
      generalize W2.setCell ⟨X,1,none⟩ (.int .i64 (x1+1))=W5 at *
      generalize movedL f (l.take j) (s:Int)=Lr at *
      have hX5:X<W5.heap.size:=World.block_lt_of_cell? _ _ z0
      have hG5:G<W5.heap.size:=World.block_lt_of_cell? _ _ g1
      have HS7:Hid (∀ W',But (fun k=>(G<k∧inB (.slice ua Lr.length uc) k)∨W5.heap.size≤k) W5 W'→(W'.cell? ⟨G,s,none⟩=some (.slice ua Lr.length uc)∧W'.cell? ⟨X,0,none⟩=some (.int .i64 x0)∧W'.cell? ⟨X,1,none⟩=some (.int .i64 (x1+1))∧W'.cell? ⟨X,2,none⟩=some (.int .i64 x2))):=fun W' hb=>⟨(hb.cell (p:=⟨G,s,none⟩) hG5 (by simp only; omega)).trans g1,(hb.cell (p:=⟨X,0,none⟩) hX5 (fun h=>by rcases h with h | h; exact absurd (HUX.out _ h.2) (by simp); simp only at h; omega)).trans z0,(hb.cell (p:=⟨X,1,none⟩) hX5 (fun h=>by rcases h with h | h; exact absurd (HUX.out _ h.2) (by simp); simp only at h; omega)).trans z1,(hb.cell (p:=⟨X,2,none⟩) hX5 (fun h=>by rcases h with h | h; exact absurd (HUX.out _ h.2) (by simp); simp only at h; omega)).trans z2⟩
      have HSD:=HS7.out W5.drew (But.refl _ _).drew
      have Bn:Below W5.heap.size W5 (W5.drew.alloc (Obj.cells #[.int .i64 x0,.int .i64 (x1+1),.int .i64 x2] 110)):=(Below.refl _ _).drew.alloc (Nat.le_refl _) _
      have HSN:=HS7.out (W5.drew.alloc (Obj.cells #[.int .i64 x0,.int .i64 (x1+1),.int .i64 x2] 110)) (But.of_next Bn)
      have HQ:Hid (QRow (fun k=>(G<k∧inB (.slice ua Lr.length uc) k)∨W5.heap.size≤k) 3 (.slice ua Lr.length uc) Lr.length (Lr.flatMap encR) (W5.drew.alloc (Obj.cells #[.int .i64 x0,.int .i64 (x1+1),.int .i64 x2] 110))):=(show QRow (fun k=>(G<k∧inB (.slice ua Lr.length uc) k)∨W5.heap.size≤k) 3 (.slice ua Lr.length uc) Lr.length (Lr.flatMap encR) W5 from HQ0.out).next Bn
      have HD:Hid (∀ k,(W5.drew.alloc (Obj.cells #[.int .i64 x0,.int .i64 (x1+1),.int .i64 x2] 110)).heap.size≤k→(G<k∧inB (.slice ua Lr.length uc) k)∨W5.heap.size≤k):=fun k hk=>.inr (Nat.le_trans Bn.size hk)
      refine wp_region_L (fun W=>W.cell? ⟨G,s,none⟩=some (.slice ua Lr.length uc)∧W.cell? ⟨X,0,none⟩=some (.int .i64 x0)∧W.cell? ⟨X,1,none⟩=some (.int .i64 (x1+1))∧W.cell? ⟨X,2,none⟩=some (.int .i64 x2)) 10 (by kernel_rfl) 11 rfl ?_
      refine tk 0 ⟨some 37,.move (.tmp 4),79, "all.go:37",#[],none⟩ HSD ?_;simp only [Act.put,sA,s0,sS]
      refine tk 1 ⟨some 38,.move (.tmp 7),3, "all.go:37",#[],none⟩ HSD ?_;simp only [Act.put,sA,s0,sS]
      refine tk 2 ⟨some 39,.move (.tmp 4),79, "all.go:37",#[],none⟩ HSD ?_;simp only [Act.put,sA,s0,sS]
      refine tk 3 ⟨some 40,.move (.tmp 7),3, "all.go:37",#[],none⟩ HSD ?_;simp only [Act.put,sA,s0,sS]
      refine tk 4 ⟨some 41,.indexAddr 79 (.tmp 39) (.tmp 40),0, "all.go:37",#[⟨2,.data⟩,⟨3,.data⟩],none⟩ HSD ?_;simp only [Act.put,sA,s0,sS]
      refine tk 5 ⟨some 42,.load 84 (.tmp 41),84, "all.go:37",#[⟨4,.data⟩],none⟩ HSD ?_;simp only [Act.put,sA,s0,sS]
      refine tk 6 ⟨some 43,.load 110 (.tmp 6),110, "all.go:37",#[],none⟩ HSD ?_;simp only [Act.put,sA,s0,sS]
      refine wpAnyL_one' (i:=7) (o:=⟨some 44,.buildSlice 84 1 #[(0,.tmp 43)],84, "all.go:37",#[⟨6,.data⟩],none⟩) (by kernel_rfl) rfl rfl (fun K hK=>?_)
      go_simp
      refine hK.out _ _ (fun _=>HSN) ?_
      clear hK
      refine wpAnyL_one' (i:=8) (o:=⟨some 45,.call ⟨.builtin .append,#[.tmp 42,.tmp 44],#[84,84]⟩,84, "all.go:37",#[⟨5,.data⟩,⟨7,.data⟩],none⟩) (by kernel_rfl) rfl rfl (fun K hK=>?_)
      rw [if_pos (by rfl)]
      refine wp_append_q (.tmp 42) (.tmp 44) 84 rfl 110 j0 _ 3 24 Tryz.underlying84 hj0 hy0 hy1 hy2 rfl (by decide) rfl HQ.out HD.out ⟨W5.heap.size,0,none⟩ 1 (encR (x0,x1+1,x2)) rfl rfl (new_cellR W5.drew (x0,x1+1,x2) _) (one_encR _) (by unfold maxLen; omega) (by omega) ?_
      intro v6 w6 hq6 hb6
      have hS6:=HS7.out w6 ((But.of_next Bn).trans hb6)
      obtain ⟨e1,e2,e3,e4⟩:=HGG.out (x0,x1+1,x2) _ v6 w6 Bn hq6 hb6
      obtain ⟨va,vb,vo,vc,rfl,_,_⟩:=id hq6
      have HR:Hid (ByAt G (rowsM f l (j+1)) (w6.setCell ⟨G,s,none⟩ (.slice va (Lr.length+1) vc))∧Below W.heap.size W (w6.setCell ⟨G,s,none⟩ (.slice va (Lr.length+1) vc))):=⟨by rw [HRS']; exact e3,BW5.trans (e4.mono (by have:=HG.out; omega))⟩
      refine hK.out _ _ (fun _=>hS6) ?_
      clear hK hq6 hb6 e3 e4
      simp only [Act.put,sA,s0,sS]
      refine wpAnyL_one' (i:=9) (o:=⟨some 46,.indexAddr 79 (.tmp 37) (.tmp 38),0, "all.go:37",#[⟨0,.data⟩,⟨1,.data⟩,⟨0,.phase⟩,⟨1,.phase⟩,⟨2,.phase⟩,⟨3,.phase⟩,⟨4,.phase⟩,⟨5,.phase⟩,⟨6,.phase⟩,⟨7,.phase⟩,⟨8,.phase⟩],none⟩) (by kernel_rfl) rfl rfl (fun K hK=>?_)
      go_simp
      refine hK.out _ _ (fun _=>hS6) ?_
      clear hK
      refine wpAnyL_one' (i:=10) (o:=⟨none,.store 84 (.tmp 46) (.tmp 45),0, "all.go:37",#[⟨9,.data⟩,⟨8,.data⟩,⟨8,.chain⟩,⟨0,.phase⟩,⟨1,.phase⟩,⟨2,.phase⟩,⟨3,.phase⟩,⟨4,.phase⟩,⟨5,.phase⟩,⟨6,.phase⟩,⟨7,.phase⟩,⟨8,.phase⟩],none⟩) (by kernel_rfl) rfl rfl (fun K hK=>?_)
      go_simp
      refine hK.out _ _ (fun h=>absurd h (by decide)) ?_
      clear hK
      refine wpAnyL_done (by kernel_rfl) ?_ _
      clear HS7 HQ HD HSD HSN HGG HQ0 HUX hS6 e1 e2 z0 z1 z2 g1 g2 Bn BW5
      go_wp2_with fail
      exact ⟨⟨j+1,by go_num,by omega,HR.out.1,HR.out.2⟩,by simp [intOf]; omega⟩
  · obtain rfl:j=l.length:=by omega
    have hOKM:∀ (s:Nat) (K:List Ir),(rowsM f l l.length)[s]?=some K→∀ x∈K,okR x:=fun s K hK=>by
      have hs:s<f.n:=by have:=(List.getElem?_eq_some_iff.1 hK).1; rw [rowsM_len] at this; exact this
      rw [rowsM_get hs] at hK
      cases hK
      exact movedL_ok HFP.out
    have HROW:Hid (∀ s,s<N→∃ K ua uc,(rowsM f l l.length)[s]?=some K∧K.length≤16000000∧wr.cell? ⟨G,s,none⟩=some (.slice ua K.length uc)∧SlL K (.slice ua K.length uc) wr∧∀ ad,ua=some ad→K≠[]→G<ad.block∧ad.block<wr.heap.size):=fun s hs=>by
      have hK:=rowsM_get (f:=f) (l:=l) (j:=l.length) (s:=s) (by rw [HN.out]; exact hs)
      obtain ⟨ua,uc,k1,k2,k3⟩:=(HBY.out _ (Below.refl _ _)).row hK (hOKM s _ hK)
      exact ⟨_,ua,uc,hK,by have:=movedL_len f (l.take l.length) (s:Int); rw [List.length_take] at this; omega,k1,k2,k3⟩
    have HRL:Hid ((rowsM f l l.length).length=N):=by show _=_; rw [rowsM_len]; exact HN.out
    have HRA:Hid ((rowsM f l l.length).filter (fun K=>!K.isEmpty)=kernsL f l):=rowsM_all f l
    have HA1:Hid (J (fun k=>A0 k∨(W.heap.size≤k∧k<wr.heap.size)) [] wr):=HF.out.new _ _ _ _ HJ0.out B1
    have hWG:=HG.out
    clear HBY HIX HJ0 HNX HVW HK2 HI HFI
    generalize rowsM f l l.length=Rs at *
    generalize wr=wb at *
    obtain ⟨AA,hAA⟩:∃ AA:Nat→Prop,AA=fun k=>A0 k∨(W.heap.size≤k∧k<wb.heap.size):=⟨_,rfl⟩
    have HAA:Hid (∀ k,(G≤k∧k<wb.heap.size)→AA k):=fun k hk=>by rw [hAA]; exact .inr (by omega)
    have HA0:Hid (∀ k,A0 k→AA k):=fun k hk=>by rw [hAA]; exact .inl hk
    rw [← hAA] at HA1
    clear hAA
    go_wp2_with fail
    refine (wpIn_wide (n:=n)).1 ?_
    gi_wp2
    gi_loopw [50] (fun i w2=>∃ (s:Nat) (pre:List (List Ir × Value)),i=.int .i64 s∧s≤N∧pre.map (·.1)=(Rs.take s).filter (fun K=>!K.isEmpty)∧J AA pre w2∧But (fun k=>¬ AA k) wb w2) (fun i _=>N - (intOf i).toNat)
    case atStart=>exact ⟨0,[],rfl,Nat.zero_le _,rfl,HA1.out,But.refl _ _⟩
    case round =>
    obtain ⟨s,pre,rfl,hs,hpre,hJ,hbt⟩:=hrel
    have HPRE:Hid (pre.map (·.1)=(Rs.take s).filter (fun K=>!K.isEmpty)):=hpre
    have HJ:Hid (J AA pre _):=hJ
    clear hpre hJ HA1
    by_cases hlt:s<N
    · obtain ⟨K,ua,uc,hK,hKl,hcell,hsl,hua⟩:=HROW.out s hlt
      have hcl2:=(hbt.cell (p:=⟨G,s,none⟩) hGl (fun h=>h (HAA.out G ⟨Nat.le_refl _,hGl⟩))).trans hcell
      have HT:Hid ((Rs.take (s+1)).filter (fun K=>!K.isEmpty)=(Rs.take s).filter (fun K=>!K.isEmpty)++(if K=[] then [] else [K])):=filter_take hK
      by_cases hne:K=[]
      · subst hne
        simp only [List.length_nil] at hcl2
        have HN2:Hid (pre.map (·.1)=(Rs.take (s+1)).filter (fun K=>!K.isEmpty)):=by
          show _=_
          rw [HT.out,if_pos rfl,List.append_nil]; exact HPRE.out
        have HJ2:Hid (J AA pre _∧But (fun k=>¬ AA k) wb _):=And.intro HJ.out hbt
        clear hK hcell hsl hua HT hbt HJ HPRE
        gi_wp2
        refine And.intro (fun _ _=>trivial) ?_
        gi_wp2
        go_roundw
        case rel=>exact ⟨s+1,pre,by go_num,by omega,HN2.out,HJ2.out.1,HJ2.out.2⟩
        case measure=>simp [intOf]; omega
      · have hpos:0<K.length:=List.length_pos_iff.2 hne
        have hgt:decide ((K.length:Int) > 0)=true:=decide_eq_true (by omega)
        have HOK:OkK (kernsL f l) Bk AA pre (K,.slice ua K.length uc) _:=⟨by
            show pre.map (·.1)++[K] <+: kernsL f l
            rw [HPRE.out,← HRA.out]
            have:=take_prefix Rs (fun K=>!K.isEmpty) (s+1)
            rw [HT.out,if_neg hne] at this
            exact this,hsl.but hbt (fun ad n c e hne'=>by
              cases e
              exact fun h=>h (HAA.out _ (by have:=hua _ rfl hne; omega))),hne,fun ad n c e=>by
            cases e
            exact ⟨HAA.out _ (by have:=hua _ rfl hne; omega),by have:=hua _ rfl hne; omega⟩,ua,uc,rfl⟩
        obtain ⟨fn,tmps,assign,body,hy,hR⟩:=HF.out.yield AA pre (K,.slice ua K.length uc) _ HJ.out HOK
        have HN2:Hid ((pre++[(K,Value.slice ua K.length uc)]).map (·.1)=(Rs.take (s+1)).filter (fun K=>!K.isEmpty)):=by
          show _=_
          rw [HT.out,if_neg hne,List.map_append,HPRE.out]; rfl
        clear hK hcell hsl hua HT HJ HPRE HOK
        simp only at hy
        gi_wp2
        refine hR.mono ?_
        rintro e W3 (⟨rfl,hJ3,hB3⟩ | ⟨rfl,hSt⟩)
        · have HJ2:Hid (J AA (pre++[(K,Value.slice ua K.length uc)]) W3∧But (fun k=>¬ AA k) wb W3):=And.intro hJ3 (hbt.trans hB3)
          clear hJ3 hB3 hR hy hcl2 hbt
          gi_wp2
          go_roundw
          case rel=>exact ⟨s+1,_,by go_num,by omega,HN2.out,HJ2.out.1,HJ2.out.2⟩
          case measure=>simp [intOf]; omega
        · have HST:Hid (St W3):=hSt
          clear hSt hR hy hcl2 hbt
          gi_wp2
          refine bodyPost_ret (results_none rfl _ _ _) rfl ?_
          exact ⟨⟨_,rfl⟩,.inr HST.out⟩
    · obtain rfl:s=N:=by omega
      have HFI:Hid (pre.map (·.1)=kernsL f l∧J A0 pre _):=⟨by
        rw [HPRE.out,← HRA.out,List.take_of_length_le (by rw [HRL.out]; exact Nat.le_refl _)],HF.out.less _ _ _ _ HJ.out HA0.out⟩
      clear HPRE HJ hbt HROW
      gi_wp2
      go_end0
      exact ⟨⟨_,rfl⟩,.inl ⟨pre,HFI.out.1,HFI.out.2⟩⟩
end Go.Proofs.YtiamjafecbpfpaaGreatDoor
namespace Go.Proofs.YtiamjafecbpfpaaGreatDoor
open Go.RowKit
def OwnZ (E:Nat→Prop) (R:List (List Ir)) (v:Value) (W:World):Prop :=
  ∃ hv:List Value,hv.length=R.length∧QRow (fun k=>inB v k) 1 v R.length hv W∧∀ (i:Nat) (l:List Ir) (u:Value),R[i]?=some l→hv[i]?=some u→SlL l u W∧∀ ad n c,u=.slice (some ad) n c→l≠[]→E ad.block
theorem OwnZ.inLt {E:Nat→Prop} {R:List (List Ir)} {v:Value} {W:World} (h:OwnZ E R v W) {k:Nat} (hk:inB v k):k<W.heap.size:=by
  obtain ⟨hv,_,hq,_⟩:=h; exact (hq.inb hk).2
theorem OwnZ.shape {E:Nat→Prop} {R:List (List Ir)} {v:Value} {W:World} (h:OwnZ E R v W):∃ ao cap,v=.slice ao R.length cap:=by
  obtain ⟨hv,_,hq,_⟩:=h; exact hq.shape
theorem OwnZ.keep {E D:Nat→Prop} {R:List (List Ir)} {v:Value} {W W':World} (h:OwnZ E R v W) (hb:But D W W') (hv:∀ k,inB v k→¬ D k) (hE:∀ k,k<W.heap.size→D k→(∀ off u,W.cell? ⟨k,off,none⟩≠some u)∨¬ E k):OwnZ E R v W':=by
  obtain ⟨hs,h0,hq,h2⟩:=h
  refine ⟨hs,h0,hq.but hb hv,fun i l u hl hu=>⟨(h2 i l u hl hu).1.but hb (fun ad n c e hne hd=>?_),(h2 i l u hl hu).2⟩⟩
  have hsl:=(h2 i l u hl hu).1
  have he:=(h2 i l u hl hu).2 ad n c e hne
  subst e
  rcases hE _ (hsl.lt hne) hd with h | h
  · obtain ⟨ao,cap,e0,h1,_⟩:=hsl
    cases e0
    obtain ⟨x,l',rfl⟩:=List.exists_cons_of_ne_nil hne
    obtain ⟨b,off,e,_,c0,_⟩:=h1 0 x rfl
    cases e
    exact h _ _ c0
  · exact h he
theorem OwnZ.next {E:Nat→Prop} {R:List (List Ir)} {v:Value} {W W':World} (h:OwnZ E R v W) (hb:Below W.heap.size W W'):OwnZ E R v W' :=
  h.keep (D:=fun _=>False) (But.of_next hb) (fun _ _ h=>h) (fun _ _ h=>h.elim)
theorem OwnZ.nil (E:Nat→Prop) (W:World):OwnZ E [] (.slice none 0 0) W:=⟨[],rfl,QRow.nil _ _ _,fun i l u h=>by simp at h⟩
theorem OwnZ.sl {E:Nat→Prop} {R:List (List Ir)} {v:Value} {W:World} (h:OwnZ E R v W):SlLL R v W:=by
  obtain ⟨hv,h0,⟨ao,b,off,cap,rfl,hc,_⟩,h2⟩:=h
  refine ⟨ao,cap,rfl,fun i l hl=>?_,fun hn=>?_,hc.le⟩
  · have hi:i<R.length:=(List.getElem?_eq_some_iff.1 hl).1
    have hcp:0<cap:=by have:=hc.le; omega
    have hu:hv[i]?=some hv[i]:=by simp [h0,hi]
    exact ⟨b,off,hv[i],hc.addr hcp,hc.lt hcp,hc.olds i _ hu,(h2 i l _ hl hu).1⟩
  · rcases Nat.eq_zero_or_pos cap with h | h
    · exact h
    · rw [hn] at hc; have:=hc.addr h; cases this
theorem OwnZ.one {E:Nat→Prop} {lv:Value} {l:List Ir} {W:World} {ty:TypeId} (hl:SlL l lv W) (hE:∀ ad n c,lv=.slice (some ad) n c→l≠[]→E ad.block):OwnZ E [l] (.slice (some ⟨W.heap.size,0,none⟩) 1 1) (W.alloc (Obj.cells #[lv] ty)):=by
  have hb:Below W.heap.size W (W.alloc (Obj.cells #[lv] ty)):=(Below.refl _ _).alloc (Nat.le_refl _) _
  have h0:(W.alloc (Obj.cells #[lv] ty)).cell? ⟨W.heap.size,0,none⟩=some lv:=by simp
  refine ⟨[lv],rfl,⟨_,W.heap.size,0,1,rfl,⟨Nat.le_refl _,fun _=>rfl,fun _=>by simp,rfl,fun j u hj=>?_,fun j hj=>by simp at hj⟩,fun _=>⟨0,1,1,rfl,by omega⟩⟩,fun i l' u hl' hu=>?_⟩
  · rcases j with _ | j
    · simp at hj; subst hj; exact h0
    · simp at hj
  · rcases i with _ | i
    · simp at hl' hu; subst hl' hu
      exact ⟨hl.next hb,hE⟩
    · simp at hl'
theorem OwnZ.grow {E E':Nat→Prop} {R:List (List Ir)} {v lv:Value} {l:List Ir} {W:World} (h:OwnZ E R v W) (hl:SlL l lv W) (hE:∀ k,E k→E' k) (hlv:∀ ad n c,lv=.slice (some ad) n c→l≠[]→E' ad.block) (hEv:∀ k,E' k→¬ inB v k∧k<W.heap.size) :
    ∃ hv,QRow (fun k=>inB v k∨W.heap.size≤k) 1 v R.length hv W∧∀ v' W',QRow (fun k=>inB v k∨W.heap.size≤k) 1 v' (R.length+1) (hv++[lv]) W'→But (fun k=>inB v k∨W.heap.size≤k) W W'→OwnZ E' (R++[l]) v' W'∧∀ k,inB v' k→inB v k∨W.heap.size≤k:=by
  obtain ⟨hv,h0,hq,h2⟩:=h
  refine ⟨hv,hq.mono (fun k _ hk=>.inl hk),fun v' W' hq' hb=>⟨⟨hv++[lv],by simp [h0],?_,fun i l' u hl' hu=>?_⟩,fun k hk=>(hq'.inb hk).1⟩⟩
  · have:=hq'.exact.mono (E:=fun k=>inB v' k) (fun k _ hk=>hk.2.1)
    simpa using this
  · have key:SlL l' u W∧∀ ad n c,u=.slice (some ad) n c→l'≠[]→E' ad.block:=by
      rcases Nat.lt_or_ge i R.length with hi | hi
      · rw [List.getElem?_append_left hi] at hl'
        rw [List.getElem?_append_left (by omega)] at hu
        exact ⟨(h2 i l' u hl' hu).1,fun ad n c e hne=>hE _ ((h2 i l' u hl' hu).2 ad n c e hne)⟩
      · rw [List.getElem?_append_right hi] at hl'
        rw [List.getElem?_append_right (by omega),h0] at hu
        rcases hj:i - R.length with _ | j
        · rw [hj] at hl' hu; simp at hl' hu; subst hl' hu; exact ⟨hl,hlv⟩
        · rw [hj] at hl'; simp at hl'
    refine ⟨key.1.but hb (fun ad n c e hne hd=>?_),key.2⟩
    have:=hEv _ (key.2 ad n c e hne)
    rcases hd with hd | hd
    · exact this.1 hd
    · omega
theorem OwnZ.row {E:Nat→Prop} {R:List (List Ir)} {v:Value} {W:World} (h:OwnZ E R v W) {i:Nat} {l:List Ir} (hl:R[i]?=some l):∃ b off cap ua uc,v=.slice (some ⟨b,off,none⟩) R.length cap∧W.cell? ⟨b,off+i,none⟩=some (.slice ua l.length uc)∧SlL l (.slice ua l.length uc) W:=by
  obtain ⟨hv,h0,⟨ao,b,off,cap,rfl,hc,_⟩,h2⟩:=h
  have hi:i<R.length:=(List.getElem?_eq_some_iff.1 hl).1
  have hcp:0<cap:=by have:=hc.le; omega
  have hu:hv[i]?=some hv[i]:=by simp [h0,hi]
  have hsl:=(h2 i l _ hl hu).1
  obtain ⟨ua,uc,e,_⟩:=id hsl
  have:=hc.addr hcp
  subst this
  refine ⟨b,off,cap,ua,uc,rfl,?_,?_⟩
  · rw [← e]; exact hc.olds i _ hu
  · rw [← e]; exact hsl
theorem wpListIn_append_q {F:Fence} {m:Nat} {P:Program} {w:World} {ops:Array Oper} {rest:List Oper} {o:Oper} {a:Act} {Q:Exit→Act→World→Prop} (hgd:o.guard=none) (s x:Operand) (t:TypeId)
    (ho:o.op=.call { callee:=.builtin .append,args:=#[s,x],argTypes:=#[t,t] }) {D:Nat→Prop} {n:Nat} {v:Value} {xs:List Value} (e:TypeId) (i:TypeInfo) (z:Value) (size bytes:Nat) (ht:P.underlying t=some (.slice e)) (hi:P.info? e=some i) (hz:i.zero=some z) (hsize:i.size=size) (hby:i.bytes=bytes) (hzs:z.cells.size=size) (hsz:0<size)
    (hs:a.eval s=v) (h:QRow D size v n xs w) (hD:∀ k,w.heap.size≤k→D k) (ad:Addr) (c:Nat) (news:List Value) (hx:a.eval x=.slice (some ad) 1 c) (hl:news.length=size) (hnews:∀ j u,news[j]?=some u→w.cell? (ad.add j)=some u) (h1:∀ u∈news,u.oneCell'=true)
    (h63:n+1≤maxLen) (hbytes:(n+1) * bytes≤140737488355328)
    (hK:∀ v' w',QRow D size v' (n+1) (xs++news) w'→But D w w'→wpListIn F m P ops Q rest (a.put o.dst v') w'):wpListIn F m P ops Q (o :: rest) a w:=by
  obtain ⟨v',w',hrun,k1,k2⟩:=run_append_q (P:=P) (w:=w) t o.type e i z size bytes ht hi hz hsize hby hzs hsz h hD ad c news hl hnews h1 h63 hbytes
  refine wpListIn_plain hgd fun K hK'=>?_
  unfold Oper.wpIn
  refine ⟨?_,?_⟩
  · simp [Oper.about,ho,resolve,Target.leads,Sem.run_pure]
  · rw [Oper.semAt_plain F _ _ (by rw [ho]; intro c hc'; cases hc')]
    simp [execOp,ho,resolve,invoke,builtin,hs,hx,hrun,Result.andThen]
    exact hK' _ _ (hK v' w' k1 k2)
theorem u8_mod {a b:Nat} (h:UInt8.ofNat a=UInt8.ofNat b):a % 256=b % 256:=by
  have:=congrArg UInt8.toNat h
  simpa using this
theorem keyI_inj {x y:Ir} (hx:KeyFit x) (hy:KeyFit y) (h:keyI x=keyI y):x=y:=by
  have e:∀ z:Ir,keyI z=[UInt8.ofNat ((z.1+1).toNat / 256),UInt8.ofNat (z.1+1).toNat,UInt8.ofNat z.2.1.toNat,UInt8.ofNat (z.2.2.toNat / 256),UInt8.ofNat z.2.2.toNat]:=fun _=>rfl
  rw [e,e] at h
  simp only [List.cons.injEq,and_true] at h
  obtain ⟨h1,h2,h3,h4,h5⟩:=h
  have k1:=u8_mod h1
  have k2:=u8_mod h2
  have k3:=u8_mod h3
  have k4:=u8_mod h4
  have k5:=u8_mod h5
  unfold KeyFit at hx hy
  exact ir_ext (by omega) (by omega) (by omega)
theorem keyL_inj:∀ {K M:List Ir},(∀ x∈K,KeyFit x)→(∀ x∈M,KeyFit x)→K.flatMap keyI=M.flatMap keyI→K=M
  | [],[],_,_,_=>rfl
  | [],y :: M,_,_,h=>by
    have:=congrArg List.length h
    simp [keyI_len] at this
    omega
  | x :: K,[],_,_,h=>by
    have:=congrArg List.length h
    simp [keyI_len] at this
  | x :: K,y :: M,hK,hM,h=>by
    rw [List.flatMap_cons,List.flatMap_cons] at h
    obtain ⟨h1,h2⟩:=List.append_inj h (by rw [keyI_len,keyI_len])
    rw [keyI_inj (hK x (by simp)) (hM y (by simp)) h1,keyL_inj (fun z hz=>hK z (by simp [hz])) (fun z hz=>hM z (by simp [hz])) h2]
theorem keyK_inj {K M:List Ir} (hK:∀ x∈K,KeyFit x) (hM:∀ x∈M,KeyFit x) (h:keyK K=keyK M):K=M:=by
  unfold keyK at h
  refine keyL_inj hK hM ?_
  have h2:(K.flatMap keyI).toArray=(M.flatMap keyI).toArray:=by injection h
  simpa using h2
theorem fit_key {f:Fl} (hp:FitP f) {x:Ir} (h:fitI f x=true):KeyFit x:=by
  have h1:=fitI_iff.1 h
  have h2:=rightI_le hp x.1
  have h3:=hp.prods
  have h4:f.terms.length+f.nons.length≤600:=hp.size
  unfold KeyFit
  omega
end Go.Proofs.YtiamjafecbpfpaaGreatDoor
namespace Go.Proofs.YtiamjafecbpfpaaGreatDoor
def noDefer (ops:Array Oper):Bool:=ops.toList.all fun o=>match o.op with | .defer _=>false | _=>true
theorem noDefer_at {ops:Array Oper} (h:noDefer ops=true) {i:Nat} {o:Oper} (ho:ops[i]?=some o):∀ c,o.op≠.defer c:=by
  intro c hc
  have:=List.all_eq_true.1 h o (by
    have:=Array.mem_of_getElem? ho
    simpa using this)
  rw [hc] at this
  cases this
theorem rowsIn_wide {l n:Nat} {P:Program} {row:String} {args:Array Value} {w:World} {R:Value→World→Prop} (h:Rows P row args w R):RowsIn (Fence.wide.inRound l) n P row args w R :=
  fun c cs _=>let ⟨v,w',r,s⟩:=h c cs; ⟨v,w',r,stepsIn_wide.2 s⟩
theorem oper_round {l n:Nat} {P:Program} {o:Oper} {a:Act} {w:World} {K:Act→World→Prop} {Q:Exit→Act→World→Prop} (hd:∀ c,o.op≠.defer c) (h:o.wp P a w K Q):o.wpIn (Fence.wide.inRound l) n P a w K Q:=by
  refine ⟨fun _ _=>trivial,?_⟩
  have e:o.semAt (Fence.wide.inRound l).round a.eval=execOp a.eval o:=Oper.semAt_some l _ _ hd
  rw [e]
  unfold Oper.wp at h
  generalize (execOp a.eval o).run P w=r at *
  cases r with
  | ok x w' =>
    cases x with
    | value v=>exact h
    | skip=>exact h
    | defer d=>exact h
    | enter f args=>exact ⟨(fun hh=>by cases hh),callsIn_wide.2 h⟩
    | row row args=>exact ⟨(fun hh=>by cases hh),rowsIn_wide h⟩
    | _=>exact h.elim
  | halt x w'=>cases x <;> exact h
theorem any_round {l n:Nat} {P:Program} {md:Region.Mode} {ops:Array Oper} {Q:Exit→Act→World→Prop} (hd:noDefer ops=true) (hL:¬ LetsOut Q) :
    ∀ (fuel:Nat) (listed:Array Bool) (a:Act) (w:World),wpAny P md ops Q fuel listed a w→wpAnyIn (Fence.wide.inRound l) n P md ops Q fuel listed a w
  | 0,_,_,_,h=>h
  | fuel+1,listed,a,w,h=>by
    refine ⟨h.1,fun i hi=>?_⟩
    have h2:=h.2 i hi
    unfold wpOp at h2
    unfold wpOpIn
    cases ho:ops[i]? with
    | none =>
      rw [ho] at h2
      exact any_round hd hL fuel _ _ _ h2
    | some o =>
      rw [ho] at h2
      simp only at h2 ⊢
      split
      · rename_i hw
        rw [if_pos hw] at h2
        rcases h2 with h2 | h2
        · exact Oper.wpIn_mono (fun a w h=>any_round hd hL fuel _ a w h) (oper_round (noDefer_at hd ho) h2)
        · exact absurd h2.2 hL
      · rename_i hw
        rw [if_neg hw] at h2
        exact ⟨fun _ _=>trivial,any_round hd hL fuel _ _ _ h2⟩
theorem wpIn_region_L {l k:Nat} {P:Program} {ops:Array Oper} {Q:Exit→Act→World→Prop} {id:Nat} {a:Act} {w:World} (S:World→Prop) (n:Nat) (hm:P.follows .mixedOrders=true)
    (N:Nat) (hN:ops.size=N) (hd:noDefer ops=true) (hL:¬ LetsOut Q) (h:wpAnyL P .any ops Q S n N (lst N 0) a w.drew):(Code.region id ops true).wpIn (Fence.wide.inRound l) k P Q a w:=by
  refine wpIn_region_any hm (any_round hd hL _ _ _ _ (wpAny_of_L (S:=S) (n:=n) _ _ _ _ ?_))
  have e:lst N 0=Array.replicate ops.size false:=by rw [hN]; simp [lst]
  rw [← e,hN]
  exact h
end Go.Proofs.YtiamjafecbpfpaaGreatDoor
