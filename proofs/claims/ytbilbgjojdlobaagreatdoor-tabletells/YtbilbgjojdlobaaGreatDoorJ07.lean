import Derived.Test.YtbilbgjojdlobaaGreatDoorJ01
import Derived.Test.YtbilbgjojdlobaaGreatDoorJ02
import Derived.Test.YtbilbgjojdlobaaGreatDoorJ03
import Derived.Test.YtbilbgjojdlobaaGreatDoorJ06
import Derived.RangeFuncNested
import Derived.RangeFuncBound
import Derived.RangeFuncCalls
import Derived.RangeFuncLeaves
import Derived.Shelf.Abstract
import Derived.Shelf.RegionOpen
import Derived.WalkKit
import Derived.OwnWalkIn
import Derived.TacticsInMore
import Derived.LoopNIn
import Derived.LoopIn
import Derived.Shelf.SlicesQ.IndexFunc
import Derived.Shelf.Lay
import Derived.Ground.SlgfProg
import Derived.Lib.TrailingZeros

namespace Go.Proofs.YtbilbgjojdlobaaGreatDoor
open Go.RowKit Go.Maps
def Dst (g b1 rb:Nat) (w2:World) (s k:Nat):Prop:=k=b1∨k=rb∨∃ i u,i<s∧w2.cell? ⟨g,i * 3+1,none⟩=some u∧u.ownBlock=some k
theorem Dst.mono {g b1 rb:Nat} {w2:World} {s s' k:Nat} (h:Dst g b1 rb w2 s k) (hs:s≤s'):Dst g b1 rb w2 s' k:=by
  rcases h with h | h | ⟨i,u,hi,h⟩
  · exact .inl h
  · exact .inr (.inl h)
  · exact .inr (.inr ⟨i,u,by omega,h⟩)
structure RowJ (B b1 g rb n1:Nat) (w2:World) (f:Fl) (R:List (List Ir)) (l:List Ir) (U0:Int→Value) (s sg sd:Nat) (U:Int→Value) (vg:Value) (W:World):Prop where
  mp:∃ n',n'≤n1+s∧MapA B b1 n' (gS f R l s) U W
  sub:∀ k,inA b1 (gS f R l s) U k→inA b1 (gEnd f l) U0 k
  box:W.heap[rb]?=some (Obj.cells #[.slice none 0 0,vg] 68)
  own:OwnP 75 w2.heap.size (goUp f R l sg) vg W
  bt:But (Dst g b1 rb w2 sd) w2 W
structure Row2 (B b1 g rb n1:Nat) (w2:World) (f:Fl) (l:List Ir) (U0:Int→Value):Prop where
  mp:MapA B b1 n1 (gEnd f l) U0 w2
  ws:WsAt B g (wL f l) w2
  dis:∀ k,inA b1 (gEnd f l) U0 k→inW g w2 k→False
  a1:∀ k,inA b1 (gEnd f l) U0 k→k<rb
  a2:∀ k,inW g w2 k→k<rb
  rlt:rb<w2.heap.size
theorem RowJ.keep {B b1 g rb n1:Nat} {w2:World} {f:Fl} {R:List (List Ir)} {l:List Ir} {U0:Int→Value} {s sg sd sd':Nat} {U:Int→Value} {vg:Value} {W W':World} {D:Nat→Prop} (h:RowJ B b1 g rb n1 w2 f R l U0 s sg sd U vg W) (hb:But D W W')
    (hA:∀ k,inA b1 (gEnd f l) U0 k→¬ D k) (hr:¬ D rb) (hv:∀ k,w2.heap.size≤k→¬ D k) (hD:∀ k,k<w2.heap.size→D k→Dst g b1 rb w2 sd' k) (hs:sd≤sd'):RowJ B b1 g rb n1 w2 f R l U0 s sg sd' U vg W':=by
  obtain ⟨n',hn',hm⟩:=h.mp
  refine ⟨⟨n',hn',hm.keep hb (fun k hk=>hA k (h.sub k hk))⟩,h.sub,(hb.block rb (Array.getElem?_eq_some_iff.1 h.box).1 hr).trans h.box,ownsRow_keep h.own hb (fun k hk=>hv k (World.ownsRow.lt h.own k hk).1),?_⟩
  exact ⟨hb.os.trans h.bt.os,hb.tape.trans h.bt.tape,hb.output.trans h.bt.output,Nat.le_trans h.bt.size hb.size,fun k hk hd=>(hb.block k (Nat.lt_of_lt_of_le hk h.bt.size) (fun e=>hd (hD k hk e))).trans (h.bt.block k hk (fun e=>hd (e.mono hs)))⟩
theorem RowJ.next {B b1 g rb n1:Nat} {w2:World} {f:Fl} {R:List (List Ir)} {l:List Ir} {U0:Int→Value} {s sg sd sd':Nat} {U:Int→Value} {vg:Value} {W W':World} (h:RowJ B b1 g rb n1 w2 f R l U0 s sg sd U vg W) (hb:Below W.heap.size W W') (hs:sd≤sd'):RowJ B b1 g rb n1 w2 f R l U0 s sg sd' U vg W' :=
  h.keep (D:=fun _=>False) (But.of_next hb) (fun _ _ h=>h) (fun h=>h) (fun _ _ h=>h) (fun _ _ h=>h.elim) hs
theorem RowJ.gkeep {B b1 g rb n1:Nat} {w2:World} {f:Fl} {R:List (List Ir)} {l:List Ir} {U0:Int→Value} {s sg sd:Nat} {U:Int→Value} {vg:Value} {W:World} (h:RowJ B b1 g rb n1 w2 f R l U0 s sg sd U vg W) (h2:Row2 B b1 g rb n1 w2 f l U0) (hsn:sd≤f.n):W.heap[g]?=w2.heap[g]?:=by
  refine h.bt.block g h2.ws.lt (fun e=>?_)
  rcases e with e | e | ⟨i,u,hi,hu,hk⟩
  · exact h2.dis g (.inl e) (.inl rfl)
  · have:=h2.a2 g (.inl rfl); omega
  · obtain ⟨cs,hc,hs⟩:=h2.ws.blk
    obtain ⟨v,hv,ho⟩:=h2.ws.buf i _ (wL_get (l:=l) (by omega))
    rw [hu] at hv; cases hv
    exact Lib.ownBlock_ne ho hc (by decide) hk
theorem RowJ.key {B b1 g rb n1:Nat} {w2:World} {f:Fl} {R:List (List Ir)} {l:List Ir} {U0:Int→Value} {s sg sd:Nat} {U:Int→Value} {vg:Value} {W:World} (h:RowJ B b1 g rb n1 w2 f R l U0 s sg sd U vg W) (h2:Row2 B b1 g rb n1 w2 f l U0) (hsn:sd<f.n) :
    ∃ v,W.cell? ⟨g,sd * 3+1,none⟩=some v∧w2.cell? ⟨g,sd * 3+1,none⟩=some v∧OwnB B (keyT (movedL f l (sd:Int))) v W∧(keyT (movedL f l (sd:Int))=[]→v=.slice none 0 0):=by
  have hg:=h.gkeep h2 (by omega)
  obtain ⟨v,hv,ho⟩:=h2.ws.buf sd _ (wL_get (l:=l) hsn)
  refine ⟨v,(World.cell?_of_block hg).trans hv,hv,ownsRow_keep ho h.bt (fun k hk e=>?_),fun e=>h2.ws.nil sd _ v (wL_get (l:=l) hsn) e hv⟩
  have hin:inW g w2 k:=.inr ⟨sd,v,hv,hk⟩
  rcases e with e | e | ⟨i,u,hi,hu,hk'⟩
  · exact h2.dis k (.inl e) hin
  · have:=h2.a2 k hin; omega
  · exact h2.ws.apart i sd u v k (by omega) hu hv hk' hk
theorem RowJ.str {B b1 g rb n1:Nat} {w2:World} {f:Fl} {R:List (List Ir)} {l:List Ir} {U0:Int→Value} {s sg sd:Nat} {U:Int→Value} {vg v:Value} {W W':World} (h:RowJ B b1 g rb n1 w2 f R l U0 s sg sd U vg W) (h2:Row2 B b1 g rb n1 w2 f l U0) (hv:w2.cell? ⟨g,sd * 3+1,none⟩=some v) (hb:But (fun k=>v.ownBlock=some k) W W'):RowJ B b1 g rb n1 w2 f R l U0 s sg (sd+1) U vg W':=by
  have hin:∀ k,v.ownBlock=some k→inW g w2 k:=fun k hk=>.inr ⟨sd,v,hv,hk⟩
  refine h.keep hb (fun k hk e=>h2.dis k hk (hin k e)) (fun e=>?_) (fun k hk e=>?_) (fun k _ e=>.inr (.inr ⟨sd,v,by omega,hv,e⟩)) (by omega)
  · have:=h2.a2 rb (hin rb e); omega
  · have:=h2.a2 k (hin k e)
    have:=h2.rlt; omega
theorem RowJ.go {B b1 g rb n1:Nat} {w2:World} {f:Fl} {R:List (List Ir)} {l:List Ir} {U0:Int→Value} {s sg sd:Nat} {U:Int→Value} {vg vg':Value} {W W1:World} (h:RowJ B b1 g rb n1 w2 f R l U0 s sg sd U vg W) (h2:Row2 B b1 g rb n1 w2 f l U0) (hgr:W.grownBy W1 vg.ownBlock) (ho:OwnP 75 w2.heap.size (goUp f R l (sg+1)) vg' W1) :
    RowJ B b1 g rb n1 w2 f R l U0 s (sg+1) sd U vg' (W1.setCell ⟨rb,1,none⟩ vg'):=by
  have hvl:∀ k,vg.ownBlock=some k→w2.heap.size≤k:=fun k hk=>(World.ownsRow.lt h.own k hk).1
  have hvl':∀ k,vg'.ownBlock=some k→w2.heap.size≤k:=fun k hk=>(World.ownsRow.lt ho k hk).1
  have hrl:=h2.rlt
  have hrb:rb<W.heap.size:=(Array.getElem?_eq_some_iff.1 h.box).1
  have hb:But (fun k=>vg.ownBlock=some k∨k=rb) W (W1.setCell ⟨rb,1,none⟩ vg') :=
    But.setCell ⟨hgr.os,hgr.tape,hgr.output,hgr.size,fun k hk hd=>hgr.block k hk (fun e=>hd (.inl e.symm))⟩ _ _ (.inr (.inr rfl))
  have hbox1:W1.heap[rb]?=some (Obj.cells #[.slice none 0 0,vg] 68):=(hgr.block rb hrb (fun e=>by have:=hvl rb e.symm; omega)).trans h.box
  obtain ⟨n',hn',hm⟩:=h.mp
  refine ⟨⟨n',hn',hm.keep hb (fun k hk e=>?_)⟩,h.sub,?_,ownsRow_keep (D:=fun k=>k=rb) ho ((But.refl _ W1).setCell _ _ (.inr rfl)) (fun k hk e=>by have:=hvl' k hk; omega),?_⟩
  · have:=h2.a1 k (h.sub k hk)
    rcases e with e | e
    · have:=hvl k e; omega
    · omega
  · have:=blk_set (o:=1) hbox1 vg'
    simpa using this
  · exact ⟨hb.os.trans h.bt.os,hb.tape.trans h.bt.tape,hb.output.trans h.bt.output,Nat.le_trans h.bt.size hb.size,fun k hk hd=>(hb.block k (Nat.lt_of_lt_of_le hk h.bt.size) (fun e=>by
      rcases e with e | e
      · have:=hvl k e; omega
      · exact hd (.inr (.inl e)))).trans (h.bt.block k hk hd)⟩
theorem RowJ.shift {B b1 g rb n1:Nat} {w2:World} {f:Fl} {R:List (List Ir)} {l:List Ir} {U0:Int→Value} {s sg sd n':Nat} {U:Int→Value} {vg:Value} {W W':World} (h:RowJ B b1 g rb n1 w2 f R l U0 s sg sd U vg W) (h2:Row2 B b1 g rb n1 w2 f l U0) (hn':n'≤n1+s) (hm:MapA B b1 (n'+1) (gS f R l (s+1)) (updU U s (curU (gS f R l s) U s)) W') (hb:But (fun k=>k=b1) W W')
    (hG:∀ t a,gS f R l (s+1) t=some a→t≠(s:Int)→∃ a',gS f R l s t=some a'):RowJ B b1 g rb n1 w2 f R l U0 (s+1) sg sd (updU U s (curU (gS f R l s) U s)) vg W':=by
  have hbr:b1≠rb:=fun e=>by have:=h2.a1 b1 (.inl rfl); omega
  refine ⟨⟨n'+1,by omega,hm⟩,fun k hk=>?_,(hb.block rb (Array.getElem?_eq_some_iff.1 h.box).1 (fun e=>hbr e.symm)).trans h.box,ownsRow_keep h.own hb (fun k hk e=>?_),?_⟩
  · rcases hk with e | ⟨t,a,ha,hk⟩
    · exact .inl e
    · unfold updU at hk
      split at hk
      · obtain ⟨a',ha',hk'⟩:=curU_in hk
        exact h.sub k (.inr ⟨_,a',ha',hk'⟩)
      · rename_i ht
        obtain ⟨a',ha'⟩:=hG t a ha ht
        exact h.sub k (.inr ⟨t,a',ha',hk⟩)
  · have h3:=(World.ownsRow.lt h.own k hk).1
    have:=h2.a1 b1 (.inl rfl)
    have:=h2.rlt
    omega
  · exact ⟨hb.os.trans h.bt.os,hb.tape.trans h.bt.tape,hb.output.trans h.bt.output,Nat.le_trans h.bt.size hb.size,fun k hk hd=>(hb.block k (Nat.lt_of_lt_of_le hk h.bt.size) (fun e=>hd (.inl e))).trans (h.bt.block k hk hd)⟩
theorem gS_old {f:Fl} {R:List (List Ir)} {l:List Ir} {s:Nat}:∀ t a,gS f R l (s+1) t=some a→t≠(s:Int)→∃ a',gS f R l s t=some a':=by
  intro t a h ht
  unfold gS at h
  split at h
  · rename_i hc
    exact ⟨_,by unfold gS; rw [if_pos ⟨hc.1,by omega,hc.2.2⟩]⟩
  · rename_i hc
    refine ⟨a,?_⟩
    unfold gS
    rw [if_neg (fun h'=>hc ⟨h'.1,by omega,h'.2.2⟩)]
    exact h
theorem RowJ.skip {B b1 g rb n1:Nat} {w2:World} {f:Fl} {R:List (List Ir)} {l:List Ir} {U0:Int→Value} {s sg sd:Nat} {U:Int→Value} {vg:Value} {W:World} (h:RowJ B b1 g rb n1 w2 f R l U0 s sg sd U vg W) (hk:¬ s<f.terms.length∨movedL f l (s:Int)=[]):RowJ B b1 g rb n1 w2 f R l U0 (s+1) sg sd U vg W:=by
  obtain ⟨n',hn',hm⟩:=h.mp
  have e:=gS_skip (R:=R) hk
  exact ⟨⟨n',by omega,by rw [e]; exact hm⟩,fun k hk=>h.sub k (by rw [e] at hk; exact hk),h.box,h.own,h.bt⟩
theorem RowJ.noGo {B b1 g rb n1:Nat} {w2:World} {f:Fl} {R:List (List Ir)} {l:List Ir} {U0:Int→Value} {s sg sd:Nat} {U:Int→Value} {vg:Value} {W:World} (h:RowJ B b1 g rb n1 w2 f R l U0 s sg sd U vg W) (hk:movedL f l (sg:Int)=[]):RowJ B b1 g rb n1 w2 f R l U0 s (sg+1) (sd+1) U vg W :=
  ⟨h.mp,h.sub,h.box,by rw [goUp_succ,if_pos hk,List.append_nil]; exact h.own,h.bt.mono (fun k _ e=>e.mono (by omega))⟩
theorem goUp_ok {f:Fl} {R:List (List Ir)} {l:List Ir} {s:Nat} (hs:s≤600) (hR:R.length≤600):∀ x∈goUp f R l s,okP x:=by
  intro x hx
  unfold goUp at hx
  obtain ⟨q,hq,hx⟩:=List.mem_filterMap.1 hx
  obtain ⟨t,ht,rfl⟩:=Option.map_eq_some_iff.1 hx
  rw [List.mem_range] at hq
  unfold toF at ht
  split at ht
  · cases ht
  · cases ht
    have:=findI_le R (gotoF f l q)
    unfold okP i64B
    omega
theorem gS_ok {f:Fl} {R:List (List Ir)} {l:List Ir} {n:Nat} (hp:FitP f) (hl:∀ x∈l,fitI f x=true) (hll:l.length≤16000000) (hR:R.length≤600) (t:Int) (a:Ac) (h:gS f R l n t=some a):i64B a.look∧i64B a.to∧(∀ x∈a.red,i64B x)∧a.red.length≤140737488351232:=by
  have h1:=gS_look hl (by rw [h]; rfl)
  have h4:f.terms.length+f.nons.length≤600:=hp.size
  have h3:=hp.prods
  have hr:∀ x∈redL f l t,i64B x:=fun x hx=>by
    unfold redL at hx
    obtain ⟨y,hy,rfl⟩:=List.mem_map.1 hx
    have:=fitI_iff.1 (hl y (List.mem_filter.1 hy).1)
    unfold i64B; omega
  have hn:=redL_len f l t
  unfold gS at h
  split at h
  · cases h
    have:=findI_le R (gotoF f l t)
    exact ⟨by unfold i64B; simp only; omega,by unfold i64B; simp only; omega,hr,by simp only; omega⟩
  · unfold gEnd at h
    split at h
    · cases h
      exact ⟨by unfold i64B; simp only; omega,by unfold i64B; simp only; omega,hr,by simp only; omega⟩
    · cases h
theorem infoWr:(Tryz.prog.info? 102).map (fun i=>(i.zero,i.size,i.bytes))=some (some (.agg #[.pointer none,.slice none 0 0,.bool false]),3,40):=by kernel_rfl
theorem infoGo12:(Tryz.prog.info? 75).map (fun i=>(i.zero,i.size,i.bytes))=some (some (.agg #[.int .i64 0,.int .i64 0]),2,16):=by kernel_rfl
def zeroU:Int→Value:=fun _=>.slice none 0 0
def KeepR (lo hi:Nat) (r:Rw) (va vg:Value) (W:World):Prop:=∀ (W':World) (D:Nat→Prop),But D W W'→(∀ k,D k→k<lo∨hi≤k)→SlA r.acts va W'∧SlG r.goes vg W'
theorem KeepR.keep {lo hi:Nat} {r:Rw} {va vg:Value} {W W1:World} {D:Nat→Prop} (h:KeepR lo hi r va vg W) (hb:But D W W1) (hd:∀ k,D k→k<lo∨hi≤k):KeepR lo hi r va vg W1:=fun W' D' hb' hd' =>
  h W' (fun k=>D k∨D' k) ((hb.mono (fun _ _ h=>.inl h)).trans (hb'.mono (fun _ _ h=>.inr h))) (fun k hk=>hk.elim (hd k) (hd' k))
set_option maxRecDepth 100000 in
set_option maxHeartbeats 4000000 in
theorem rowM_any (f:Fl) (a:FlA) (R:List (List Ir)) (l:List Ir) (v:Value) (m b0 i0:Nat) (w:World) (hp:FitP f) (hall:allF f=some R) (hR6:R.length≤600) (hl:R[i0]?=some l) (hll:l.length≤maxI) (hf:FlAt f a w) (hM:MkAt f a R m b0 w) (hv:SlL l v w) :
    Calls Tryz.prog 33 #[.pointer (some ⟨m,0,none⟩),v] w fun e w'=>∃ va vg,e=.returned (.agg #[va,vg])∧KeepR w.heap.size w'.heap.size (rowT f R l) va vg w'∧Below w.heap.size w w':=by
  obtain ⟨iw,hiw,hw0,hw1,hw2⟩:=info_parts infoWr
  obtain ⟨ig,hig,hg0,hg1,hg2⟩:=info_parts infoGo12
  have hn6:f.terms.length+f.nons.length≤600:=hp.size
  have hfn:f.n=f.terms.length+f.nons.length:=rfl
  have hfit:=(sets_fit hp hall (List.mem_of_getElem? hl)).2
  have HFIT:Hid (∀ x∈l,fitI f x=true):=hfit
  have HNX:Hid (∀ x W,Below w.heap.size w W→Calls Tryz.prog 61 #[a.val f,valR x] W fun e w'=>e=.returned (.tuple #[.int .i64 ((nextI f x).getD 0),.bool (nextI f x).isSome])∧Below W.heap.size W w'):=fun x W hW=>next_item f a x W (hf.next hW) hn6
  have HEN:Hid (∀ (b n:Nat) (G:Int→Option Ac) (U:Int→Value) (x:Ir) W,MapA w.heap.size b n G U W→okR x→n<1000000000→(curA G x.2.2).red.length≤100000000→w.heap.size≤W.heap.size→Calls Tryz.prog 62 #[.map (some b),valR x] W fun e w'=>e=.returned (.tuple #[])∧Ended w.heap.size b n G U x.2.2 (endA (curA G x.2.2) x.1) W w'):=fun b n G U x W h1 h2 h3 h4 h5=>endAct_any x W h1 h2 h3 h4 h5
  have HIT:Hid (∀ (g i:Nat) (L:List Wr) (y:Wr) (x:Ir) W,WsAt w.heap.size g L W→L[i]?=some y→FitT x→y.bs.length≤100000000→w.heap.size≤W.heap.size→Calls Tryz.prog 63 #[.pointer (some ⟨g,i * 3,none⟩),valR x] W fun e w'=>e=.returned (.tuple #[])∧WsAt w.heap.size g (L.set i ⟨y.bs++encT x,y.bad⟩) w'∧Wrote g W w'):=fun g i L y x W h1 h2 h3 h4 h5=>wItem_any x W h1 h2 h3 h4 h5
  have HMK:Hid (∀ W,Below w.heap.size w W→MkAt f a R m b0 W):=fun W hW=>hM.next hW
  have HSL:Hid (∀ W,Below w.heap.size w W→SlL l v W):=fun W hW=>hv.next hW
  obtain ⟨la,lc,rfl,_⟩:=hv
  obtain ⟨ta,tc,na,nc,pa,pc⟩:=a
  unfold FlA.val at HNX
  simp only at *
  -- the boxes
  obtain ⟨wz,hwz⟩:∃ wz,(w.alloc (Obj.cells #[.slice none 0 0,.slice none 0 0] 68)).alloc (.map #[] 0)=wz:=⟨_,rfl⟩
  have Bz:Below w.heap.size w wz:=by rw [← hwz]; exact ((Below.refl _ _).alloc (Nat.le_refl _) _).alloc (by simp) _
  have hzs:wz.heap.size=w.heap.size+1+1:=by rw [← hwz]; simp
  have hzb:wz.heap[w.heap.size]?=some (Obj.cells #[.slice none 0 0,.slice none 0 0] 68):=by rw [← hwz]; exact (Lib.alloc_old _ _ _ (by simp)).trans (heap_alloc_new _ _)
  have HMZ:Hid (MapA w.heap.size (w.heap.size+1) 0 (fun _=>none) zeroU wz):=by
    show MapA _ _ _ _ _ _
    rw [← hwz]
    have h1:=MapA.made (B:=w.heap.size) (w.alloc (Obj.cells #[.slice none 0 0,.slice none 0 0] 68)) (by simp) zeroU
    have e:(w.alloc (Obj.cells #[.slice none 0 0,.slice none 0 0] 68)).heap.size=w.heap.size+1:=by simp
    rw [e] at h1
    exact h1
  clear hM hf
  go_enter Tryz.func33,Tryz.ntmps33
  go_wp2_with fail
  simp only [run_makeMap,Result.andThen]
  rw [Oper.upon_value]
  go_upto_region 2 with fail
  try rw [hwz]
  clear hwz
  have hS0:(fun W:World=>(W.cell? ⟨m,0,none⟩=some (.slice ta f.terms.length tc)∧W.cell? ⟨m,1,none⟩=some (.slice na f.nons.length nc))) wz.drew:=⟨(HMK.out wz Bz).2.1,(HMK.out wz Bz).2.2.1⟩
  have hwn:IntKind.i64.wrap ((f.terms.length:Int)+(f.nons.length:Int))=((f.terms.length+f.nons.length:Nat):Int):=by rw [IntKind.wrap_i64]; omega
  obtain ⟨n,hn⟩:∃ n,f.terms.length+f.nons.length=n:=⟨_,rfl⟩
  rw [hn] at hwn hn6 hfn
  have hrun:(Instr.makeSlice 120 (.int .i64 (n:Int)) (.int .i64 (n:Int))).run Tryz.prog wz.drew=.ok (.slice (some ⟨w.heap.size+1+1,0,none⟩) n n) (wz.drew.alloc (.cells (madeCells #[.pointer none,.slice none 0 0,.bool false] (n * 3)) 102)):=by
    have h:=run_make wz.drew 120 102 iw _ Tryz.underlying120 hiw hw0 .i64 .i64 (n:Int) (n:Int) (by omega) (by omega) (by rw [hw2]; omega) (by omega)
    rw [hw1] at h
    simp only [Int.toNat_natCast] at h
    have e:wz.drew.heap.size=w.heap.size+1+1:=hzs
    rw [e] at h
    exact h
  refine wp_region_L (fun W=>W.cell? ⟨m,0,none⟩=some (.slice ta f.terms.length tc)∧W.cell? ⟨m,1,none⟩=some (.slice na f.nons.length nc)) 14 (by kernel_rfl) 15 rfl ?_
  refine tk 0 ⟨some 15,.move (.tmp 0),62, "make.go:42",#[],none⟩ hS0 ?_;simp only [Act.put,sA,s0,sS]
  refine tk 1 ⟨some 16,.nilCheck (.tmp 15),0, "make.go:42",#[⟨0,.data⟩],none⟩ hS0 ?_;simp only [Act.put,sA,s0,sS]
  refine tk 2 ⟨some 17,.fieldAddr 116 (.tmp 16) 0,0, "make.go:42",#[⟨1,.data⟩],none⟩ hS0 ?_;simp only [Act.put,sA,s0,sS]
  refine tk 3 ⟨some 18,.fieldAddr 25 (.tmp 17) 0,0, "make.go:42",#[⟨2,.data⟩],none⟩ hS0 ?_;simp only [Act.put,sA,s0,sS]
  refine tk 4 ⟨some 19,.load 22 (.tmp 18),22, "make.go:42",#[⟨3,.data⟩],none⟩ hS0 ?_;simp only [Act.put,sA,s0,sS]
  refine tk 5 ⟨some 20,.call ⟨.builtin .len,#[.tmp 19],#[22]⟩,3, "make.go:42",#[⟨4,.data⟩],none⟩ hS0 ?_;simp only [Act.put,sA,s0,sS]
  refine tk 6 ⟨some 21,.move (.tmp 0),62, "make.go:42",#[],none⟩ hS0 ?_;simp only [Act.put,sA,s0,sS]
  refine tk 7 ⟨some 22,.nilCheck (.tmp 21),0, "make.go:42",#[⟨6,.data⟩],none⟩ hS0 ?_;simp only [Act.put,sA,s0,sS]
  refine tk 8 ⟨some 23,.fieldAddr 116 (.tmp 22) 0,0, "make.go:42",#[⟨7,.data⟩],none⟩ hS0 ?_;simp only [Act.put,sA,s0,sS]
  refine tk 9 ⟨some 24,.fieldAddr 25 (.tmp 23) 1,0, "make.go:42",#[⟨8,.data⟩],none⟩ hS0 ?_;simp only [Act.put,sA,s0,sS]
  refine tk 10 ⟨some 25,.load 22 (.tmp 24),22, "make.go:42",#[⟨9,.data⟩],none⟩ hS0 ?_;simp only [Act.put,sA,s0,sS]
  refine tk 11 ⟨some 26,.call ⟨.builtin .len,#[.tmp 25],#[22]⟩,3, "make.go:42",#[⟨10,.data⟩],none⟩ hS0 ?_;simp only [Act.put,sA,s0,sS]
  refine tk 12 ⟨some 27,.binOp .add 3 (.tmp 20) (.tmp 26) 3,3, "make.go:42",#[⟨5,.data⟩,⟨11,.data⟩],none⟩ hS0 ?_;simp only [Act.put,sA,s0,sS]
  try simp only [hwn]
  refine wpAnyL_one' (i:=13) (o:=⟨some 28,.makeSlice 120 (.tmp 27) (.tmp 27),120, "make.go:42",#[⟨12,.data⟩,⟨12,.data⟩],none⟩) (by kernel_rfl) rfl rfl (fun K hK=>?_)
  go_simp
  refine hK.out _ _ (fun _=>⟨?_,?_⟩) ?_
  · exact (World.cell?_of_block (show _=_ from Lib.alloc_old wz _ m (HMK.out wz Bz).1)).trans hS0.1
  · exact (World.cell?_of_block (show _=_ from Lib.alloc_old wz _ m (HMK.out wz Bz).1)).trans hS0.2
  clear hK
  refine wpAnyL_one' (i:=14) (o:=⟨some 6,.assign (.tmp 28),120, "make.go:42",#[⟨13,.data⟩,⟨0,.phase⟩,⟨1,.phase⟩,⟨2,.phase⟩,⟨3,.phase⟩,⟨4,.phase⟩,⟨5,.phase⟩,⟨6,.phase⟩,⟨7,.phase⟩,⟨8,.phase⟩,⟨9,.phase⟩,⟨10,.phase⟩,⟨11,.phase⟩,⟨12,.phase⟩,⟨13,.phase⟩],none⟩) (by kernel_rfl) rfl rfl (fun K hK=>?_)
  go_simp
  refine hK.out _ _ (fun h=>absurd h (by omega)) ?_
  clear hK
  refine wpAnyL_done (by kernel_rfl) ?_ _
  obtain ⟨w0,hw0'⟩:∃ w0,(wz.alloc (Obj.cells (madeCells #[.pointer none,.slice none 0 0,.bool false] (n * 3)) 102)).drew=w0:=⟨_,rfl⟩
  have b0z:Below wz.heap.size wz w0:=by rw [← hw0']; exact ((Below.refl _ _).alloc (Nat.le_refl _) _).drew
  have B0:Below w.heap.size w w0:=Bz.trans (b0z.mono Bz.size)
  have h0g:w0.heap[w.heap.size+1+1]?=some (.cells (madeCells #[.pointer none,.slice none 0 0,.bool false] (n * 3)) 102 (0,0)):=by
    rw [← hw0',← hzs]; exact heap_alloc_new wz _
  have h0z:w0.heap[w.heap.size]?=some (Obj.cells #[.slice none 0 0,.slice none 0 0] 68):=(b0z.block _ (by omega)).trans hzb
  have h0s:w.heap.size+1+1<w0.heap.size:=(Array.getElem?_eq_some_iff.1 h0g).1
  have HI0:Hid (RowI w.heap.size (w.heap.size+1) (w.heap.size+1+1) 0 w0 (gEnd f (l.take 0)) zeroU (wL f (l.take 0)) w0):=by
    have e1:gEnd f (l.take 0)=fun _=>none:=gEnd_nil f
    have e2:wL f (l.take 0)=List.replicate n ⟨[],false⟩:=by rw [← hfn]; exact wL_nil f
    show RowI _ _ _ _ _ _ _ _ _
    rw [e1,e2]
    have hws:=ws_made (B:=w.heap.size) (g:=w.heap.size+1+1) (by omega) h0g
    have hA:∀ k,inA (w.heap.size+1) (fun _=>none) zeroU k→k=w.heap.size+1:=fun k hk=>by
      rcases hk with e | ⟨t,c,hc,_⟩
      · exact e
      · cases hc
    have hWi:∀ k,inW (w.heap.size+1+1) w0 k→k=w.heap.size+1+1:=fun k hk=>by
      rcases hk with e | ⟨i,u,hu,hk⟩
      · exact e
      · have hi:i<n:=by
          rw [Lib.cell_of_heap h0g] at hu
          have:=(Array.getElem?_eq_some_iff.1 hu).1
          rw [size_madeCells] at this
          omega
        have:=hws.nil i ⟨[],false⟩ u (by rw [List.getElem?_replicate,if_pos hi]) rfl hu
        rw [this] at hk; cases hk
    exact ⟨HMZ.out.next b0z,hws,fun k h1 h2=>by have:=hA k h1; have:=hWi k h2; omega,fun k hk=>.inl (hA k hk),fun k hk=>.inl (hWi k hk),But.refl _ _⟩
  have hSB:w.heap.size≤w0.heap.size:=B0.size
  try rw [hw0']
  clear hw0' hS0 hrun b0z h0g hzb hzs HMZ hwn Bz
  generalize hb1:w.heap.size+1=b1 at *
  have hg1':b1+1=b1+1:=rfl
  obtain ⟨g,hg⟩:∃ g,b1+1=g:=⟨_,rfl⟩
  rw [hg] at HI0 h0s ⊢
  have HBW:Hid (∀ W,But (fun k=>k=b1∨k=g) w0 W→Below w.heap.size w W):=fun W hW=>B0.trans (hW.below hSB (fun k e=>by rcases e with e | e <;> omega))
  go_wp2_with fail
  go_loopw [31] (fun iv wr=>∃ (j:Nat),iv=.int .i64 j∧j≤l.length∧∃ U n,n≤j∧RowI w.heap.size b1 g n w0 (gEnd f (l.take j)) U (wL f (l.take j)) wr) (fun i _=>l.length - (Go.RowKit.intOf i).toNat)
  case atStart=>exact ⟨0,rfl,Nat.zero_le _,zeroU,0,Nat.le_refl _,HI0.out⟩
  case round =>
  clear HI0
  obtain ⟨j,rfl,hj,U,n1,hn1,hI⟩:=hrel
  have hB:=HBW.out _ hI.bt
  have hsz0:=hI.bt.size
  have hbs:=hB.size
  unfold maxI at hll
  by_cases hlt:j<l.length
  case pos =>
    obtain ⟨_,_,e0,hrl,_⟩:=HSL.out _ hB
    cases e0
    obtain ⟨b2,o2,rfl,hb2,c0,c1,c2,hok⟩:=hrl.at (Below.refl _ _) hlt
    have hfx:=HFIT.out l[j] (List.getElem_mem hlt)
    have HTK:Hid (l.take (j+1)=l.take j++[l[j]]):=List.take_succ_eq_append_getElem hlt
    have hrd:∀ t,(curA (gEnd f (l.take j)) t).red.length≤100000000:=fun t=>by
      rw [gEnd_cur]
      have h1:=redL_len f (l.take j) t
      have h2:(l.take j).length≤l.length:=by rw [List.length_take]; omega
      show (redL f (l.take j) t).length≤_
      omega
    have hkb:∀ s:Nat,(keyT (movedL f (l.take j) (s:Int))).length≤100000000:=fun s=>by
      rw [keyT_len]
      have h1:=moved_len f (l.take j) s
      have h2:(l.take j).length≤l.length:=by rw [List.length_take]; omega
      omega
    generalize l[j]=x at *
    obtain ⟨x0,x1,x2⟩:=x
    simp only at c0 c1 c2
    have Bx:Below wr.heap.size wr (wr.alloc (Obj.cells #[.int .i64 x0,.int .i64 x1,.int .i64 x2] 77)):=(Below.refl _ _).alloc (Nat.le_refl _) _
    have hIx:=hI.next Bx
    have X0:=RBox.new (x0,x1,x2) 77 wr
    have hXb:(wr.alloc (Obj.cells #[.int .i64 x0,.int .i64 x1,.int .i64 x2] 77)).heap[wr.heap.size]?=some (Obj.cells #[.int .i64 x0,.int .i64 x1,.int .i64 x2] 77):=heap_alloc_new _ _
    have HIX:Hid (RowI w.heap.size b1 g n1 w0 (gEnd f (l.take j)) U (wL f (l.take j)) (wr.alloc (Obj.cells #[.int .i64 x0,.int .i64 x1,.int .i64 x2] 77))):=hIx
    have HIR:Hid (RowI w.heap.size b1 g n1 w0 (gEnd f (l.take j)) U (wL f (l.take j)) wr):=hI
    have HRD:Hid (∀ t,(curA (gEnd f (l.take j)) t).red.length≤100000000):=hrd
    have HKB:Hid (∀ s:Nat,(keyT (movedL f (l.take j) (s:Int))).length≤100000000):=hkb
    have hBx:Below w.heap.size w (wr.alloc (Obj.cells #[.int .i64 x0,.int .i64 x1,.int .i64 x2] 77)):=hB.trans (Bx.mono hbs)
    clear hI hIx hrl hrd hkb
    go_upto_region 6 with fail
    generalize wr.alloc (Obj.cells #[.int .i64 x0,.int .i64 x1,.int .i64 x2] 77)=wx at *
    obtain ⟨hxl,y0,y1,y2⟩:=X0
    simp only at y0 y1 y2 hxl
    clear c0 c1 c2
    obtain ⟨kl,k0,k1,k2,k3,_⟩:=HMK.out wx hBx
    simp only at k0 k1 k2
    have hS0:(fun W:World=>(W.cell? ⟨m,0,none⟩=some (.slice ta f.terms.length tc)∧W.cell? ⟨m,1,none⟩=some (.slice na f.nons.length nc)∧W.cell? ⟨m,2,none⟩=some (.slice pa f.prods.length pc)∧W.cell? ⟨wr.heap.size,0,none⟩=some (.int .i64 x0)∧W.cell? ⟨wr.heap.size,1,none⟩=some (.int .i64 x1)∧W.cell? ⟨wr.heap.size,2,none⟩=some (.int .i64 x2))) wx.drew:=⟨k0,k1,k2,y0,y1,y2⟩
    have HSK:Hid (∀ W,Below wx.heap.size wx.drew W→(fun W:World=>(W.cell? ⟨m,0,none⟩=some (.slice ta f.terms.length tc)∧W.cell? ⟨m,1,none⟩=some (.slice na f.nons.length nc)∧W.cell? ⟨m,2,none⟩=some (.slice pa f.prods.length pc)∧W.cell? ⟨wr.heap.size,0,none⟩=some (.int .i64 x0)∧W.cell? ⟨wr.heap.size,1,none⟩=some (.int .i64 x1)∧W.cell? ⟨wr.heap.size,2,none⟩=some (.int .i64 x2))) W):=fun W b5=>⟨(b5.cell (p:=⟨m,0,none⟩) kl).trans k0,(b5.cell (p:=⟨m,1,none⟩) kl).trans k1,(b5.cell (p:=⟨m,2,none⟩) kl).trans k2,(b5.cell (p:=⟨wr.heap.size,0,none⟩) hxl).trans y0,(b5.cell (p:=⟨wr.heap.size,1,none⟩) hxl).trans y1,(b5.cell (p:=⟨wr.heap.size,2,none⟩) hxl).trans y2⟩
    have HNC:=HNX.out (x0,x1,x2) wx.drew (hBx.drew)
    unfold valR at HNC
    simp only at HNC
    clear k0 k1 k2 k3 y0 y1 y2
    obtain ⟨NX,hNX⟩:∃ NX,nextI f (x0,x1,x2)=NX:=⟨_,rfl⟩
    rw [hNX] at HNC
    have HNXE:Hid (nextI f (x0,x1,x2)=NX):=hNX
    obtain ⟨sv,hsv⟩:∃ sv:Int,NX.getD 0=sv:=⟨_,rfl⟩
    obtain ⟨ok,hok'⟩:∃ ok:Bool,NX.isSome=ok:=⟨_,rfl⟩
    rw [hsv,hok'] at HNC
    have HSV:Hid (NX.getD 0=sv∧NX.isSome=ok):=⟨hsv,hok'⟩
    clear hNX hsv hok'
    refine wp_region_L (fun W=>W.cell? ⟨m,0,none⟩=some (.slice ta f.terms.length tc)∧W.cell? ⟨m,1,none⟩=some (.slice na f.nons.length nc)∧W.cell? ⟨m,2,none⟩=some (.slice pa f.prods.length pc)∧W.cell? ⟨wr.heap.size,0,none⟩=some (.int .i64 x0)∧W.cell? ⟨wr.heap.size,1,none⟩=some (.int .i64 x1)∧W.cell? ⟨wr.heap.size,2,none⟩=some (.int .i64 x2)) 11 (by kernel_rfl) 11 rfl ?_
    refine tk 0 ⟨some 36,.move (.tmp 0),62, "make.go:44",#[],none⟩ hS0 ?_;simp only [Act.put,sA,s0,sS]
    refine tk 1 ⟨some 37,.nilCheck (.tmp 36),0, "make.go:44",#[⟨0,.data⟩],none⟩ hS0 ?_;simp only [Act.put,sA,s0,sS]
    refine tk 2 ⟨some 38,.fieldAddr 116 (.tmp 37) 0,0, "make.go:44",#[⟨1,.data⟩],none⟩ hS0 ?_;simp only [Act.put,sA,s0,sS]
    refine tk 3 ⟨some 39,.load 25 (.tmp 38),25, "make.go:44",#[⟨2,.data⟩],none⟩ hS0 ?_;simp only [Act.put,sA,s0,sS]
    refine tk 4 ⟨some 40,.load 77 (.tmp 8),77, "make.go:44",#[],none⟩ hS0 ?_;simp only [Act.put,sA,s0,sS]
    refine wpAnyL_one' (i:=5) (o:=⟨some 41,.call ⟨.value (.func 61),#[.tmp 39,.tmp 40],#[25,77]⟩,78, "make.go:44",#[⟨3,.data⟩,⟨4,.data⟩],none⟩) (by kernel_rfl) rfl rfl (fun KQ hK=>?_)
    go_simp
    refine HNC.mono ?_
    rintro e w6 ⟨rfl,b6⟩
    refine hK.out _ _ (fun _=>HSK.out w6 b6) ?_
    have hS1:=HSK.out w6 b6
    clear hK
    refine tk 6 ⟨some 35,.move (.tmp 41),78, "make.go:44",#[⟨5,.data⟩],none⟩ hS1 ?_;simp only [Act.put,sA,s0,sS]
    refine tk 7 ⟨some 42,.extract (.tmp 35) 0,3, "make.go:44",#[⟨6,.data⟩],none⟩ hS1 ?_;simp only [Act.put,sA,s0,sS]
    refine tk 8 ⟨some 43,.extract (.tmp 35) 1,4, "make.go:44",#[⟨6,.data⟩,⟨9,.gcOnly .lateStores⟩],none⟩ hS1 ?_;simp only [Act.put,sA,s0,sS]
    refine tk 9 ⟨some 9,.assign (.tmp 42),3, "make.go:44",#[⟨7,.data⟩,⟨5,.chain⟩,⟨0,.phase⟩,⟨1,.phase⟩,⟨2,.phase⟩,⟨3,.phase⟩,⟨4,.phase⟩,⟨5,.phase⟩,⟨6,.phase⟩,⟨7,.phase⟩,⟨8,.textOnly .lateStores⟩],none⟩ hS1 ?_;simp only [Act.put,sA,s0,sS]
    refine tk 10 ⟨some 10,.assign (.tmp 43),4, "make.go:44",#[⟨8,.data⟩,⟨9,.chain⟩,⟨0,.phase⟩,⟨1,.phase⟩,⟨2,.phase⟩,⟨3,.phase⟩,⟨4,.phase⟩,⟨5,.phase⟩,⟨6,.phase⟩,⟨7,.phase⟩,⟨8,.phase⟩,⟨9,.phase⟩],none⟩ hS1 ?_;simp only [Act.put,sA,s0,sS]
    refine wpAnyL_done (by kernel_rfl) ?_ _
    have b6':Below wx.heap.size wx w6:=(Below.refl _ wx).drew.trans b6
    have HI6:Hid (RowI w.heap.size b1 g n1 w0 (gEnd f (l.take j)) U (wL f (l.take j)) w6):=HIX.out.next b6'
    have hs6:w.heap.size≤w6.heap.size:=Nat.le_trans hbs (Nat.le_trans Bx.size b6'.size)
    have hxb6:w6.heap[wr.heap.size]?=some (Obj.cells #[.int .i64 x0,.int .i64 x1,.int .i64 x2] 77):=(b6'.block _ hxl).trans hXb
    obtain ⟨_,_,_,z0,z1,z2⟩:=hS1
    have hg6:w6.heap[g]?=wr.heap[g]?:=(b6'.block g (Nat.lt_of_lt_of_le HIR.out.ws.lt Bx.size)).trans (Bx.block g HIR.out.ws.lt)
    clear HIX HNC HSK hS0 b6 b6'
    cases NX with
    | none =>
      obtain ⟨e1,e2⟩:=HSV.out
      simp only [Option.getD_none,Option.isSome_none] at e1 e2
      subst e1
      subst e2
      have HEC:=HEN.out b1 n1 (gEnd f (l.take j)) U (x0,x1,x2) w6 HI6.out.mp hok (by omega) (HRD.out _) hs6
      unfold valR at HEC
      simp only at HEC
      have HECH:Hid (Calls Tryz.prog 62 #[.map (some b1),.agg #[.int .i64 x0,.int .i64 x1,.int .i64 x2]] w6 fun e w'=>e=.returned (.tuple #[])∧Ended w.heap.size b1 n1 (gEnd f (l.take j)) U x2 (endA (curA (gEnd f (l.take j)) x2) x0) w6 w'):=HEC
      clear HEC
      go_wp2_with fail
      refine HECH.out.mono ?_
      rintro e w7 ⟨rfl,h7⟩
      obtain ⟨U',hI7⟩:=HI6.out.ended h7
      have HF:Hid (RowI w.heap.size b1 g (n1+1) w0 (gEnd f (l.take (j+1))) U' (wL f (l.take (j+1))) w7):=by
        have e3:=gEnd_end (l:=l.take j) hfx HNXE.out
        have e4:=wL_end (l:=l.take j) HNXE.out
        show RowI _ _ _ _ _ _ _ _ _
        rw [HTK.out,e3,e4]
        exact hI7
      clear hI7 h7 HECH HI6 HRD HKB HTK HIR HIT HEN HNX HSL HMK HFIT z0 z1 z2 hxb6
      go_wp2_with fail
      exact ⟨⟨j+1,by go_num,by omega,U',n1+1,by omega,HF.out⟩,by simp [Go.RowKit.intOf]; omega⟩
    | some s =>
      obtain ⟨e1,e2⟩:=HSV.out
      simp only [Option.getD_some,Option.isSome_some] at e1 e2
      subst e1
      subst e2
      have hsr:=nextI_lt hp HNXE.out
      rw [hfn] at hsr
      obtain ⟨q,rfl⟩:∃ q:Nat,s=(q:Int):=⟨s.toNat,by omega⟩
      have hqn:q<n:=by omega
      have hfm:=moved_fit HNXE.out
      have hFT:=fitT_of hp hfm
      simp only at hFT
      have hx1w:IntKind.i64.wrap (x1+1)=x1+1:=by unfold FitT at hFT; simp only at hFT; rw [IntKind.wrap_i64]; omega
      have hx1w':wrap64 (x1+1)=x1+1:=by unfold FitT at hFT; simp only at hFT; unfold wrap64; omega
      have hzf:w6.frozen? ⟨wr.heap.size,1,none⟩=false:=Lib.frozen_of_heap hxb6 _
      have B7:But (fun k=>k=wr.heap.size) w6 (w6.setCell ⟨wr.heap.size,1,none⟩ (.int .i64 (x1+1))):=(But.refl _ w6).setCell _ _ (.inr rfl)
      have HI7:Hid (RowI w.heap.size b1 g n1 w0 (gEnd f (l.take j)) U (wL f (l.take j)) (w6.setCell ⟨wr.heap.size,1,none⟩ (.int .i64 (x1+1)))):=by
        refine HI6.out.keep B7 (fun k hk e=>?_) (fun k hk e=>?_) (fun k e=>by rw [e]; exact hsz0)
        · have:=(HIR.out.mp.inLt hk).2; omega
        · have h3:=(inW_same hg6 k).1 hk
          have:=(HIR.out.ws.inLt h3).2; omega
      have HXB:Hid ((w6.setCell ⟨wr.heap.size,1,none⟩ (.int .i64 (x1+1))).heap[wr.heap.size]?=some (Obj.cells #[.int .i64 x0,.int .i64 (x1+1),.int .i64 x2] 77)):=by
        have:=blk_set (o:=1) hxb6 (.int .i64 (x1+1))
        show _=_
        simpa using this
      have HNI:Hid (¬ inW g (w6.setCell ⟨wr.heap.size,1,none⟩ (.int .i64 (x1+1))) wr.heap.size∧wr.heap.size<(w6.setCell ⟨wr.heap.size,1,none⟩ (.int .i64 (x1+1))).heap.size):=by
        refine ⟨fun hin=>?_,(Array.getElem?_eq_some_iff.1 HXB.out).1⟩
        have hlt':=HIR.out.ws.lt
        have hg7:(w6.setCell ⟨wr.heap.size,1,none⟩ (.int .i64 (x1+1))).heap[g]?=wr.heap[g]?:=(set_block _ _ _ _ _ (by omega)).trans hg6
        have h3:=(inW_same hg7 _).1 hin
        have:=(HIR.out.ws.inLt h3).2; omega
      have hs7:w.heap.size≤(w6.setCell ⟨wr.heap.size,1,none⟩ (.int .i64 (x1+1))).heap.size:=Nat.le_trans hs6 B7.size
      go_upto_region 10 with fail
      clear z0 z1 z2 hzf B7 hxb6 HI6 hx1w hx1w'
      generalize w6.setCell ⟨wr.heap.size,1,none⟩ (.int .i64 (x1+1))=w7 at *
      have hS0:(fun W:World=>(W.cell? ⟨wr.heap.size,0,none⟩=some (.int .i64 x0)∧W.cell? ⟨wr.heap.size,1,none⟩=some (.int .i64 (x1+1))∧W.cell? ⟨wr.heap.size,2,none⟩=some (.int .i64 x2))) w7.drew:=by
        have hb:=HXB.out
        exact ⟨by show w7.cell? _=_; rw [Lib.cell_of_heap hb]; rfl,by show w7.cell? _=_; rw [Lib.cell_of_heap hb]; rfl,by show w7.cell? _=_; rw [Lib.cell_of_heap hb]; rfl⟩
      have HI7d:Hid (RowI w.heap.size b1 g n1 w0 (gEnd f (l.take j)) U (wL f (l.take j)) w7.drew):=HI7.out.next (Below.refl _ _).drew
      have HCI:=HIT.out g q (wL f (l.take j)) ⟨keyT (movedL f (l.take j) (q:Int)),false⟩ (x0,x1+1,x2) w7.drew HI7d.out.ws (wL_get (by omega)) hFT (HKB.out q) hs7
      unfold valR at HCI
      simp only at HCI
      have HCH:Hid (Calls Tryz.prog 63 #[.pointer (some ⟨g,q * 3,none⟩),.agg #[.int .i64 x0,.int .i64 (x1+1),.int .i64 x2]] w7.drew fun e w'=>e=.returned (.tuple #[])∧WsAt w.heap.size g ((wL f (l.take j)).set q ⟨keyT (movedL f (l.take j) (q:Int))++encT (x0,x1+1,x2),false⟩) w'∧Wrote g w7.drew w'):=HCI
      clear HCI HI7 HXB
      refine wp_region_L (fun W=>W.cell? ⟨wr.heap.size,0,none⟩=some (.int .i64 x0)∧W.cell? ⟨wr.heap.size,1,none⟩=some (.int .i64 (x1+1))∧W.cell? ⟨wr.heap.size,2,none⟩=some (.int .i64 x2)) 5 (by kernel_rfl) 5 rfl ?_
      refine tk 0 ⟨some 53,.move (.tmp 6),120, "make.go:50",#[],none⟩ hS0 ?_;simp only [Act.put,sA,s0,sS]
      refine tk 1 ⟨some 54,.move (.tmp 9),3, "make.go:50",#[],none⟩ hS0 ?_;simp only [Act.put,sA,s0,sS]
      refine tk 2 ⟨some 55,.indexAddr 120 (.tmp 53) (.tmp 54),0, "make.go:50",#[⟨0,.data⟩,⟨1,.data⟩],none⟩ hS0 ?_;simp only [Act.put,sA,s0,sS]
      refine tk 3 ⟨some 56,.load 77 (.tmp 8),77, "make.go:50",#[],none⟩ hS0 ?_;simp only [Act.put,sA,s0,sS]
      refine wpAnyL_one' (i:=4) (o:=⟨some 57,.call ⟨.value (.func 63),#[.tmp 55,.tmp 56],#[102,77]⟩,0, "make.go:50",#[⟨2,.data⟩,⟨3,.data⟩],none⟩) (by kernel_rfl) rfl rfl (fun KQ hK=>?_)
      go_simp
      refine HCH.out.mono ?_
      rintro e w8 ⟨rfl,h8,h8w⟩
      refine hK.out _ _ (fun _=>⟨(h8w.1.cell (p:=⟨wr.heap.size,0,none⟩) HNI.out.2 HNI.out.1).trans hS0.1,(h8w.1.cell (p:=⟨wr.heap.size,1,none⟩) HNI.out.2 HNI.out.1).trans hS0.2.1,(h8w.1.cell (p:=⟨wr.heap.size,2,none⟩) HNI.out.2 HNI.out.1).trans hS0.2.2⟩) ?_
      clear hK
      refine wpAnyL_done (by kernel_rfl) ?_ _
      have HF:Hid (RowI w.heap.size b1 g n1 w0 (gEnd f (l.take (j+1))) U (wL f (l.take (j+1))) w8):=by
        have e3:=gEnd_next (l:=l.take j) HNXE.out
        have e4:=wL_next (l:=l.take j) HNXE.out
        show RowI _ _ _ _ _ _ _ _ _
        rw [HTK.out,e3,e4]
        exact HI7d.out.wrote h8w h8
      clear h8 h8w HCH HI7d HRD HKB HTK HIR HIT HEN HNX HSL HMK HFIT hS0
      go_wp2_with fail
      exact ⟨⟨j+1,by go_num,by omega,U,n1,by omega,HF.out⟩,by simp [Go.RowKit.intOf]; omega⟩
  obtain rfl:j=l.length:=by omega
  rw [List.take_of_length_le (Nat.le_refl _)] at hI
  have Br:Below wr.heap.size wr (wr.alloc (Obj.cells #[.slice none 0 0,.slice none 0 0] 68)):=(Below.refl _ _).alloc (Nat.le_refl _) _
  have hI2:=hI.next Br
  have hrb:(wr.alloc (Obj.cells #[.slice none 0 0,.slice none 0 0] 68)).heap[wr.heap.size]?=some (Obj.cells #[.slice none 0 0,.slice none 0 0] 68):=heap_alloc_new _ _
  have hrl:wr.heap.size<(wr.alloc (Obj.cells #[.slice none 0 0,.slice none 0 0] 68)).heap.size:=by simp
  have HR2:Hid (Row2 w.heap.size b1 g wr.heap.size n1 (wr.alloc (Obj.cells #[.slice none 0 0,.slice none 0 0] 68)) f l U):=by
    refine ⟨hI2.mp,hI2.ws,hI2.dis,fun k hk=>(hI.mp.inLt hk).2,fun k hk=>?_,hrl⟩
    have h3:=(inW_same (Br.block g hI.ws.lt) k).1 hk
    exact (hI.ws.inLt h3).2
  have B2:Below w.heap.size w (wr.alloc (Obj.cells #[.slice none 0 0,.slice none 0 0] 68)):=hB.trans (Br.mono hbs)
  have hzw:(wr.alloc (Obj.cells #[.slice none 0 0,.slice none 0 0] 68)).heap[w.heap.size]?=some (Obj.cells #[.slice none 0 0,.slice none 0 0] 68):=(Br.block _ (by omega)).trans ((hI.bt.block _ (by omega) (fun e=>by rcases e with e | e <;> omega)).trans h0z)
  have HZW:Hid (w.heap.size<w0.heap.size∧w0.heap.size≤wr.heap.size):=⟨by omega,hsz0⟩
  have HO12:Hid ((∀ k,inA b1 (gEnd f l) U k→k=b1∨w0.heap.size≤k)∧∀ k,inW g (wr.alloc (Obj.cells #[.slice none 0 0,.slice none 0 0] 68)) k→k=g∨w0.heap.size≤k):=⟨hI2.o1,hI2.o2⟩
  clear hI hI2 HIT HEN HNX
  go_wp2_with fail
  obtain ⟨rb,hrbe⟩:∃ rb,wr.heap.size=rb:=⟨_,rfl⟩
  rw [hrbe] at HR2 hrb hrl HZW ⊢
  generalize wr.alloc (Obj.cells #[.slice none 0 0,.slice none 0 0] 68)=w2 at *
  have HBW2:Hid (∀ (s:Nat) W,s≤n→But (Dst g b1 rb w2 s) w2 W→Below w.heap.size w W):=fun s W hsn hW=>B2.trans (hW.below B2.size (fun k e=>by
    rcases e with e | e | ⟨i,u,hi,hu,hk⟩
    · omega
    · omega
    · exact (HR2.out.ws.inLt (.inr ⟨i,u,hu,hk⟩)).1))
  have HZK:Hid (∀ (s:Nat) W,s≤n→But (Dst g b1 rb w2 s) w2 W→W.heap[w.heap.size]?=some (Obj.cells #[.slice none 0 0,.slice none 0 0] 68)):=fun s W hsn hW=>by
    have hz:=HZW.out
    refine (hW.block _ (Array.getElem?_eq_some_iff.1 hzw).1 (fun e=>?_)).trans hzw
    rcases e with e | e | ⟨i,u,hi,hu,hk⟩
    · omega
    · omega
    · rcases HO12.out.2 _ (.inr ⟨i,u,hu,hk⟩) with e | e <;> omega
  go_loopw [61] (fun iv wr=>∃ (s:Nat),iv=.int .i64 s∧s≤n∧∃ U' vg,RowJ w.heap.size b1 g rb n1 w2 f R l U s s s U' vg wr) (fun i _=>n - (Go.RowKit.intOf i).toNat)
  case atStart =>
    refine ⟨0,rfl,Nat.zero_le _,U,.slice none 0 0,⟨⟨n1,by omega,by rw [gS_zero]; exact HR2.out.mp⟩,fun k hk=>by rw [gS_zero] at hk; exact hk,hrb,OwnP.nil _ _ _,But.refl _ _⟩⟩
  case round =>
  clear hB hbs Br
  obtain ⟨s,rfl,hsn,U',vg,hJ⟩:=hrel
  have hB:=HBW2.out s _ hsn hJ.bt
  have hbs:=hB.size
  have HJ:Hid (RowJ w.heap.size b1 g rb n1 w2 f R l U s s s U' vg wr):=hJ
  clear hJ
  by_cases hlt2:s<n
  case pos =>
    obtain ⟨kv,hk1,hk2,hko,hkn⟩:=HJ.out.key HR2.out (by omega)
    obtain ⟨ka,kc,rfl⟩:=slice_of_ownK hko
    have HLN:=len_any g (s * 3) _ kc ka wr hk1
    obtain ⟨so,hso⟩:∃ so,s * 3=so:=⟨_,rfl⟩
    have HKL:Hid ((keyT (movedL f l (s:Int))).length≤100000000):=by
      show _≤_
      rw [keyT_len]
      have h1:=moved_len f l s
      omega
    rw [hso] at HLN hk1
    by_cases hmv:movedL f l (s:Int)=[]
    · have hk0:(keyT (movedL f l (s:Int))).length=0:=by rw [hmv]; rfl
      rw [hk0] at HLN
      have HF:Hid (RowJ w.heap.size b1 g rb n1 w2 f R l U (s+1) (s+1) (s+1) U' vg wr):=(HJ.out.noGo hmv).skip (.inr hmv)
      have hsx:IntKind.i64.wrap ((s:Int) * 3)=(so:Int):=by rw [IntKind.wrap_i64]; omega
      clear hk1 hk2 hko hkn HJ
      go_wp2_with fail
      refine HLN.mono ?_
      rintro e wq ⟨rfl,rfl⟩
      clear HLN
      go_wp2_with fail
      exact ⟨⟨s+1,by go_num,by omega,U',vg,HF.out⟩,by simp [Go.RowKit.intOf]; omega⟩
    have hkp:0<(keyT (movedL f l (s:Int))).length:=by
      rw [keyT_len]
      have:=List.length_pos_iff.2 hmv
      omega
    have HSTR:Hid (Calls Tryz.prog 53 #[.pointer (some ⟨g,so,none⟩)] wr.drew fun e w'=>e=.returned (.string ⟨(keyT (movedL f l (s:Int))).toArray⟩)∧But (fun k=>(Value.slice ka (keyT (movedL f l (s:Int))).length kc).ownBlock=some k) wr.drew w'):=string_any w.heap.size g so (keyT (movedL f l (s:Int))) _ wr.drew hk1 (ownsRow_keep (D:=fun _=>False) hko (But.refl _ wr).drew (fun _ _ h=>h)) (fun e=>hkn e) (by have:=HKL.out; omega)
    obtain ⟨j0,hj0,hdj,hfj⟩:=goto_place hp hall hl (s:=s) (by omega) hmv
    have HLK:Hid (∀ W,Below w.heap.size w W→(Instr.lookup 114 (.map (some b0)) (.string ⟨(keyT (movedL f l (s:Int))).toArray⟩) false).run Tryz.prog W=.ok (.int .i64 (j0:Int)) W):=fun W hW=>(HMK.out W hW).2.2.2.2.2.look hj0 hdj (by have:=HKL.out; omega)
    have HGO:Hid (goUp f R l (s+1)=goUp f R l s++[((s:Int),(j0:Int))]):=by
      show _=_
      rw [goUp_succ,if_neg hmv,hfj]
    have HFJ:Hid ((findI R (gotoF f l s):Int)=(j0:Int)):=by show _=_; rw [hfj]
    have HMV:Hid (movedL f l (s:Int)≠[]):=hmv
    have HJD:Hid (RowJ w.heap.size b1 g rb n1 w2 f R l U s s s U' vg wr.drew):=HJ.out.next (Below.refl _ _).drew (Nat.le_refl _)
    have HK2:Hid (w2.cell? ⟨g,s * 3+1,none⟩=some (.slice ka (keyT (movedL f l (s:Int))).length kc)):=hk2
    have hke:(((keyT (movedL f l (s:Int))).length:Int) == 0)=false:=beq_eq_false_iff_ne.2 (by omega)
    have HMC:Hid (∀ W,Below w.heap.size w W→W.cell? ⟨m,3,none⟩=some (.map (some b0))∧W.cell? ⟨m,0,none⟩=some (.slice ta f.terms.length tc)):=fun W hW=>⟨(HMK.out W hW).2.2.2.2.1,(HMK.out W hW).2.1⟩
    clear hk1 hk2 hko hkn HJ hmv hfj hdj
    generalize (keyT (movedL f l (s:Int))).length=kl at *
    go_wp2_with fail
    refine HLN.mono ?_
    rintro e wq ⟨rfl,rfl⟩
    clear HLN
    go_upto_region 17 with fail
    have hS0:(fun W:World=>(W.cell? ⟨m,3,none⟩=some (.map (some b0)))) wq.drew:=(HMC.out wq hB).1
    refine wp_region_L (fun W=>W.cell? ⟨m,3,none⟩=some (.map (some b0))) 11 (by kernel_rfl) 11 rfl ?_
    refine tk 0 ⟨some 70,.move (.tmp 0),62, "make.go:57",#[],none⟩ hS0 ?_;simp only [Act.put,sA,s0,sS]
    refine tk 1 ⟨some 71,.nilCheck (.tmp 70),0, "make.go:57",#[⟨0,.data⟩],none⟩ hS0 ?_;simp only [Act.put,sA,s0,sS]
    refine tk 2 ⟨some 72,.fieldAddr 116 (.tmp 71) 1,0, "make.go:57",#[⟨1,.data⟩],none⟩ hS0 ?_;simp only [Act.put,sA,s0,sS]
    refine tk 3 ⟨some 73,.load 114 (.tmp 72),114, "make.go:57",#[⟨2,.data⟩],none⟩ hS0 ?_;simp only [Act.put,sA,s0,sS]
    refine tk 4 ⟨some 74,.move (.tmp 6),120, "make.go:57",#[],none⟩ hS0 ?_;simp only [Act.put,sA,s0,sS]
    refine tk 5 ⟨some 75,.move (.tmp 12),3, "make.go:57",#[],none⟩ hS0 ?_;simp only [Act.put,sA,s0,sS]
    refine tk 6 ⟨some 76,.indexAddr 120 (.tmp 74) (.tmp 75),0, "make.go:57",#[⟨4,.data⟩,⟨5,.data⟩],none⟩ hS0 ?_;simp only [Act.put,sA,s0,sS]
    refine tk 7 ⟨some 77,.fieldAddr 102 (.tmp 76) 0,0, "make.go:57",#[⟨6,.data⟩],none⟩ hS0 ?_;simp only [Act.put,sA,s0,sS]
    refine wpAnyL_one' (i:=8) (o:=⟨some 78,.call ⟨.value (.func 53),#[.tmp 77],#[100]⟩,9, "make.go:57",#[⟨7,.data⟩],none⟩) (by kernel_rfl) rfl rfl (fun KQ hK=>?_)
    go_simp
    refine HSTR.out.mono ?_
    rintro e w6 ⟨rfl,b6⟩
    have HJ6:Hid (RowJ w.heap.size b1 g rb n1 w2 f R l U s s (s+1) U' vg w6):=HJD.out.str HR2.out HK2.out b6
    have hB6:=HBW2.out (s+1) w6 (by omega) HJ6.out.bt
    have hS1:=(HMC.out w6 hB6).1
    refine hK.out _ _ (fun _=>hS1) ?_
    have hlk:=HLK.out w6 hB6
    clear hK
    refine wpAnyL_one' (i:=9) (o:=⟨some 79,.lookup 114 (.tmp 73) (.tmp 78) false,3, "make.go:57",#[⟨3,.data⟩,⟨8,.data⟩],none⟩) (by kernel_rfl) rfl rfl (fun KQ hK=>?_)
    go_simp
    refine hK.out _ _ (fun _=>hS1) ?_
    clear hK
    refine tk 10 ⟨some 13,.assign (.tmp 79),3, "make.go:57",#[⟨9,.data⟩,⟨8,.chain⟩,⟨0,.phase⟩,⟨1,.phase⟩,⟨2,.phase⟩,⟨3,.phase⟩,⟨4,.phase⟩,⟨5,.phase⟩,⟨6,.phase⟩,⟨7,.phase⟩,⟨8,.phase⟩,⟨9,.phase⟩],none⟩ hS1 ?_;simp only [Act.put,sA,s0,sS]
    refine wpAnyL_done (by kernel_rfl) ?_ _
    clear HSTR HLK HJD HK2 hS0 hS1 hlk hke b6
    obtain ⟨vga,vgc,rfl⟩:=slice_of_ownK HJ6.out.own
    have hbox:=HJ6.out.box
    have r1:w6.cell? ⟨rb,1,none⟩=some (.slice vga (goUp f R l s).length vgc):=by rw [Lib.cell_of_heap hbox]; rfl
    have HJN:Hid (RowJ w.heap.size b1 g rb n1 w2 f R l U s s (s+1) U' (.slice vga (goUp f R l s).length vgc) (w6.alloc (Obj.cells #[.int .i64 s,.int .i64 j0] 75))):=HJ6.out.next ((Below.refl _ _).alloc (Nat.le_refl _) _) (Nat.le_refl _)
    have HGN:Hid ((w6.alloc (Obj.cells #[.int .i64 s,.int .i64 j0] 75)).ownsRow w2.heap.size 75 2 (.slice vga (goUp f R l s).length vgc) (goUp f R l s).length ((goUp f R l s).flatMap encP)):=HJN.out.own
    have HN2:∀ (i:Nat) (u:Value),[Value.int .i64 s,.int .i64 j0][i]?=some u→(w6.alloc (Obj.cells #[.int .i64 s,.int .i64 j0] 75)).cell? ((⟨w6.heap.size,0,none⟩:Addr).add i)=some u:=fun i u hi=>by
      rw [add_plain,Nat.zero_add]
      rcases i with _ | _ | i <;> simp at hi <;> subst hi <;> simp
    have hgl:(goUp f R l s).length≤600:=Nat.le_trans (goUp_len f R l s) (by omega)
    have hszn:w2.heap.size≤(w6.alloc (Obj.cells #[.int .i64 s,.int .i64 j0] 75)).heap.size:=Nat.le_trans HJ6.out.bt.size (by simp)
    have HGU:Hid (∀ v' W,W.ownsRow w2.heap.size 75 2 v' ((goUp f R l s).length+1) ((goUp f R l s).flatMap encP++[.int .i64 s,.int .i64 j0])→OwnP 75 w2.heap.size (goUp f R l (s+1)) v' W):=fun v' W h=>by
      unfold OwnP
      rw [HGO.out,List.length_append,List.flatMap_append]
      exact h
    clear HJ6 hB6 hbox
    generalize (goUp f R l s).flatMap encP=GX at *
    generalize (goUp f R l s).length=gl at *
    go_upto_region 18 with fail
    go_wp2_with (at_builtin; refine wpList_append_own_at _ rfl (.tmp 81) (.tmp 85) 66 rfl w2.heap.size 75 ig _ 2 16 Tryz.underlying66 hig hg0 hg1 hg2 rfl (by omega) _ _ _ rfl HGN.out _ 1 1 [.int .i64 s,.int .i64 j0] rfl rfl HN2 (by simp [Value.oneCell']) (by unfold maxLen; omega) (by omega) hszn ?_)
    intro v' w8 hown' hgrow _ hat
    have hO8:=HGU.out v' w8 hown'
    have HJ9:Hid (RowJ w.heap.size b1 g rb n1 w2 f R l U s (s+1) (s+1) U' v' (w8.setCell ⟨rb,1,none⟩ v')):=HJN.out.go HR2.out hgrow hO8
    have hb8:w8.heap[rb]?=some (Obj.cells #[.slice none 0 0,.slice vga gl vgc] 68):=(hgrow.block rb (Array.getElem?_eq_some_iff.1 HJN.out.box).1 (fun e=>by
      have:=(World.ownsRow.lt HJN.out.own rb e.symm).1
      have:=HR2.out.rlt
      omega)).trans HJN.out.box
    have r81:w8.cell? ⟨rb,1,none⟩=some (.slice vga gl vgc):=by rw [Lib.cell_of_heap hb8]; rfl
    have f81:w8.frozen? ⟨rb,1,none⟩=false:=Lib.frozen_of_heap hb8 _
    obtain ⟨va',vc',rfl⟩:=slice_of_ownK hown'
    clear hown' hgrow hat hO8 hb8 HJN HGN HN2 HGU r1
    go_upto_region 19 with fail
    generalize w8.setCell ⟨rb,1,none⟩ (.slice va' (gl+1) vc')=w9 at *
    clear r81 f81
    have hB9:=HBW2.out (s+1) w9 (by omega) HJ9.out.bt
    have hc9:=(HMC.out w9 hB9).2
    by_cases hsT:s<f.terms.length
    · have hsT':(s:Int)<(f.terms.length:Int):=by omega
      obtain ⟨n',hn',hm9⟩:=HJ9.out.mp
      have HSH:=shift_any (s:Int) (j0:Int) w9 hm9 (by unfold i64B; omega) (by omega)
      have HSC:Hid (Calls Tryz.prog 65 #[.map (some b1),.int .i64 s,.int .i64 j0] w9 fun e w'=>e=.returned (.tuple #[])∧RowJ w.heap.size b1 g rb n1 w2 f R l U (s+1) (s+1) (s+1) (updU U' s (curU (gS f R l s) U' s)) (.slice va' (gl+1) vc') w'):=by
        refine HSH.mono ?_
        rintro e w' ⟨rfl,h1,h2⟩
        refine ⟨rfl,HJ9.out.shift HR2.out hn' ?_ h2 gS_old⟩
        rw [← HFJ.out,gS_shift hsT HMV.out] at h1
        exact h1
      clear HSH hm9 HJ9
      go_wp2_with fail
      refine HSC.out.mono ?_
      rintro e w10 ⟨rfl,h10⟩
      have HF:Hid (RowJ w.heap.size b1 g rb n1 w2 f R l U (s+1) (s+1) (s+1) (updU U' s (curU (gS f R l s) U' s)) (.slice va' (gl+1) vc') w10):=h10
      clear h10 HSC hc9
      go_wp2_with fail
      exact ⟨⟨s+1,by go_num,by omega,_,_,HF.out⟩,by simp [Go.RowKit.intOf]; omega⟩
    · have hsT':¬ (s:Int)<(f.terms.length:Int):=by omega
      have HF:Hid (RowJ w.heap.size b1 g rb n1 w2 f R l U (s+1) (s+1) (s+1) U' (.slice va' (gl+1) vc') w9):=HJ9.out.skip (.inl hsT)
      clear HJ9
      go_wp2_with fail
      exact ⟨⟨s+1,by go_num,by omega,_,_,HF.out⟩,by simp [Go.RowKit.intOf]; omega⟩
  obtain rfl:s=n:=by omega
  obtain ⟨n',hn',hm⟩:=HJ.out.mp
  have HLI:=listAct_any wr hm (by omega) (fun t a h=>gS_ok hp HFIT.out hll hR6 t a h)
  have HZR:=HZK.out s wr (Nat.le_refl _) HJ.out.bt
  obtain ⟨vga,vgc,rfl⟩:=slice_of_ownK HJ.out.own
  have hbox:=HJ.out.box
  have hrbl:rb<wr.heap.size:=(Array.getElem?_eq_some_iff.1 hbox).1
  have hzl:=HZW.out
  have hAA:∀ k,inA b1 (gS f R l s) U' k→k≠rb∧k≠w.heap.size:=fun k hk=>by
    have h1:=HR2.out.a1 k (HJ.out.sub k hk)
    rcases HO12.out.1 k (HJ.out.sub k hk) with e | e <;> omega
  have hGown:=HJ.out.own
  have hGl:∀ k,(Value.slice vga (goUp f R l s).length vgc).ownBlock=some k→w2.heap.size≤k:=fun k hk=>(World.ownsRow.lt hGown k hk).1
  have hr2:=HR2.out.rlt
  have HGOK:Hid (∀ x∈goUp f R l s,okP x):=goUp_ok (by omega) hR6
  have HGLE:Hid ((goUp f R l s).length≤600):=Nat.le_trans (goUp_len f R l s) (by omega)
  have HEQ:Hid (goRow f R l=goUp f R l s):=by
    show goUp f R l f.n=goUp f R l s
    rw [hfn]
  have HAK:Hid (∀ k,inA b1 (gS f R l s) U' k→k≠rb∧k≠w.heap.size):=hAA
  have HAB:Hid (∀ k,inA b1 (gS f R l s) U' k→w.heap.size≤k):=fun k hk=>(hm.inLt hk).1
  have HTLE:Hid (f.terms.length≤s):=by show _≤_; omega
  clear hm HR2 HO12 hAA
  go_wp2_with fail
  refine HLI.mono ?_
  rintro e w11 ⟨va,Sx,rfl,hs1,hs2,hkeep,b11⟩
  have HAE:Hid (Sx.map (curA (gS f R l s))=actRow f R l):=acts_eq HFIT.out HTLE.out hs1 hs2
  have hSA11:=hkeep w11 (fun _=>False) (But.refl _ _) (fun _ _ h=>h)
  have hb11:w11.heap[rb]?=some (Obj.cells #[.slice none 0 0,.slice vga (goUp f R l s).length vgc] 68):=(b11.block rb hrbl).trans hbox
  have hz11:w11.heap[w.heap.size]?=some (Obj.cells #[.slice none 0 0,.slice none 0 0] 68):=(b11.block _ (Array.getElem?_eq_some_iff.1 HZR).1).trans HZR
  obtain ⟨aa,ac,rfl,_⟩:=hSA11
  have hzr:w.heap.size≠rb:=by omega
  have hb12:(w11.setCell ⟨rb,0,none⟩ (.slice aa (Sx.map (curA (gS f R l s))).length ac)).heap[rb]?=some (Obj.cells #[.slice aa (Sx.map (curA (gS f R l s))).length ac,.slice vga (goUp f R l s).length vgc] 68):=by
    have:=blk_set (o:=0) hb11 (.slice aa (Sx.map (curA (gS f R l s))).length ac)
    simpa using this
  have hz12:(w11.setCell ⟨rb,0,none⟩ (.slice aa (Sx.map (curA (gS f R l s))).length ac)).heap[w.heap.size]?=some (Obj.cells #[.slice none 0 0,.slice none 0 0] 68):=(set_block _ _ _ _ _ hzr).trans hz11
  have HF:Hid (∀ (W:World) (Dx:Nat→Prop),But Dx w11 W→(∀ k,Dx k→k=rb∨k=w.heap.size∨k<w.heap.size∨w11.heap.size≤k)→SlA (rowT f R l).acts (.slice aa (Sx.map (curA (gS f R l s))).length ac) W∧SlG (rowT f R l).goes (.slice vga (goUp f R l s).length vgc) W):=fun W Dx hW0 hDx=>by
    have hW:But (fun k=>Dx k∧k<w11.heap.size) w11 W:=hW0.mono (fun k hk h=>⟨h,hk⟩)
    have hk:=hkeep W _ hW (fun k hk e=>by
      rcases hk with hk | hk
      · have h1:=HAK.out k hk
        have h2:=HAB.out k hk
        rcases hDx k e.1 with e' | e' | e' | e'
        · exact h1.1 e'
        · exact h1.2 e'
        · omega
        · omega
      · rcases hDx k e.1 with e' | e' | e' | e' <;> omega)
    refine ⟨?_,?_⟩
    · have h3:=hk
      rw [HAE.out] at h3
      rw [HAE.out]; exact h3
    · show SlG (goRow f R l) _ W
      rw [HEQ.out]
      refine OwnP.sl (B:=w2.heap.size) (t:=75) ?_ HGOK.out (by have:=HGLE.out; omega)
      have hGk:=ownsRow_keep (D:=fun _=>False) hGown (But.of_next b11) (fun _ _ h=>h)
      exact ownsRow_keep hGk hW (fun k hk e=>by
        have h4:=hGl k hk
        rcases hDx k e.1 with e' | e' | e' | e' <;> omega)
  have HBE:Hid (∀ W,But (fun k=>k=rb∨k=w.heap.size) w11 W→Below w.heap.size w W):=fun W hW=>(hB.trans (b11.mono hbs)).trans (hW.below (Nat.le_trans hbs b11.size) (fun k e=>by rcases e with e | e <;> omega))
  clear hkeep HLI hs1 hs2 hGown HJ
  generalize (Sx.map (curA (gS f R l s))).length=an at *
  generalize (goUp f R l s).length=gn at *
  have c110:w11.cell? ⟨rb,0,none⟩=some (.slice none 0 0):=by rw [Lib.cell_of_heap hb11]; rfl
  have f110:w11.frozen? ⟨rb,0,none⟩=false:=Lib.frozen_of_heap hb11 _
  go_upto_region 23 with fail
  have B12:But (fun k=>k=rb∨k=w.heap.size) w11 (w11.setCell ⟨rb,0,none⟩ (.slice aa an ac)):=(But.refl _ w11).setCell _ _ (.inr (.inl rfl))
  have HB12:Hid (But (fun k=>k=rb∨k=w.heap.size) w11 (w11.setCell ⟨rb,0,none⟩ (.slice aa an ac))):=B12
  clear c110 f110 hb11 hz11 B12
  generalize w11.setCell ⟨rb,0,none⟩ (.slice aa an ac)=w12 at *
  have c0:w12.cell? ⟨rb,0,none⟩=some (.slice aa an ac):=by rw [Lib.cell_of_heap hb12]; rfl
  have c1:w12.cell? ⟨rb,1,none⟩=some (.slice vga gn vgc):=by rw [Lib.cell_of_heap hb12]; rfl
  have z0:w12.cell? ⟨w.heap.size,0,none⟩=some (.slice none 0 0):=by rw [Lib.cell_of_heap hz12]; rfl
  have z1:w12.cell? ⟨w.heap.size,1,none⟩=some (.slice none 0 0):=by rw [Lib.cell_of_heap hz12]; rfl
  have fz:∀ k,w12.frozen? ⟨w.heap.size,k,none⟩=false:=fun k=>Lib.frozen_of_heap hz12 _
  have hz13:((w12.setCell ⟨w.heap.size,0,none⟩ (.slice aa an ac)).setCell ⟨w.heap.size,1,none⟩ (.slice vga gn vgc)).heap[w.heap.size]?=some (Obj.cells #[.slice aa an ac,.slice vga gn vgc] 68):=by
    have h1:=blk_set (o:=0) hz12 (.slice aa an ac)
    have h2:=blk_set (o:=1) h1 (.slice vga gn vgc)
    simpa using h2
  have hBt:But (fun k=>k=rb∨k=w.heap.size) w11 ((w12.setCell ⟨w.heap.size,0,none⟩ (.slice aa an ac)).setCell ⟨w.heap.size,1,none⟩ (.slice vga gn vgc)):=(HB12.out.setCell _ _ (.inr (.inr rfl))).setCell _ _ (.inr (.inr rfl))
  have HFH:Hid (KeepR w.heap.size ((w12.setCell ⟨w.heap.size,0,none⟩ (.slice aa an ac)).setCell ⟨w.heap.size,1,none⟩ (.slice vga gn vgc)).heap.size (rowT f R l) (.slice aa an ac) (.slice vga gn vgc) ((w12.setCell ⟨w.heap.size,0,none⟩ (.slice aa an ac)).setCell ⟨w.heap.size,1,none⟩ (.slice vga gn vgc))∧Below w.heap.size w ((w12.setCell ⟨w.heap.size,0,none⟩ (.slice aa an ac)).setCell ⟨w.heap.size,1,none⟩ (.slice vga gn vgc))):=by
    refine ⟨fun W' Dd hb hd=>HF.out W' (fun k=>(k=rb∨k=w.heap.size)∨Dd k) ((hBt.mono (fun _ _ h=>.inl h)).trans (hb.mono (fun _ _ h=>.inr h))) (fun k hk=>?_),HBE.out _ hBt⟩
    have:=hBt.size
    rcases hk with (e | e) | e
    · exact .inl e
    · exact .inr (.inl e)
    · rcases hd k e with e' | e'
      · exact .inr (.inr (.inl e'))
      · exact .inr (.inr (.inr (by omega)))
  clear HF hb12 hz12 hBt
  go_wp2_with fail
  refine bodyPost_ret (results_cell_row rfl _ _ w.heap.size 68 #[.slice aa an ac,.slice vga gn vgc] (0,0) _ rfl hz13 Tryz.underlying68 rfl (by kernel_rfl)) rfl ?_
  exact ⟨_,_,rfl,HFH.out⟩
end Go.Proofs.YtbilbgjojdlobaaGreatDoor
namespace Go.Proofs.YtbilbgjojdlobaaGreatDoor
open Go.RowKit Go.Shelf
structure Leaving {α:Type} (J:(Nat→Prop)→List α→World→Prop):Prop where
  new:∀ A pre W W',J A pre W→Below W.heap.size W W'→J (fun k=>A k∨(W.heap.size≤k∧k<W'.heap.size)) pre W'
  old:∀ A pre W k,J A pre W→A k→k<W.heap.size
  less:∀ A B pre W,J A pre W→(∀ k,B k→A k)→J B pre W
structure Feeds {α:Type} (n:Nat) (P:Program) (l:Nat) (encs:α→Array Value) (N:Nat) (Ok:α→Prop) (Fx:World→Prop) (J:(Nat→Prop)→List α→World→Prop):Prop extends Leaving J where
  fx:∀ A pre W,J A pre W→Fx W
  yield:∀ A pre x W1,J A pre W1→Ok x→pre.length<N→YieldAt Fence.wide n P l (encs x) W1 fun e W'=>e=.returned (.bool true)∧J A (pre++[x]) W'∧But (fun k=>¬ A k) W1 W'
def GivesAt {α:Type} (n:Nat) (P:Program) (g:Nat) (lb:Array Value) (encs:α→Array Value) (Pre:World→World→Prop) (S:List α→Prop) (N:Nat) (Ok:α→Prop) (A0:Nat→Prop) (Fx:World→Prop) (W:World):Prop :=
  ∀ (l:Nat) (J:(Nat→Prop)→List α→World→Prop),Feeds (n - 1) P l encs N Ok Fx J→(∀ W',Pre W W'→J A0 [] W') →
    CallsIn Fence.wide n P g (#[.func (.yield l) #[] #[]]++lb) W fun e W'=>(∃ v,e=.returned v)∧∃ xs,S xs∧J A0 xs W'
theorem But.same {D:Nat→Prop} {a b:World} (h:But D a b) {k:Nat} {o:Obj} (hk:a.heap[k]?=some o) (hd:¬ D k):b.heap[k]?=some o:=(h.block k (Array.getElem?_eq_some_iff.1 hk).1 hd).trans hk
theorem But.putObj (W:World) (l:Nat) (o:Obj):But (fun k=>k=l) W (W.putObj l o):=by
  have hg:=grownBy_putObj' W l o
  exact ⟨hg.os,hg.tape,hg.output,hg.size,fun k hk hd=>hg.block k hk (fun e=>hd (by cases e; rfl))⟩
theorem wpIn_range_P {n:Nat} {P:Program} {α:Type} {g:Operand} {ps:Array Tmp} {assign body:Code} {Q:Exit→Act→World→Prop} {a:Act} {w:World} (h1:1≤n)
    {gf:Nat} {lb:Array Value} (hg:a.eval g=.func (.func gf) #[] lb) (eg:∀ args w,(callFunc gf args).run P w=.ok (.enter gf args) w)
    {encs:α→Array Value} {Pre:World→World→Prop} {S:List α→Prop} {N:Nat} {Ok:α→Prop} {A0:Nat→Prop} {Fx:World→Prop} (hps:∀ x,(encs x).size=ps.size)
    (hseq:∀ W,Below w.heap.size w W→GivesAt (n - 1) P gf lb encs Pre S N Ok A0 Fx W)
    (I:(Nat→Prop)→List α→World→Prop) (hI:Leaving I) (hfx:∀ A pre W,I A pre W→Fx W)
    (hturn:∀ A pre W W',I A pre W→But (fun k=>k=w.heap.size+1) W W'→A (w.heap.size+1)→I A pre W')
    (h0:∀ W W',Below w.heap.size w W→W.heap.size=w.heap.size+2→Pre W W'→I (fun k=>A0 k∨k=w.heap.size∨k=w.heap.size+1) [] W'∧W'.heap[w.heap.size]?=W.heap[w.heap.size]?∧W'.heap[w.heap.size+1]?=W.heap[w.heap.size+1]?)
    (Ax:α→Act→Prop)
    (hassign:∀ (l:Nat) (x:α) (W:World) (K:Act→World→Prop),(∀ a',Ax x a'→K a' W) →
      assign.wpIn (Fence.wide.inRound l) (n - 1 - 1) P (Exit.then K (fun _ _ _=>False)) { tmps:=(ps.zip (encs x)).foldl (fun t (p,v)=>t.setIfInBounds p v) a.tmps,defers:=[] } W)
    (hbody:∀ (l:Nat) (A:Nat→Prop) (pre:List α) (x:α) (a':Act) (W:World),I A pre W→Ax x a'→Ok x→pre.length<N →
      body.wpIn (Fence.wide.inRound l) (n - 1 - 1) P (fun e _ W'=>e=.normal∧I A (pre++[x]) W'∧But (fun k=>¬ A k) W W') a' W)
    (hdone:∀ (xs:List α) (W:World),S xs→I (fun k=>A0 k∨k=w.heap.size∨k=w.heap.size+1) xs W→W.heap[w.heap.size]?=some (.deferred (some []))→Q .normal { a with defers:={ target:=.collected w.heap.size,args:=#[] } :: a.defers } W) :
    (Code.rangeFunc g ps assign body).wpIn Fence.wide n P Q a w:=by
  refine wpIn_rangeFunc fun fn hfn=>?_
  let rd:Loop:={ state:=.ready,pending:=none,fn:=fn,tmps:=a.tmps,params:=ps,assign:=assign,body:=body,defers:=w.heap.size }
  let bs:Loop:={ rd with state:=.busy }
  have hen:(Instr.enterLoop fn a.tmps ps assign body Fence.wide.round).run P w=.ok (w.heap.size+1,[{ target:=.collected w.heap.size,args:=#[] }]) ((w.alloc (.deferred (some []))).alloc (.loop rd)):=run_enterLoop_outer fn a.tmps ps assign body
  have e1:((w.alloc (.deferred (some []))).alloc (.loop rd)).heap[w.heap.size+1]?=some (.loop rd):=by
    have:=World.alloc_heap_new (w.alloc (.deferred (some []))) (.loop rd)
    rwa [World.size_alloc] at this
  have e0:((w.alloc (.deferred (some []))).alloc (.loop rd)).heap[w.heap.size]?=some (.deferred (some [])) :=
    (Below.heap_alloc _ _ _ (by simp)).trans (World.alloc_heap_new w _)
  have eB:Below w.heap.size w ((w.alloc (.deferred (some []))).alloc (.loop rd)):=((Below.refl _ w).alloc (Nat.le_refl _) _).alloc (by simp) _
  have eS:((w.alloc (.deferred (some []))).alloc (.loop rd)).heap.size=w.heap.size+2:=by simp
  generalize (w.alloc (.deferred (some []))).alloc (.loop rd)=W1 at *
  refine ⟨w.heap.size+1,_,W1,{ target:=.fn (.func gf) lb,args:=#[.func (.yield (w.heap.size+1)) #[] #[]] },W1,gf,#[.func (.yield (w.heap.size+1)) #[] #[]]++lb,W1,hen,?_,fun _ _=>trivial,?_,fun _=>h1,?_⟩
  · simp only [resolve,hg]
    simp [go_sem]
  · simp [invoke,go_sem,eg]
  refine (hseq W1 eB (w.heap.size+1) (fun A pre W=>I (fun k=>A k∨k=w.heap.size∨k=w.heap.size+1) pre W∧W.heap[w.heap.size+1]?=some (.loop rd)∧W.heap[w.heap.size]?=some (.deferred (some []))) ⟨⟨?_,?_,?_⟩,?_,?_⟩ ?_).mono ?_
  · rintro A pre W W' ⟨k0,k1,k2⟩ hb
    have h2:=hI.new _ _ _ _ k0 hb
    refine ⟨hI.less _ _ _ _ h2 (fun k hk=>?_),(hb.block _ (Array.getElem?_eq_some_iff.1 k1).1).trans k1,(hb.block _ (Array.getElem?_eq_some_iff.1 k2).1).trans k2⟩
    rcases hk with (hk | hk) | hk
    · exact .inl (.inl hk)
    · exact .inr hk
    · exact .inl (.inr hk)
  · rintro A pre W k ⟨k0,k1,k2⟩ hk
    exact hI.old _ _ _ k k0 (.inl hk)
  · rintro A B pre W ⟨k0,k1,k2⟩ hk
    exact ⟨hI.less _ _ _ _ k0 (fun k h=>h.imp (hk k) id),k1,k2⟩
  · rintro A pre W ⟨k0,_,_⟩
    exact hfx _ _ _ k0
  · -- a round
    rintro A pre x W ⟨k0,k1,k2⟩ hOk hlen
    have hy:(Instr.yield (w.heap.size+1) (encs x)).run P W=_:=run_yield k1 (hps x)
    refine ⟨fn,_,assign,body,hy,roundIn_of_wpIn hfn (hassign _ x W _ ?_)⟩
    intro a' f4
    have mlt:=(Array.getElem?_eq_some_iff.1 k1).1
    have u1:(W.putObj (w.heap.size+1) (.loop bs)).heap[w.heap.size+1]?=some (.loop bs):=World.putObj_heap_same mlt
    have u2:(W.putObj (w.heap.size+1) (.loop bs)).heap[w.heap.size]?=some (.deferred (some [])):=(World.putObj_heap_other (by omega)).trans k2
    refine ⟨_,run_beginRound k1 rfl,?_⟩
    have q1:=But.putObj W (w.heap.size+1) (.loop bs)
    refine wpIn_mono (hbody _ _ pre x a' _ (hturn _ _ _ _ k0 q1 (.inr (.inr rfl))) f4 hOk hlen) ?_
    rintro e a3 W3 ⟨rfl,p3,p1⟩
    have v1:=p1.same u1 (fun h=>h (.inr (.inr rfl)))
    have v2:=p1.same u2 (fun h=>h (.inr (.inl rfl)))
    have q2:=But.putObj W3 (w.heap.size+1) (.loop rd)
    refine ⟨_,_,run_endRound none v1,rfl,⟨hturn _ _ _ _ p3 q2 (.inr (.inr rfl)),?_,?_⟩,?_⟩
    · exact World.putObj_heap_same (Array.getElem?_eq_some_iff.1 v1).1
    · exact (World.putObj_heap_other (by omega)).trans v2
    · refine ⟨q2.os.trans (p1.os.trans q1.os),q2.tape.trans (p1.tape.trans q1.tape),q2.output.trans (p1.output.trans q1.output),Nat.le_trans q1.size (Nat.le_trans p1.size q2.size),fun k hk hd=>?_⟩
      have hA:A k:=Classical.byContradiction hd
      by_cases hkD:k=w.heap.size+1
      · subst hkD
        rw [k1]
        exact World.putObj_heap_same (Array.getElem?_eq_some_iff.1 v1).1
      · have r1:=q1.block k hk hkD
        have r2:=p1.block k (Nat.lt_of_lt_of_le hk q1.size) (fun h=>h (.inl hA))
        have r3:=q2.block k (Nat.lt_of_lt_of_le hk (Nat.le_trans q1.size p1.size)) hkD
        exact r3.trans (r2.trans r1)
  · intro W' hpre
    obtain ⟨j0,j1,j2⟩:=h0 W1 W' eB eS hpre
    exact ⟨j0,j2.trans e1,j1.trans e0⟩
  · -- behind it
    rintro e W2 ⟨⟨v,rfl⟩,xs,hS,k0,k1,k2⟩
    refine ⟨none,_,run_endLoop k1 (by simp [rd]),?_⟩
    exact hdone xs _ hS (hturn _ _ _ _ k0 (But.putObj _ _ _) (.inr (.inr rfl))) ((World.putObj_heap_other (by omega)).trans k2)
structure FeedsW {α:Type} (n:Nat) (P:Program) (l:Nat) (encs:α→Array Value) (Ok:(Nat→Prop)→List α→α→World→Prop) (Fx:World→Prop) (J:(Nat→Prop)→List α→World→Prop) (St:World→Prop):Prop extends Leaving J where
  fx:∀ A pre W,J A pre W→Fx W
  yield:∀ A pre x W1,J A pre W1→Ok A pre x W1→YieldAt Fence.wide n P l (encs x) W1 fun e W'=>(e=.returned (.bool true)∧J A (pre++[x]) W'∧But (fun k=>¬ A k) W1 W')∨(e=.returned (.bool false)∧St W')
def GivesW {α:Type} (n:Nat) (P:Program) (g:Nat) (lb:Array Value) (encs:α→Array Value) (Pre:World→World→Prop) (S:List α→Prop) (Ok:(Nat→Prop)→List α→α→World→Prop) (A0:Nat→Prop) (Fx:World→Prop) (W:World):Prop :=
  ∀ (l:Nat) (J:(Nat→Prop)→List α→World→Prop) (St:World→Prop),FeedsW (n - 1) P l encs Ok Fx J St→(∀ W',Pre W W'→J A0 [] W') →
    CallsIn Fence.wide n P g (#[.func (.yield l) #[] #[]]++lb) W fun e W'=>(∃ v,e=.returned v)∧((∃ xs,S xs∧J A0 xs W')∨St W')
theorem wpIn_range_W {n:Nat} {P:Program} {α:Type} {g:Operand} {ps:Array Tmp} {assign body:Code} {Q:Exit→Act→World→Prop} {a:Act} {w:World} (h1:1≤n)
    {gf:Nat} {lb:Array Value} (hg:a.eval g=.func (.func gf) #[] lb) (eg:∀ args w,(callFunc gf args).run P w=.ok (.enter gf args) w)
    {encs:α→Array Value} {Pre:World→World→Prop} {S:List α→Prop} {Ok:(Nat→Prop)→List α→α→World→Prop} {A0:Nat→Prop} {Fx:World→Prop} (hps:∀ x,(encs x).size=ps.size)
    (hseq:∀ W,Below w.heap.size w W→GivesW (n - 1) P gf lb encs Pre S Ok A0 Fx W)
    (I:(Nat→Prop)→List α→World→Prop) (hI:Leaving I) (hfx:∀ A pre W,I A pre W→Fx W)
    (hturn:∀ A pre W W',I A pre W→But (fun k=>k=w.heap.size+1) W W'→A (w.heap.size+1)→(∃ r,W.heap[w.heap.size+1]?=some (.loop r))→I A pre W')
    (hok:∀ A pre x W W',Ok A pre x W→But (fun k=>k=w.heap.size+1) W W'→(∃ r,W.heap[w.heap.size+1]?=some (.loop r))→Ok A pre x W')
    (h0:∀ W W',Below w.heap.size w W→W.heap.size=w.heap.size+2→Pre W W'→I (fun k=>A0 k∨k=w.heap.size∨k=w.heap.size+1) [] W'∧W'.heap[w.heap.size]?=W.heap[w.heap.size]?∧W'.heap[w.heap.size+1]?=W.heap[w.heap.size+1]?)
    (Ax:α→Act→Prop) (Ix:World→Prop)
    (hassign:∀ (l:Nat) (x:α) (W:World) (K:Act→World→Prop),(∀ a',Ax x a'→K a' W) →
      assign.wpIn (Fence.wide.inRound l) (n - 1 - 1) P (Exit.then K (fun _ _ _=>False)) { tmps:=(ps.zip (encs x)).foldl (fun t (p,v)=>t.setIfInBounds p v) a.tmps,defers:=[] } W)
    (hbody:∀ (l:Nat) (A:Nat→Prop) (pre:List α) (x:α) (a':Act) (W:World),I (fun k=>A k∨k=w.heap.size∨k=w.heap.size+1) pre W→Ax x a'→Ok A pre x W →
      body.wpIn (Fence.wide.inRound l) (n - 1 - 1) P (fun e _ W'=>(e=.normal∧I (fun k=>A k∨k=w.heap.size∨k=w.heap.size+1) (pre++[x]) W'∧But (fun k=>¬ (A k∨k=w.heap.size∨k=w.heap.size+1)) W W')∨(e=.ret∧Ix W'∧But (fun k=>¬ (A k∨k=w.heap.size∨k=w.heap.size+1)) W W')) a' W)
    (hdone:∀ (xs:List α) (W:World),S xs→I (fun k=>A0 k∨k=w.heap.size∨k=w.heap.size+1) xs W→W.heap[w.heap.size]?=some (.deferred (some []))→Q .normal { a with defers:={ target:=.collected w.heap.size,args:=#[] } :: a.defers } W)
    (hleft:∀ (W W':World),Ix W→But (fun k=>k=w.heap.size+1) W W'→(∃ r,W.heap[w.heap.size+1]?=some (.loop r))→W'.heap[w.heap.size]?=some (.deferred (some []))→Q .ret { a with defers:={ target:=.collected w.heap.size,args:=#[] } :: a.defers } W') :
    (Code.rangeFunc g ps assign body).wpIn Fence.wide n P Q a w:=by
  refine wpIn_rangeFunc fun fn hfn=>?_
  let rd:Loop:={ state:=.ready,pending:=none,fn:=fn,tmps:=a.tmps,params:=ps,assign:=assign,body:=body,defers:=w.heap.size }
  let bs:Loop:={ rd with state:=.busy }
  let dn:Loop:={ rd with state:=.done,pending:=some .ret }
  have hen:(Instr.enterLoop fn a.tmps ps assign body Fence.wide.round).run P w=.ok (w.heap.size+1,[{ target:=.collected w.heap.size,args:=#[] }]) ((w.alloc (.deferred (some []))).alloc (.loop rd)):=run_enterLoop_outer fn a.tmps ps assign body
  have e1:((w.alloc (.deferred (some []))).alloc (.loop rd)).heap[w.heap.size+1]?=some (.loop rd):=by
    have:=World.alloc_heap_new (w.alloc (.deferred (some []))) (.loop rd)
    rwa [World.size_alloc] at this
  have e0:((w.alloc (.deferred (some []))).alloc (.loop rd)).heap[w.heap.size]?=some (.deferred (some [])) :=
    (Below.heap_alloc _ _ _ (by simp)).trans (World.alloc_heap_new w _)
  have eB:Below w.heap.size w ((w.alloc (.deferred (some []))).alloc (.loop rd)):=((Below.refl _ w).alloc (Nat.le_refl _) _).alloc (by simp) _
  have eS:((w.alloc (.deferred (some []))).alloc (.loop rd)).heap.size=w.heap.size+2:=by simp
  generalize (w.alloc (.deferred (some []))).alloc (.loop rd)=W1 at *
  refine ⟨w.heap.size+1,_,W1,{ target:=.fn (.func gf) lb,args:=#[.func (.yield (w.heap.size+1)) #[] #[]] },W1,gf,#[.func (.yield (w.heap.size+1)) #[] #[]]++lb,W1,hen,?_,fun _ _=>trivial,?_,fun _=>h1,?_⟩
  · simp only [resolve,hg]
    simp [go_sem]
  · simp [invoke,go_sem,eg]
  refine (hseq W1 eB (w.heap.size+1) (fun A pre W=>I (fun k=>A k∨k=w.heap.size∨k=w.heap.size+1) pre W∧W.heap[w.heap.size+1]?=some (.loop rd)∧W.heap[w.heap.size]?=some (.deferred (some []))) (fun W=>W.heap[w.heap.size+1]?=some (.loop dn)∧W.heap[w.heap.size]?=some (.deferred (some []))∧∃ W0,Ix W0∧But (fun k=>k=w.heap.size+1) W0 W∧∃ r,W0.heap[w.heap.size+1]?=some (.loop r)) ⟨⟨?_,?_,?_⟩,?_,?_⟩ ?_).mono ?_
  · rintro A pre W W' ⟨k0,k1,k2⟩ hb
    have h2:=hI.new _ _ _ _ k0 hb
    refine ⟨hI.less _ _ _ _ h2 (fun k hk=>?_),(hb.block _ (Array.getElem?_eq_some_iff.1 k1).1).trans k1,(hb.block _ (Array.getElem?_eq_some_iff.1 k2).1).trans k2⟩
    rcases hk with (hk | hk) | hk
    · exact .inl (.inl hk)
    · exact .inr hk
    · exact .inl (.inr hk)
  · rintro A pre W k ⟨k0,k1,k2⟩ hk
    exact hI.old _ _ _ k k0 (.inl hk)
  · rintro A B pre W ⟨k0,k1,k2⟩ hk
    exact ⟨hI.less _ _ _ _ k0 (fun k h=>h.imp (hk k) id),k1,k2⟩
  · rintro A pre W ⟨k0,_,_⟩
    exact hfx _ _ _ k0
  · -- a round
    rintro A pre x W ⟨k0,k1,k2⟩ hOk
    have hy:(Instr.yield (w.heap.size+1) (encs x)).run P W=_:=run_yield k1 (hps x)
    refine ⟨fn,_,assign,body,hy,roundIn_of_wpIn hfn (hassign _ x W _ ?_)⟩
    intro a' f4
    have mlt:=(Array.getElem?_eq_some_iff.1 k1).1
    have u1:(W.putObj (w.heap.size+1) (.loop bs)).heap[w.heap.size+1]?=some (.loop bs):=World.putObj_heap_same mlt
    have u2:(W.putObj (w.heap.size+1) (.loop bs)).heap[w.heap.size]?=some (.deferred (some [])):=(World.putObj_heap_other (by omega)).trans k2
    refine ⟨_,run_beginRound k1 rfl,?_⟩
    have q1:=But.putObj W (w.heap.size+1) (.loop bs)
    refine wpIn_mono (hbody _ A pre x a' _ (hturn _ _ _ _ k0 q1 (.inr (.inr rfl)) ⟨_,k1⟩) f4 (hok _ _ _ _ _ hOk q1 ⟨_,k1⟩)) ?_
    rintro e a3 W3 (⟨rfl,p3,p1⟩ | ⟨rfl,p3,p1⟩)
    · have v1:=p1.same u1 (fun h=>h (.inr (.inr rfl)))
      have v2:=p1.same u2 (fun h=>h (.inr (.inl rfl)))
      have q2:=But.putObj W3 (w.heap.size+1) (.loop rd)
      refine ⟨_,_,run_endRound none v1,.inl ⟨rfl,⟨hturn _ _ _ _ p3 q2 (.inr (.inr rfl)) ⟨_,v1⟩,?_,?_⟩,?_⟩⟩
      · exact World.putObj_heap_same (Array.getElem?_eq_some_iff.1 v1).1
      · exact (World.putObj_heap_other (by omega)).trans v2
      · refine ⟨q2.os.trans (p1.os.trans q1.os),q2.tape.trans (p1.tape.trans q1.tape),q2.output.trans (p1.output.trans q1.output),Nat.le_trans q1.size (Nat.le_trans p1.size q2.size),fun k hk hd=>?_⟩
        have hA:A k:=Classical.byContradiction hd
        by_cases hkD:k=w.heap.size+1
        · subst hkD
          rw [k1]
          exact World.putObj_heap_same (Array.getElem?_eq_some_iff.1 v1).1
        · have r1:=q1.block k hk hkD
          have r2:=p1.block k (Nat.lt_of_lt_of_le hk q1.size) (fun h=>h (.inl hA))
          have r3:=q2.block k (Nat.lt_of_lt_of_le hk (Nat.le_trans q1.size p1.size)) hkD
          exact r3.trans (r2.trans r1)
    · have v1:=p1.same u1 (fun h=>h (.inr (.inr rfl)))
      have v2:=p1.same u2 (fun h=>h (.inr (.inl rfl)))
      have q2:=But.putObj W3 (w.heap.size+1) (.loop dn)
      refine ⟨_,_,run_endRound (some .ret) v1,.inr ⟨rfl,?_,?_,W3,p3,q2,_,v1⟩⟩
      · exact World.putObj_heap_same (Array.getElem?_eq_some_iff.1 v1).1
      · exact (World.putObj_heap_other (by omega)).trans v2
  · intro W' hpre
    obtain ⟨j0,j1,j2⟩:=h0 W1 W' eB eS hpre
    exact ⟨j0,j2.trans e1,j1.trans e0⟩
  · -- behind it
    rintro e W2 ⟨⟨v,rfl⟩,⟨xs,hS,k0,k1,k2⟩ | ⟨k1,k2,W0,k3,k4,r,k5⟩⟩
    · refine ⟨none,_,run_endLoop k1 (by simp [rd]),?_⟩
      exact hdone xs _ hS (hturn _ _ _ _ k0 (But.putObj _ _ _) (.inr (.inr rfl)) ⟨_,k1⟩) ((World.putObj_heap_other (by omega)).trans k2)
    · refine ⟨some .ret,_,run_endLoop k1 (by simp [dn]),?_⟩
      have q3:=But.putObj W2 (w.heap.size+1) (.loop { dn with state:=.exhausted })
      exact wpIn_ret (hleft W0 _ k3 ⟨q3.os.trans k4.os,q3.tape.trans k4.tape,q3.output.trans k4.output,Nat.le_trans k4.size q3.size,fun k hk hd=>(q3.block k (Nat.lt_of_lt_of_le hk k4.size) hd).trans (k4.block k hk hd)⟩ ⟨r,k5⟩ ((World.putObj_heap_other (by omega)).trans k2))
end Go.Proofs.YtbilbgjojdlobaaGreatDoor
namespace Go.Proofs.YtbilbgjojdlobaaGreatDoor
open Go.RowKit Go.Shelf Go.Proofs
shelf_lay_g SlLaysH0.n8 Slgf 8 at Tryz 149 as Tryz.containsI
shelf_lay_g SlLaysH0.n8 Slgf 8 at Tryz 144 as Tryz.containsP
def encIt (x:It):List Value:=[.int .i64 x.sym,.string x.fld,.string x.als]
set_option maxHeartbeats 400000 in
theorem containsI_none (ao:Option Addr) (cap:Nat) (fv:Value) (w:World) :
    Calls Tryz.prog 149 #[.slice ao 0 cap,fv] w fun e w'=>e=.returned (.bool false)∧Below w.heap.size w w':=by
  go_enter Tryz.func149,Tryz.ntmps149
  go_wp2
  refine wp_loop_once ?_
  go_wp2
  go_ret
  exact ⟨rfl,Below.refl _ _⟩
set_option maxHeartbeats 400000 in
theorem containsP_none (ao:Option Addr) (cap:Nat) (fv:Value) (w:World) :
    Calls Tryz.prog 144 #[.slice ao 0 cap,fv] w fun e w'=>e=.returned (.bool false)∧Below w.heap.size w w':=by
  go_enter Tryz.func144,Tryz.ntmps144
  go_wp2
  refine wp_loop_once ?_
  go_wp2
  go_ret
  exact ⟨rfl,Below.refl _ _⟩
theorem range_any {α:Type} (l:List α) (l0:α) (p:α→Bool):((List.range l.length).take l.length).any (fun i=>p (l.getD i l0))=l.any p:=by
  rw [List.take_of_length_le (by simp)]
  rw [Bool.eq_iff_iff,List.any_eq_true,List.any_eq_true]
  constructor
  · rintro ⟨i,hi,h⟩
    have hi':i<l.length:=by simpa using hi
    refine ⟨l[i],List.getElem_mem hi',?_⟩
    rwa [List.getD_eq_getElem?_getD,List.getElem?_eq_getElem hi'] at h
  · rintro ⟨x,hx,h⟩
    obtain ⟨i,hi,rfl⟩:=List.getElem_of_mem hx
    refine ⟨i,by simpa using hi,?_⟩
    rw [List.getD_eq_getElem?_getD,List.getElem?_eq_getElem hi]
    exact h
theorem getD_mem {α:Type} {l:List α} {l0:α} (h0:l0∈l) (i:Nat):l.getD i l0∈l:=by
  rw [List.getD_eq_getElem?_getD]
  cases h:l[i]? with
  | none=>exact h0
  | some x=>exact List.mem_of_getElem? h
theorem anyItems (g:Nat) (lb:Array Value) (eg:∀ args w,(callFunc g args).run Tryz.prog w=.ok (.enter g args) w) (p:It→Bool) (l:List It) (v:Value) (w:World) (hl:SlT l v w) (hlen:l.length≤1000)
    (hp:∀ (W:World) (x:It),x∈l→Below w.heap.size w W→Calls Tryz.prog g (#[.agg #[.int .i64 x.sym,.string x.fld,.string x.als]]++lb) W fun e w'=>e=.returned (.bool (p x))∧Below w.heap.size w w') :
    Calls Tryz.prog 149 #[v,.func (.func g) #[] lb] w fun e w'=>e=.returned (.bool (l.any p))∧Below w.heap.size w w':=by
  obtain ⟨ao,cap,rfl,hI,_⟩:=hl
  by_cases h0:l=[]
  · subst h0
    exact containsI_none ao cap _ w
  · obtain ⟨l0,hl0⟩:∃ l0,l0∈l:=List.exists_mem_of_ne_nil l h0
    have hpos:0<l.length:=List.length_pos_of_mem hl0
    obtain ⟨b,off,rfl,hb,_⟩:=hI.at (Below.refl _ _) hpos
    have h:=AnyQ.slices_ContainsFunc Tryz.containsI 3 Tryz.isAgg55 Tryz.sizeOf55 (fun i:Nat=>encIt (l.getD i l0)) (fun _=>rfl) (fun i=>p (l.getD i l0)) g lb eg b off l.length cap (List.range l.length) w
      (fun W x hW=>hp W _ (getD_mem hl0 x) hW) (by simp) (by omega) hb (fun j hj i v hi=>by
        have hj':j<l.length:=by simpa using hj
        rw [getElem!_pos (List.range l.length) j hj,List.getElem_range] at hi
        rw [List.getD_eq_getElem?_getD,List.getElem?_eq_getElem hj'] at hi
        obtain ⟨b',off',e1,_,k0,k1,k2,_⟩:=hI.at (Below.refl _ _) hj'
        cases e1
        match i,hi with
        | 0,hi=>simp [encIt] at hi; rw [← hi]; exact k0
        | 1,hi=>simp [encIt] at hi; rw [← hi]; exact k1
        | 2,hi=>simp [encIt] at hi; rw [← hi]; exact k2
        | i+3,hi=>simp [encIt] at hi)
    rw [range_any] at h
    exact h
theorem noProds (g:Nat) (lb:Array Value) (eg:∀ args w,(callFunc g args).run Tryz.prog w=.ok (.enter g args) w) (l:List Pr) (ao:Option Addr) (cap:Nat) (w:World) (hl:PrsAt l ao w) (hlen:l.length≤1000)
    (hp:∀ (W:World) (x:Pr) (v:Value),x∈l→SlT x.right v W→Below w.heap.size w W→Calls Tryz.prog g (#[.agg #[.int .i64 x.left,v,.int .i64 x.prec]]++lb) W fun e w'=>e=.returned (.bool false)∧Below w.heap.size w w') :
    Calls Tryz.prog 144 #[.slice ao l.length cap,.func (.func g) #[] lb] w fun e w'=>e=.returned (.bool false)∧Below w.heap.size w w':=by
  by_cases h0:l=[]
  · subst h0
    exact containsP_none ao cap _ w
  · obtain ⟨l0,hl0⟩:∃ l0,l0∈l:=List.exists_mem_of_ne_nil l h0
    have hpos:0<l.length:=List.length_pos_of_mem hl0
    obtain ⟨b,off,_,hao,hb,_⟩:=hl.at (Below.refl _ _) hpos
    subst hao
    have hall:∀ i:Nat,∃ q:Pr × Value,q.1∈l∧SlT q.1.right q.2 w∧(i<l.length→w.cell? ⟨b,off+i * 3,none⟩=some (.int .i64 q.1.left)∧w.cell? ⟨b,off+i * 3+1,none⟩=some q.2∧w.cell? ⟨b,off+i * 3+2,none⟩=some (.int .i64 q.1.prec)):=fun i=>by
      by_cases hi:i<l.length
      · obtain ⟨b',off',v,e,_,k0,k1,k2,hv,_⟩:=hl.at (Below.refl _ _) hi
        cases e
        exact ⟨(l[i],v),List.getElem_mem hi,hv,fun _=>⟨k0,k1,k2⟩⟩
      · obtain ⟨b',off',v,e,_,k0,k1,k2,hv,_⟩:=hl.at (Below.refl _ _) hpos
        exact ⟨(l[0],v),List.getElem_mem hpos,hv,fun h=>absurd h hi⟩
    obtain ⟨q,hq⟩:=Classical.axiomOfChoice hall
    have h:=AnyQ.slices_ContainsFunc Tryz.containsP 3 Tryz.isAgg58 Tryz.sizeOf58 (fun i:Nat=>[.int .i64 (q i).1.left,(q i).2,.int .i64 (q i).1.prec]) (fun _=>rfl) (fun _=>false) g lb eg b off l.length cap (List.range l.length) w
      (fun W x hW=>hp W (q x).1 (q x).2 (hq x).1 ((hq x).2.1.next hW) hW) (by simp) (by omega) hb (fun j hj i v hi=>by
        have hj':j<l.length:=by simpa using hj
        rw [getElem!_pos (List.range l.length) j hj,List.getElem_range] at hi
        obtain ⟨k0,k1,k2⟩:=(hq j).2.2 hj'
        match i,hi with
        | 0,hi=>simp at hi; rw [← hi]; exact k0
        | 1,hi=>simp at hi; rw [← hi]; exact k1
        | 2,hi=>simp at hi; rw [← hi]; exact k2
        | i+3,hi=>simp at hi)
    rw [show ((List.range l.length).take l.length).any (fun _=>false)=false by simp] at h
    exact h
end Go.Proofs.YtbilbgjojdlobaaGreatDoor
namespace Go.Proofs.YtbilbgjojdlobaaGreatDoor
open Go.RowKit
set_option maxRecDepth 100000 in
set_option maxHeartbeats 800000 in
theorem symbols_any (f:Fl) (a:FlA) (w:World) (hp:f.n≤600) :
    Calls Tryz.prog 143 #[a.val f] w fun e w'=>e=.returned (.int .i64 f.n)∧Below w.heap.size w w':=by
  obtain ⟨ta,tc,na,nc,pa,pc⟩:=a
  unfold FlA.val
  simp only
  unfold Fl.n at *
  go_enter Tryz.func143,Tryz.ntmps143
  go_wp2_with fail
  go_ret
  exact ⟨ret_int (by omega),(Below.refl _ _).alloc (Nat.le_refl _) _⟩
set_option maxRecDepth 100000 in
set_option maxHeartbeats 800000 in
theorem isSymbol_any (f:Fl) (a:FlA) (x:Int) (w:World) (hp:f.n≤600) :
    Calls Tryz.prog 168 #[a.val f,.int .i64 x] w fun e w'=>e=.returned (.bool (decide (0≤x∧x<(f.n:Int))))∧Below w.heap.size w w':=by
  have hS:=fun W=>symbols_any f a W hp
  obtain ⟨ta,tc,na,nc,pa,pc⟩:=a
  unfold FlA.val at hS ⊢
  simp only at *
  have HS:Hid (∀ W,Calls Tryz.prog 143 #[.agg #[.slice ta f.terms.length tc,.slice na f.nons.length nc,.slice pa f.prods.length pc]] W fun e w'=>e=.returned (.int .i64 f.n)∧Below W.heap.size W w'):=hS
  clear hS
  have B0:Below w.heap.size w (w.alloc (Obj.cells #[Value.slice ta f.terms.length tc,Value.slice na f.nons.length nc,Value.slice pa f.prods.length pc] 25)):=(Below.refl _ _).alloc (Nat.le_refl _) _
  by_cases hx:0≤x
  · have hd:decide (0≤x)=true:=by simpa using hx
    go_enter Tryz.func168,Tryz.ntmps168
    go_wp2_with fail
    refine (HS.out _).mono ?_
    rintro e w1 ⟨rfl,hb1⟩
    have HB:Hid (Below w.heap.size w w1):=below_then B0 hb1 B0.size
    clear B0 hb1
    go_wp2_with fail
    go_ret
    exact ⟨ret_bool (by simp [hx]),HB.out⟩
  · have hd:decide (0≤x)=false:=by simpa using hx
    go_enter Tryz.func168,Tryz.ntmps168
    go_wp2_with fail
    go_ret
    exact ⟨rfl,B0⟩
set_option maxRecDepth 100000 in
set_option maxHeartbeats 800000 in
theorem soundProd1_any (f:Fl) (a:FlA) (x:It) (B:Nat) (w:World) (hp:f.n≤600) (hB:FBox f a B w) (hx:0≤x.sym∧x.sym<(f.n:Int)) :
    Calls Tryz.prog 169 #[.agg #[.int .i64 x.sym,.string x.fld,.string x.als],.pointer (some ⟨B,0,none⟩)] w fun e w'=>e=.returned (.bool false)∧Below w.heap.size w w':=by
  have hS:=fun W=>isSymbol_any f a x.sym W hp
  rw [show decide (0≤x.sym∧x.sym<(f.n:Int))=true from decide_eq_true hx] at hS
  obtain ⟨xs,xf,xa⟩:=x
  obtain ⟨ta,tc,na,nc,pa,pc⟩:=a
  obtain ⟨b0,b1,b2,b3⟩:=hB
  unfold FlA.val at hS
  simp only at *
  have HS:Hid (∀ W,Calls Tryz.prog 168 #[.agg #[Value.slice ta f.terms.length tc,Value.slice na f.nons.length nc,Value.slice pa f.prods.length pc],.int .i64 xs] W fun e w'=>e=.returned (.bool true)∧Below W.heap.size W w'):=hS
  clear hS
  have B0:Below w.heap.size w (w.alloc (Obj.cells #[Value.int .i64 xs,.string xf,.string xa] 55)):=(Below.refl _ _).alloc (Nat.le_refl _) _
  have hne:B≠w.heap.size:=by omega
  go_enter Tryz.func169,Tryz.ntmps169
  go_wp2_with fail
  refine (HS.out _).mono ?_
  rintro e w1 ⟨rfl,hb1⟩
  have HB:Hid (Below w.heap.size w w1):=below_then B0 hb1 B0.size
  clear B0 hb1
  go_wp2_with fail
  go_ret
  exact ⟨rfl,HB.out⟩
set_option maxRecDepth 100000 in
set_option maxHeartbeats 800000 in
theorem soundProd_any (f:Fl) (a:FlA) (p:Pr) (v:Value) (w:World) (hp:f.n≤600) (hv:SlT p.right v w) (hl:0≤p.left∧p.left<(f.n:Int)) (hr:p.right.length≤64) (hs:∀ x∈p.right,0≤x.sym∧x.sym<(f.n:Int)) :
    Calls Tryz.prog 146 #[a.val f,.agg #[.int .i64 p.left,v,.int .i64 p.prec]] w fun e w'=>e=.returned (.bool true)∧Below w.heap.size w w':=by
  have hS:=fun W=>isSymbol_any f a p.left W hp
  rw [show decide (0≤p.left∧p.left<(f.n:Int))=true from decide_eq_true hl] at hS
  have hC:=fun W (hb:Below w.heap.size w W) B (hB:FBox f a B W)=>anyItems 169 #[.pointer (some ⟨B,0,none⟩)] (enters_of Tryz.func169 (by kernel_rfl) rfl) (fun _=>false) p.right v W (hv.next hb) (by omega)
    (fun W' x hx hb'=>(soundProd1_any f a x B W' hp (hB.next hb') (hs x hx)).mono fun e w' ⟨h1,h2⟩=>⟨h1,below_then hb' h2 hb'.size⟩)
  have hany:p.right.any (fun _=>false)=false:=by simp
  rw [hany] at hC
  have X0:=FBox.new f a 25 w
  have B0:Below w.heap.size w (w.alloc (fobj f a 25)):=(Below.refl _ _).alloc (Nat.le_refl _) _
  obtain ⟨ta,tc,na,nc,pa,pc⟩:=a
  obtain ⟨va,vc,rfl,_⟩:=hv
  obtain ⟨pl,pr,pp⟩:=p
  unfold fobj at X0 B0
  unfold FlA.val at hS ⊢
  simp only at *
  have HS:Hid (∀ W,Calls Tryz.prog 168 #[.agg #[Value.slice ta f.terms.length tc,Value.slice na f.nons.length nc,Value.slice pa f.prods.length pc],.int .i64 pl] W fun e w'=>e=.returned (.bool true)∧Below W.heap.size W w'):=hS
  have HC:Hid (∀ W,Below w.heap.size w W→∀ B,FBox f ⟨ta,tc,na,nc,pa,pc⟩ B W→Calls Tryz.prog 149 #[.slice va pr.length vc,.func (.func 169) #[] #[.pointer (some ⟨B,0,none⟩)]] W fun e w'=>e=.returned (.bool false)∧Below W.heap.size W w'):=hC
  clear hS hC hany hs
  have hr':decide ((64:Int)<pr.length)=false:=by simp; omega
  have hr2:¬ (64:Int)<pr.length:=by omega
  have B1:Below w.heap.size w ((w.alloc (Obj.cells #[Value.slice ta f.terms.length tc,Value.slice na f.nons.length nc,Value.slice pa f.prods.length pc] 25)).alloc (Obj.cells #[Value.int IntKind.i64 pl,Value.slice va pr.length vc,Value.int IntKind.i64 pp] 58)):=B0.alloc B0.size _
  have X1:FBox f ⟨ta,tc,na,nc,pa,pc⟩ w.heap.size ((w.alloc (Obj.cells #[Value.slice ta f.terms.length tc,Value.slice na f.nons.length nc,Value.slice pa f.prods.length pc] 25)).alloc (Obj.cells #[Value.int IntKind.i64 pl,Value.slice va pr.length vc,Value.int IntKind.i64 pp] 58)):=X0.next ((Below.refl _ _).alloc (Nat.le_refl _) _)
  have P1:((w.alloc (Obj.cells #[Value.slice ta f.terms.length tc,Value.slice na f.nons.length nc,Value.slice pa f.prods.length pc] 25)).alloc (Obj.cells #[Value.int IntKind.i64 pl,Value.slice va pr.length vc,Value.int IntKind.i64 pp] 58)).cell? ⟨w.heap.size+1,1,none⟩=some (.slice va pr.length vc):=by go_simp
  have Z1:((w.alloc (Obj.cells #[Value.slice ta f.terms.length tc,Value.slice na f.nons.length nc,Value.slice pa f.prods.length pc] 25)).alloc (Obj.cells #[Value.int IntKind.i64 pl,Value.slice va pr.length vc,Value.int IntKind.i64 pp] 58)).heap.size=w.heap.size+2:=by simp
  clear X0 B0
  go_enter Tryz.func146,Tryz.ntmps146
  go_wp2_with fail
  generalize ((w.alloc (Obj.cells #[Value.slice ta f.terms.length tc,Value.slice na f.nons.length nc,Value.slice pa f.prods.length pc] 25)).alloc (Obj.cells #[Value.int IntKind.i64 pl,Value.slice va pr.length vc,Value.int IntKind.i64 pp] 58))=W1 at *
  refine (HS.out _).mono ?_
  rintro e w1 ⟨rfl,hb1⟩
  have B2:=below_then B1 hb1 B1.size
  have X2:=X1.next hb1
  have P2:=(hb1.cell (p:=⟨w.heap.size+1,1,none⟩) (by show w.heap.size+1<_; omega)).trans P1
  have HC2:=HC.out w1 B2 w.heap.size X2
  clear HC HS X1 P1 B1 X2 hb1
  go_wp2_with fail
  refine HC2.mono ?_
  rintro e w2 ⟨rfl,hb2⟩
  have HB:Hid (Below w.heap.size w w2):=below_then B2 hb2 B2.size
  clear B2 hb2 HC2
  go_wp2_with fail
  go_ret
  exact ⟨rfl,HB.out⟩
set_option maxRecDepth 100000 in
set_option maxHeartbeats 800000 in
theorem sound1_any (f:Fl) (a:FlA) (p:Pr) (v:Value) (B:Nat) (w:World) (hn:f.n≤600) (hB:FBox f a B w) (hv:SlT p.right v w) (hl:0≤p.left∧p.left<(f.n:Int)) (hr:p.right.length≤64) (hs:∀ x∈p.right,0≤x.sym∧x.sym<(f.n:Int)) :
    Calls Tryz.prog 145 #[.agg #[.int .i64 p.left,v,.int .i64 p.prec],.pointer (some ⟨B,0,none⟩)] w fun e w'=>e=.returned (.bool false)∧Below w.heap.size w w':=by
  have hS:=fun W (hb:Below w.heap.size w W)=>soundProd_any f a p v W hn (hv.next hb) hl hr hs
  obtain ⟨ta,tc,na,nc,pa,pc⟩:=a
  obtain ⟨va,vc,rfl,_⟩:=hv
  obtain ⟨pl,pr,pp⟩:=p
  obtain ⟨b0,b1,b2,b3⟩:=hB
  unfold FlA.val at hS
  simp only at *
  have HS:Hid (∀ W,Below w.heap.size w W→Calls Tryz.prog 146 #[.agg #[Value.slice ta f.terms.length tc,Value.slice na f.nons.length nc,Value.slice pa f.prods.length pc],.agg #[.int .i64 pl,.slice va pr.length vc,.int .i64 pp]] W fun e w'=>e=.returned (.bool true)∧Below W.heap.size W w'):=hS
  clear hS hs
  have B0:Below w.heap.size w (w.alloc (Obj.cells #[Value.int .i64 pl,.slice va pr.length vc,.int .i64 pp] 58)):=(Below.refl _ _).alloc (Nat.le_refl _) _
  have hne:B≠w.heap.size:=by omega
  go_enter Tryz.func145,Tryz.ntmps145
  go_wp2_with fail
  refine (HS.out _ B0).mono ?_
  rintro e w1 ⟨rfl,hb1⟩
  have HB:Hid (Below w.heap.size w w1):=below_then B0 hb1 B0.size
  clear B0 hb1
  go_wp2_with fail
  go_ret
  exact ⟨rfl,HB.out⟩
set_option maxRecDepth 100000 in
set_option maxHeartbeats 800000 in
theorem sound_any (f:Fl) (a:FlA) (w:World) (hf:FlAt f a w) (hp:FitP f) :
    Calls Tryz.prog 123 #[a.val f] w fun e w'=>e=.returned (.bool true)∧Below w.heap.size w w':=by
  have hn:f.n≤600:=hp.size
  have hS:=fun W=>symbols_any f a W hn
  have hC:=fun W (hb:Below w.heap.size w W) B (hB:FBox f a B W)=>noProds 145 #[.pointer (some ⟨B,0,none⟩)] (enters_of Tryz.func145 (by kernel_rfl) rfl) f.prods a.pa a.pc W (hf.2.2.1.next hb) (by have:=hp.prods; omega)
    (fun W' x v hx hv hb'=>(sound1_any f a x v B W' hn (hB.next hb') hv (by have:=hp.left x hx; unfold Fl.n; omega) (hp.right x hx) (fun y hy=>by have:=hp.sym x hx y hy; unfold Fl.n; omega)).mono fun e w' ⟨h1,h2⟩=>⟨h1,below_then hb' h2 hb'.size⟩)
  have X0:=FBox.new f a 25 w
  have B0:Below w.heap.size w (w.alloc (fobj f a 25)):=(Below.refl _ _).alloc (Nat.le_refl _) _
  have k1:=hp.nons
  have k2:=hp.prods
  clear hf hp
  obtain ⟨ta,tc,na,nc,pa,pc⟩:=a
  unfold fobj at X0 B0
  unfold FlA.val at hS ⊢
  simp only at *
  have HS:Hid (∀ W,Calls Tryz.prog 143 #[.agg #[Value.slice ta f.terms.length tc,Value.slice na f.nons.length nc,Value.slice pa f.prods.length pc]] W fun e w'=>e=.returned (.int .i64 f.n)∧Below W.heap.size W w'):=hS
  have HC:Hid (∀ W,Below w.heap.size w W→∀ B,FBox f ⟨ta,tc,na,nc,pa,pc⟩ B W→Calls Tryz.prog 144 #[.slice pa f.prods.length pc,.func (.func 145) #[] #[.pointer (some ⟨B,0,none⟩)]] W fun e w'=>e=.returned (.bool false)∧Below W.heap.size W w'):=hC
  clear hS hC
  have e1:((f.nons.length:Int) == 0)=false:=beq_eq_false_iff_ne.2 (by omega)
  have e2:decide ((600:Int)<(f.n:Int))=false:=by simp; omega
  have e3:decide ((400:Int)<(f.prods.length:Int))=false:=by simp; omega
  go_enter Tryz.func123,Tryz.ntmps123
  go_wp2_with fail
  generalize (w.alloc (Obj.cells #[Value.slice ta f.terms.length tc,Value.slice na f.nons.length nc,Value.slice pa f.prods.length pc] 25))=W1 at *
  refine (HS.out _).mono ?_
  rintro e w1 ⟨rfl,hb1⟩
  have B2:=below_then B0 hb1 B0.size
  have X2:=X0.next hb1
  have HC2:=HC.out w1 B2 w.heap.size X2
  obtain ⟨x0,x1,x2,x3⟩:=X2
  simp only at x1 x2 x3
  clear HC HS X0 B0 hb1
  go_wp2_with fail
  refine HC2.mono ?_
  rintro e w2 ⟨rfl,hb2⟩
  have HB:Hid (Below w.heap.size w w2):=below_then B2 hb2 B2.size
  clear B2 hb2 HC2 x0 x1 x2 x3
  go_wp2_with fail
  go_ret
  exact ⟨rfl,HB.out⟩
end Go.Proofs.YtbilbgjojdlobaaGreatDoor
namespace Go.Proofs.YtbilbgjojdlobaaGreatDoor
open Go.RowKit
end Go.Proofs.YtbilbgjojdlobaaGreatDoor
namespace Go.Proofs.YtbilbgjojdlobaaGreatDoor
def W64 (x:Nat):Prop:=x<18446744073709551616
def wOf (ws:List Nat) (i:Nat):Nat:=ws.getD i 0
def bin (ws:List Nat) (t:Nat):Bool:=(wOf ws (t / 64)).testBit (t % 64)
theorem wOf_get {ws:List Nat} {i:Nat} (h:i<ws.length):wOf ws i=ws[i]:=by
  unfold wOf; rw [List.getD_eq_getElem?_getD,List.getElem?_eq_getElem h]; rfl
theorem wOf_out {ws:List Nat} {i:Nat} (h:ws.length≤i):wOf ws i=0:=by
  unfold wOf; rw [List.getD_eq_getElem?_getD,List.getElem?_eq_none h]; rfl
theorem bin_lt {ws:List Nat} {t:Nat} (h:bin ws t=true):t<64 * ws.length:=by
  rcases Nat.lt_or_ge (t / 64) ws.length with h1 | h1
  · omega
  · unfold bin at h; rw [wOf_out h1] at h; simp at h
theorem andNot_zero {s o:Nat} (hs:W64 s) (ho:W64 o):o &&& (18446744073709551615 - s)=0↔s ||| o=s:=by
  unfold W64 at *
  have e:18446744073709551615 - s=2 ^ 64 - (s+1):=by omega
  rw [e]
  constructor
  · intro h
    apply Nat.eq_of_testBit_eq
    intro i
    have h1:=congrArg (fun x=>x.testBit i) h
    simp only [Nat.testBit_and,Nat.zero_testBit,Nat.testBit_two_pow_sub_succ (show s<2 ^ 64 by omega)] at h1
    rw [Nat.testBit_or]
    by_cases hi:i<64
    · simp [hi] at h1
      cases hb:o.testBit i with
      | false=>simp
      | true=>simp [h1 hb]
    · have:o.testBit i=false:=Nat.testBit_lt_two_pow (Nat.lt_of_lt_of_le (show o<2 ^ 64 by omega) (Nat.pow_le_pow_right (by omega) (by omega)))
      simp [this]
  · intro h
    apply Nat.eq_of_testBit_eq
    intro i
    simp only [Nat.testBit_and,Nat.zero_testBit,Nat.testBit_two_pow_sub_succ (show s<2 ^ 64 by omega)]
    have h1:=congrArg (fun x=>x.testBit i) h
    simp only [Nat.testBit_or] at h1
    cases hb:o.testBit i <;> cases hc:s.testBit i <;> simp_all
theorem or_lt {s o:Nat} (hs:W64 s) (ho:W64 o):W64 (s ||| o):=by
  unfold W64 at *
  have:s ||| o<2 ^ 64:=Nat.or_lt_two_pow (by omega) (by omega)
  omega
def joinTo (j:Nat) (s o:List Nat):List Nat:=(List.range s.length).map fun i=>if i<j then wOf s i ||| wOf o i else wOf s i
theorem joinTo_len (j:Nat) (s o:List Nat):(joinTo j s o).length=s.length:=by simp [joinTo]
theorem joinTo_get {j:Nat} {s o:List Nat} {i:Nat} (h:i<s.length):wOf (joinTo j s o) i=if i<j then wOf s i ||| wOf o i else wOf s i:=by
  rw [wOf_get (by rw [joinTo_len]; exact h)]
  simp [joinTo]
theorem wOf_ext {a b:List Nat} (hl:a.length=b.length) (h:∀ i,i<a.length→wOf a i=wOf b i):a=b:=by
  apply List.ext_getElem hl
  intro i h1 h2
  rw [← wOf_get h1,← wOf_get h2]
  exact h i h1
theorem joinTo_zero (s o:List Nat):joinTo 0 s o=s:=wOf_ext (joinTo_len _ _ _) fun i hi=>by rw [joinTo_len] at hi; rw [joinTo_get hi]; simp
theorem joinTo_succ {j:Nat} {s o:List Nat}:joinTo (j+1) s o=(joinTo j s o).set j (wOf s j ||| wOf o j):=by
  apply wOf_ext (by simp [joinTo_len])
  intro i hi
  rw [joinTo_len] at hi
  rw [joinTo_get hi,wOf_get (ws:=(joinTo j s o).set j (wOf s j ||| wOf o j)) (by simpa [joinTo_len] using hi),List.getElem_set]
  split <;> split
  · rename_i h1 h2; subst h2; rfl
  · rename_i h1 h2; rw [← wOf_get (by rw [joinTo_len]; exact hi),joinTo_get hi,if_pos (by omega)]
  · rename_i h1 h2; omega
  · rename_i h1 h2; rw [← wOf_get (by rw [joinTo_len]; exact hi),joinTo_get hi,if_neg (by omega)]
theorem joinTo_same {j:Nat} {s o:List Nat} (hj:j<s.length) (h:wOf s j ||| wOf o j=wOf s j):joinTo (j+1) s o=joinTo j s o:=by
  apply wOf_ext (by simp [joinTo_len])
  intro i hi
  rw [joinTo_len] at hi
  rw [joinTo_get hi,joinTo_get hi]
  by_cases h1:i<j
  · rw [if_pos h1,if_pos (by omega)]
  · by_cases h2:i=j
    · subst h2; rw [if_pos (by omega),if_neg (by omega),h]
    · rw [if_neg (by omega),if_neg (by omega)]
def orW (s o:List Nat):List Nat:=joinTo s.length s o
theorem orW_len (s o:List Nat):(orW s o).length=s.length:=joinTo_len _ _ _
theorem orW_get {s o:List Nat} {i:Nat} (h:i<s.length):wOf (orW s o) i=wOf s i ||| wOf o i:=by
  unfold orW; rw [joinTo_get h,if_pos h]
theorem bin_or {s o:List Nat} (hl:o.length≤s.length) (t:Nat):bin (orW s o) t=(bin s t || bin o t):=by
  unfold bin
  rcases Nat.lt_or_ge (t / 64) s.length with h | h
  · rw [orW_get h,Nat.testBit_or]
  · rw [wOf_out (by rw [orW_len]; exact h),wOf_out h,wOf_out (by omega)]; simp
def Words (n:Nat) (ws:List Nat):Prop:=ws.length=n∧∀ x∈ws,W64 x
theorem Words.at {n:Nat} {ws:List Nat} (h:Words n ws) (i:Nat):W64 (wOf ws i):=by
  rcases Nat.lt_or_ge i ws.length with h1 | h1
  · rw [wOf_get h1]; exact h.2 _ (List.getElem_mem h1)
  · rw [wOf_out h1]; unfold W64; omega
theorem Words.or {n:Nat} {s o:List Nat} (h:Words n s) (k:Words n o):Words n (orW s o):=by
  refine ⟨by rw [orW_len]; exact h.1,fun x hx=>?_⟩
  obtain ⟨i,hi,rfl⟩:=List.getElem_of_mem hx
  rw [← wOf_get hi,orW_get (by rw [orW_len] at hi; exact hi)]
  exact or_lt (h.at i) (k.at i)
theorem Words.set {n:Nat} {s:List Nat} (h:Words n s) {i x:Nat} (hx:W64 x):Words n (s.set i x):=by
  refine ⟨by rw [List.length_set]; exact h.1,fun y hy=>?_⟩
  rcases List.mem_or_eq_of_mem_set hy with h1 | h1
  · exact h.2 y h1
  · rw [h1]; exact hx
def newTo (j:Nat) (s o:List Nat):Bool:=(List.range j).any fun i=>decide (wOf s i ||| wOf o i≠wOf s i)
theorem newTo_succ (j:Nat) (s o:List Nat):newTo (j+1) s o=(newTo j s o || decide (wOf s j ||| wOf o j≠wOf s j)):=by
  unfold newTo; rw [List.range_succ,List.any_append]; simp
def newW (s o:List Nat):Bool:=newTo s.length s o
theorem newW_false {s o:List Nat} (h:newW s o=false):orW s o=s:=wOf_ext (orW_len _ _) fun i hi=>by
  rw [orW_len] at hi
  rw [orW_get hi]
  unfold newW newTo at h
  have:=List.any_eq_false.1 h i (by simpa using hi)
  simpa using this
theorem newW_true {n:Nat} {s o:List Nat} (ho:Words n o) (h:newW s o=true):∃ t,bin o t=true∧bin s t=false:=by
  unfold newW newTo at h
  obtain ⟨i,hi,hn⟩:=List.any_eq_true.1 h
  have hn':¬ wOf s i ||| wOf o i=wOf s i:=by simpa using hn
  have:∃ k,(wOf o i).testBit k=true∧(wOf s i).testBit k=false:=by
    refine Classical.byContradiction fun hc=>hn' ?_
    apply Nat.eq_of_testBit_eq
    intro k
    rw [Nat.testBit_or]
    cases ho:(wOf o i).testBit k with
    | false=>simp
    | true =>
      cases hs:(wOf s i).testBit k with
      | true=>simp
      | false=>exact absurd ⟨k,ho,hs⟩ hc
  obtain ⟨k,hk1,hk2⟩:=this
  have hk:k<64:=by
    rcases Nat.lt_or_ge k 64 with h1 | h1
    · exact h1
    · have hw:=ho.at i
      unfold W64 at hw
      have:(wOf o i).testBit k=false:=Nat.testBit_lt_two_pow (Nat.lt_of_lt_of_le (show wOf o i<2 ^ 64 by omega) (Nat.pow_le_pow_right (by omega) h1))
      rw [this] at hk1; cases hk1
  refine ⟨64 * i+k,?_,?_⟩
  · unfold bin; rw [show (64 * i+k) / 64=i by omega,show (64 * i+k) % 64=k by omega]; exact hk1
  · unfold bin; rw [show (64 * i+k) / 64=i by omega,show (64 * i+k) % 64=k by omega]; exact hk2
def lowBits (b x:Nat):List Int:=((List.range 64).filter fun k=>x.testBit k).map fun k=>((64 * b+k:Nat):Int)
def listTo (j:Nat) (ws:List Nat):List Int:=((List.range (64 * j)).filter fun k=>bin ws k).map fun k:Nat=>(k:Int)
def listW (ws:List Nat):List Int:=listTo ws.length ws
theorem rising_map {l:List Nat} {g:Nat→Int} (hl:l.Pairwise (· < ·)) (hg:∀ a b,a<b→g a<g b):Rising (l.map g):=by
  unfold Rising
  rw [List.pairwise_map]
  exact hl.imp (fun h=>hg _ _ h)
theorem rising_lowBits (b x:Nat):Rising (lowBits b x):=rising_map (List.Pairwise.filter _ List.pairwise_lt_range) (fun a c h=>by omega)
theorem rising_listTo (j:Nat) (ws:List Nat):Rising (listTo j ws):=rising_map (List.Pairwise.filter _ List.pairwise_lt_range) (fun a c h=>by omega)
theorem rising_listW (ws:List Nat):Rising (listW ws):=rising_listTo _ _
theorem mem_lowBits {b x:Nat} {t:Int}:t∈lowBits b x↔∃ k,k<64∧x.testBit k=true∧t=((64 * b+k:Nat):Int):=by
  unfold lowBits
  simp only [List.mem_map,List.mem_filter,List.mem_range]
  exact ⟨fun ⟨k,⟨h1,h2⟩,h3⟩=>⟨k,h1,h2,h3.symm⟩,fun ⟨k,h1,h2,h3⟩=>⟨k,⟨h1,h2⟩,h3.symm⟩⟩
theorem mem_listTo {j:Nat} {ws:List Nat} {t:Int}:t∈listTo j ws↔∃ n:Nat,n<64 * j∧bin ws n=true∧t=n:=by
  unfold listTo
  simp only [List.mem_map,List.mem_filter,List.mem_range]
  exact ⟨fun ⟨k,⟨h1,h2⟩,h3⟩=>⟨k,h1,h2,h3.symm⟩,fun ⟨k,h1,h2,h3⟩=>⟨k,⟨h1,h2⟩,h3.symm⟩⟩
theorem mem_listW {ws:List Nat} {t:Int}:t∈listW ws↔∃ n:Nat,bin ws n=true∧t=n:=by
  unfold listW
  rw [mem_listTo]
  exact ⟨fun ⟨n,_,h⟩=>⟨n,h⟩,fun ⟨n,h1,h2⟩=>⟨n,bin_lt h1,h1,h2⟩⟩
theorem mem_listW_nat {ws:List Nat} {n:Nat}:(n:Int)∈listW ws↔bin ws n=true:=by
  rw [mem_listW]
  exact ⟨fun ⟨m,h1,h2⟩=>by
    have:n=m:=by omega
    subst this; exact h1,fun h=>⟨n,h,rfl⟩⟩
theorem listTo_zero (ws:List Nat):listTo 0 ws=[]:=by simp [listTo]
theorem listTo_succ (j:Nat) (ws:List Nat):listTo (j+1) ws=listTo j ws++lowBits j (wOf ws j):=by
  unfold listTo lowBits
  rw [show 64 * (j+1)=64 * j+64 by omega,List.range_add,List.filter_append,List.map_append]
  congr 1
  rw [List.filter_map,List.map_map]
  congr 1
  apply List.filter_congr
  intro k hk
  have hk':k<64:=by simpa using hk
  show bin ws (64 * j+k)=_
  unfold bin
  rw [show (64 * j+k) / 64=j by omega,show (64 * j+k) % 64=k by omega]
theorem lowBits_zero (b:Nat):lowBits b 0=[]:=by
  unfold lowBits
  rw [List.filter_eq_nil_iff.2 (fun k _=>by simp)]
  rfl
theorem lowBits_length (b x:Nat):(lowBits b x).length≤64:=by
  unfold lowBits
  rw [List.length_map]
  have:=List.length_filter_le (fun k=>x.testBit k) (List.range 64)
  simpa using this
theorem listTo_length (j:Nat) (ws:List Nat):(listTo j ws).length≤64 * j:=by
  unfold listTo
  rw [List.length_map]
  have:=List.length_filter_le (fun k=>bin ws k) (List.range (64 * j))
  simpa using this
theorem strike_bit {x k m:Nat} (hx:x=2 ^ k * (2 * m+1)) (i:Nat):(x &&& (x - 1)).testBit i=(x.testBit i && decide (i≠k))∧(i<k→x.testBit i=false)∧x.testBit k=true:=by
  have hp:0<2 ^ k:=Nat.two_pow_pos k
  have e1:x - 1=2 ^ k * (2 * m)+(2 ^ k - 1):=by rw [hx,Nat.mul_add]; omega
  have t0:∀ i,x.testBit i=(decide (k≤i) && (2 * m+1).testBit (i - k)):=fun i=>by rw [hx,Nat.mul_comm,Nat.testBit_mul_two_pow]
  refine ⟨?_,?_,?_⟩
  · rw [Nat.testBit_and,e1,Nat.testBit_two_pow_mul_add (2 * m) (by omega),t0]
    by_cases h1:i<k
    · simp [show ¬ k≤i by omega]
    · by_cases h2:i=k
      · subst h2; simp [Nat.testBit_zero]
      · have h3:i - k=(i - k - 1)+1:=by omega
        rw [if_neg h1,h3,Nat.testBit_succ,Nat.testBit_succ,show (2 * m+1) / 2=m by omega,show 2 * m / 2=m by omega]
        simp [h2,show k≤i by omega]
  · intro h1; rw [t0]; simp [show ¬ k≤i by omega]
  · rw [t0]; simp [Nat.testBit_zero]
theorem lowBits_step {b x:Nat} (hx:W64 x) (h0:x≠0):lowBits b x=((64 * b+Lib.ctz 64 x:Nat):Int) :: lowBits b (x &&& (x - 1))∧Lib.ctz 64 x<64∧W64 (x &&& (x - 1))∧x &&& (x - 1)<x:=by
  unfold W64 at *
  obtain ⟨m,hm,hk⟩:=Lib.ctzFrom_spec 64 x (by omega) (by omega)
  have hc:Lib.ctz 64 x=Lib.ctzFrom 64 x:=by unfold Lib.ctz; rw [if_neg h0]
  rw [hc]
  generalize Lib.ctzFrom 64 x=k at *
  have hle:x &&& (x - 1)≤x - 1:=Nat.and_le_right
  refine ⟨?_,hk,by omega,by omega⟩
  refine rising_ext (rising_lowBits _ _) (List.pairwise_cons.2 ⟨fun t ht=>?_,rising_lowBits _ _⟩) (fun t=>?_)
  · obtain ⟨i,hi,h1,rfl⟩:=mem_lowBits.1 ht
    have h2:=strike_bit hm i
    rw [h2.1] at h1
    simp at h1
    have:¬ i<k:=fun h=>by rw [h2.2.1 h] at h1; simp at h1
    omega
  · rw [List.mem_cons,mem_lowBits,mem_lowBits]
    constructor
    · rintro ⟨i,hi,h1,rfl⟩
      by_cases h:i=k
      · subst h; exact .inl rfl
      · exact .inr ⟨i,hi,by rw [(strike_bit hm i).1]; simp [h1,h],rfl⟩
    · rintro (rfl | ⟨i,hi,h1,rfl⟩)
      · exact ⟨k,hk,(strike_bit hm 0).2.2,rfl⟩
      · rw [(strike_bit hm i).1] at h1; simp at h1; exact ⟨i,hi,h1.1,rfl⟩
theorem listW_or {n:Nat} {s o:List Nat} (hs:Words n s) (ho:Words n o):listW (orW s o)=unionL (listW s) (listW o):=by
  refine rising_ext (rising_listW _) (rising_unionL (rising_listW _)) (fun t=>?_)
  rw [mem_unionL,mem_listW,mem_listW,mem_listW]
  constructor
  · rintro ⟨k,h,rfl⟩
    rw [bin_or (by rw [hs.1,ho.1]; exact Nat.le_refl _)] at h
    simp at h
    rcases h with h | h
    · exact .inl ⟨k,h,rfl⟩
    · exact .inr ⟨k,h,rfl⟩
  · rintro (⟨k,h,rfl⟩ | ⟨k,h,rfl⟩) <;> exact ⟨k,by rw [bin_or (by rw [hs.1,ho.1]; exact Nat.le_refl _),h]; simp,rfl⟩
theorem newW_iff {n:Nat} {s o:List Nat} (hs:Words n s) (ho:Words n o):newW s o=decide ((listW s).length<(unionL (listW s) (listW o)).length):=by
  cases h:newW s o with
  | false =>
    have e:=newW_false h
    rw [← listW_or hs ho,e]
    simp
  | true =>
    obtain ⟨t,h1,h2⟩:=newW_true ho h
    symm
    rw [decide_eq_true_eq]
    refine Nat.lt_of_not_le fun hle=>?_
    have:=sub_of_length_unionL (rising_listW s) hle t (mem_listW_nat.2 h1)
    rw [mem_listW_nat] at this
    rw [this] at h2; cases h2
def putW (ws:List Nat) (n:Nat):List Nat:=ws.set (n / 64) (wOf ws (n / 64) ||| 2 ^ (n % 64))
theorem pow_lt (k:Nat):W64 (2 ^ (k % 64)):=by
  unfold W64
  have:2 ^ (k % 64)<2 ^ 64:=Nat.pow_lt_pow_right (by omega) (Nat.mod_lt _ (by omega))
  omega
theorem Words.put {n:Nat} {ws:List Nat} (h:Words n ws) (t:Nat):Words n (putW ws t):=h.set (or_lt (h.at _) (pow_lt t))
theorem bin_put {ws:List Nat} {n t:Nat} (hn:n<64 * ws.length):bin (putW ws n) t=(bin ws t || decide (t=n)):=by
  unfold bin putW
  have hi:n / 64<ws.length:=by omega
  rcases Nat.lt_or_ge (t / 64) ws.length with h | h
  · rw [wOf_get (ws:=ws.set (n / 64) (wOf ws (n / 64) ||| 2 ^ (n % 64))) (by simpa using h),List.getElem_set]
    split
    · rename_i e
      rw [Nat.testBit_or,Nat.testBit_two_pow,e]
      congr 1
      have:(n % 64=t % 64)↔t=n:=by omega
      simp only [this]
    · rename_i e
      rw [← wOf_get h]
      have:¬ t=n:=fun h'=>e (by rw [h'])
      simp [this]
  · rw [wOf_out (by simpa using h),wOf_out h]
    have:¬ t=n:=by omega
    simp [this]
theorem words_zero (n:Nat):Words n (List.replicate n 0):=⟨by simp,fun x hx=>by rw [(List.mem_replicate.1 hx).2]; unfold W64; omega⟩
theorem bin_zero (n t:Nat):bin (List.replicate n 0) t=false:=by
  unfold bin
  have:wOf (List.replicate n 0) (t / 64)=0:=by
    rcases Nat.lt_or_ge (t / 64) n with h | h
    · rw [wOf_get (by simpa using h)]; simp
    · exact wOf_out (by simpa using h)
  rw [this]; simp
theorem listW_zero (n:Nat):listW (List.replicate n 0)=[]:=by
  refine rising_ext (rising_listW _) List.Pairwise.nil (fun t=>?_)
  rw [mem_listW]
  simp [bin_zero]
theorem listW_put {ws:List Nat} {n:Nat} (hn:n<64 * ws.length):listW (putW ws n)=putL n (listW ws):=by
  refine rising_ext (rising_listW _) (rising_putL (rising_listW _)) (fun t=>?_)
  rw [mem_putL,mem_listW,mem_listW]
  constructor
  · rintro ⟨k,h,rfl⟩
    rw [bin_put hn] at h
    simp at h
    rcases h with h | h
    · exact .inr ⟨k,h,rfl⟩
    · subst h; exact .inl rfl
  · rintro (rfl | ⟨k,h,rfl⟩)
    · exact ⟨n,by rw [bin_put hn]; simp,rfl⟩
    · exact ⟨k,by rw [bin_put hn,h]; simp,rfl⟩
end Go.Proofs.YtbilbgjojdlobaaGreatDoor
