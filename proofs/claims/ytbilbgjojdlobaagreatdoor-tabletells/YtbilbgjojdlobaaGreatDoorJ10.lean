import Derived.Test.YtbilbgjojdlobaaGreatDoorJ01
import Derived.Test.YtbilbgjojdlobaaGreatDoorJ02
import Derived.Test.YtbilbgjojdlobaaGreatDoorJ09
import Derived.Sort.LoopGhostIn
import Derived.Shelf.SlSortCmp.WholeK
import Derived.Shelf.SlicesG.Cmp
import Derived.Shelf.Small.Bits
import Derived.Shelf.Lay
import Derived.Ground.SlsfProg
import Derived.Ground.SlgcProg

namespace Go.Proofs.YtbilbgjojdlobaaGreatDoor
open Go.RowKit Go.Shelf
attribute [local go_sem] Oper.semAt_some
set_option maxRecDepth 100000 in
set_option maxHeartbeats 4000000 in
theorem looks1_gives (n:Nat) (hn:1≤n) (f:Fl) (a:FlA) (Le:List Bool) (R:List (List Int)) (wv:World) (Bi Bc Bb G V:Nat) (lv:Value) (L:List Ir) (C S:List (Int × Int)) (x:Ir) (K1 K2 N:Nat) (Ok:Int→Prop) (A0:Nat→Prop) (W:World)
    (h:GS Bi Bc Bb G V lv L C S W) (hv:VwAt f a V Le R wv) (hf:FlAt f a wv) (hwv:wv.heap.size≤Bi) (hB:Below wv.heap.size wv W) (hp:FitP f) (hLe:Le.length=f.n) (hR:R.length=f.n) (hR6:∀ q,(rowAt R q).length≤601)
    (hk1:W.cell? ⟨K1,0,none⟩=some (.pointer (some ⟨G,0,none⟩))) (hk2:RBox x K2 W) (hK1:A0 K1) (hK2:A0 K2) (hK1c:K1≠Bc) (hK2c:K2≠Bc) (hA0:∀ k,k<Bi→A0 k) (hx:fitI f x=true) (hd:x.2.1.toNat<(rightI f x.1).length)
    (hN:(outL R Le (!decide ((x.1,x.2.1)∈C)) (behI f x) x.2.2).length≤N) (hC:C.length<100000000) (hOk:∀ t∈outL R Le (!decide ((x.1,x.2.1)∈C)) (behI f x) x.2.2,Ok t) :
    GivesAt n Tryz.prog 175 #[.pointer (some ⟨K1,0,none⟩),.pointer (some ⟨K2,0,none⟩)] (fun q=>#[.int .i64 q]) (fun W W'=>GS Bi Bc Bb G V lv L (coreS C x) S W'∧But (fun k=>k=Bc) W W')
      (fun xs=>xs=outL R Le (!decide ((x.1,x.2.1)∈C)) (behI f x) x.2.2) N Ok A0 (fun W=>W.cell? ⟨G,0,none⟩=some (.pointer (some ⟨V,0,none⟩))) W:=by
  intro l J hF hPre
  show CallsIn Fence.wide n Tryz.prog 175 #[.func (.yield l) #[] #[],.pointer (some ⟨K1,0,none⟩),.pointer (some ⟨K2,0,none⟩)] W _
  have HF:Hid (Feeds (n - 1) Tryz.prog l (fun q=>#[.int .i64 q]) N Ok (fun W=>W.cell? ⟨G,0,none⟩=some (.pointer (some ⟨V,0,none⟩))) J):=hF
  have HPRE:Hid (∀ W',(GS Bi Bc Bb G V lv L (coreS C x) S W'∧But (fun k=>k=Bc) W W')→J A0 [] W'):=hPre
  have HG:Hid (GS Bi Bc Bb G V lv L C S W):=h
  have HFP:Hid (FitP f):=hp
  have HA0:Hid (∀ k,k<Bi→A0 k):=hA0
  have hdst:=And.intro h.o1 (And.intro h.o2 h.o3)
  have hGl:=h.lt
  have hn6:f.n≤600:=hp.size
  have hxf:=fitI_iff.1 hx
  have hr64:=rightI_le hp x.1
  have HSYM:Hid (∀ y∈rightI f x.1,0≤y.sym∧y.sym<(f.n:Int)):=fun y hy=>rightI_sym hp hy
  have HRI:Hid (∀ W',Below wv.heap.size wv W'→Calls Tryz.prog 100 #[a.val f,.int .i64 x.1] W' fun e w'=>∃ v,e=.returned v∧SlT (rightI f x.1) v w'∧(∀ ad n c,v=.slice (some ad) n c→rightI f x.1≠[]→ad.block<wv.heap.size∨W'.heap.size≤ad.block)∧Below W'.heap.size W' w'):=fun W' hb=>right2_any f a x.1 wv W' hf hb hn6 hxf.1 hxf.2.1
  obtain ⟨hvb,ve,vf,vp,v3,v4,_,v6,v7,_⟩:=hv
  obtain ⟨hVl,u0,u1,u2⟩:=hvb
  obtain ⟨hk2l,y0,y1,y2⟩:=hk2
  obtain ⟨ta,tc,na,nc,pa,pc⟩:=a
  obtain ⟨x0,x1,x2⟩:=x
  unfold FlA.val at HRI
  simp only at *
  obtain ⟨d,rfl⟩:∃ d:Nat,x1=d:=⟨x1.toNat,by omega⟩
  rw [Int.toNat_natCast] at hd
  have HVW:Hid (∀ W',Below wv.heap.size wv W'→W'.cell? ⟨V,0,none⟩=some (.slice ta f.terms.length tc)∧W'.cell? ⟨V,1,none⟩=some (.slice na f.nons.length nc)∧W'.cell? ⟨V,2,none⟩=some (.slice pa f.prods.length pc)∧W'.cell? ⟨V,3,none⟩=some ve∧W'.cell? ⟨V,4,none⟩=some vf∧SlB Le ve W'∧SlR R vf W'):=fun W' hb=>⟨(hb.cell (p:=⟨V,0,none⟩) hVl).trans u0,(hb.cell (p:=⟨V,1,none⟩) hVl).trans u1,(hb.cell (p:=⟨V,2,none⟩) hVl).trans u2,(hb.cell (p:=⟨V,3,none⟩) hVl).trans v3,(hb.cell (p:=⟨V,4,none⟩) hVl).trans v4,v6.next hb,v7.next hb⟩
  have hVB:V<Bi:=by omega
  have hok:ok2 (x0,(d:Int)):=⟨by unfold i64B; have:=HFP.out.prods; omega,by unfold i64B; omega⟩
  have HN:=isNewC_any Bc C (x0,(d:Int)) W.drew (h.next (Below.refl _ _).drew).mc hok hC
  unfold val2 at HN
  simp only at HN
  have hS0:(W.drew.cell? ⟨K1,0,none⟩=some (.pointer (some ⟨G,0,none⟩))∧W.drew.cell? ⟨G,3,none⟩=some (.map (some Bc))∧W.drew.cell? ⟨K2,0,none⟩=some (.int .i64 x0)∧W.drew.cell? ⟨K2,1,none⟩=some (.int .i64 d)):=⟨hk1,h.g3,y0,y1⟩
  clear hF hPre h hp hA0 u0 u1 u2 v3 v4 v6 v7 hf hok
  refine callsIn_of_wp Tryz.func175 rfl trivial ?_ rfl
  simp only [Tryz.ntmps175,List.size_toArray,List.length_cons,List.length_nil,Nat.reduceAdd,Nat.reduceSub,Array.replicate_succ,Array.replicate_zero,List.push_toArray,List.append_toArray,List.nil_append,List.cons_append]
  gi_wp2
  refine wpIn_wide.2 ?_
  refine wp_region_L (fun W=>W.cell? ⟨K1,0,none⟩=some (.pointer (some ⟨G,0,none⟩))∧W.cell? ⟨G,3,none⟩=some (.map (some Bc))∧W.cell? ⟨K2,0,none⟩=some (.int .i64 x0)∧W.cell? ⟨K2,1,none⟩=some (.int .i64 d)) 11 (by kernel_rfl) 11 rfl ?_
  refine tk 0 ⟨some 7,.load 186 (.tmp 1),186, "grower.go:71",#[],none⟩ hS0 ?_;simp only [Act.put,sA,s0,sS]
  refine tk 1 ⟨some 8,.nilCheck (.tmp 7),0, "grower.go:71",#[⟨0,.data⟩],none⟩ hS0 ?_;simp only [Act.put,sA,s0,sS]
  refine tk 2 ⟨some 9,.fieldAddr 214 (.tmp 8) 3,0, "grower.go:71",#[⟨1,.data⟩],none⟩ hS0 ?_;simp only [Act.put,sA,s0,sS]
  refine tk 3 ⟨some 10,.load 211 (.tmp 9),211, "grower.go:71",#[⟨2,.data⟩],none⟩ hS0 ?_;simp only [Act.put,sA,s0,sS]
  refine tk 4 ⟨some 11,.fieldAddr 77 (.tmp 2) 0,0, "grower.go:71",#[],none⟩ hS0 ?_;simp only [Act.put,sA,s0,sS]
  refine tk 5 ⟨some 12,.load 3 (.tmp 11),3, "grower.go:71",#[⟨4,.data⟩],none⟩ hS0 ?_;simp only [Act.put,sA,s0,sS]
  refine tk 6 ⟨some 13,.fieldAddr 77 (.tmp 2) 1,0, "grower.go:71",#[],none⟩ hS0 ?_;simp only [Act.put,sA,s0,sS]
  refine tk 7 ⟨some 14,.load 3 (.tmp 13),3, "grower.go:71",#[⟨6,.data⟩],none⟩ hS0 ?_;simp only [Act.put,sA,s0,sS]
  refine tk 8 ⟨some 15,.build 239 #[(0,.tmp 12),(1,.tmp 14)],239, "grower.go:71",#[⟨5,.data⟩,⟨7,.data⟩],none⟩ hS0 ?_;simp only [Act.put,sA,s0,sS]
  refine wpAnyL_one' (i:=9) (o:=⟨some 16,.call ⟨.value (.func 176),#[.tmp 10,.tmp 15],#[211,239]⟩,4, "grower.go:71",#[⟨3,.data⟩,⟨8,.data⟩],none⟩) (by kernel_rfl) rfl rfl (fun K hK=>?_)
  go_simp
  refine HN.mono ?_
  rintro e W1 ⟨rfl,hM1,hb1⟩
  have hb1':But (fun k=>k=Bc) W W1:=(But.refl _ _).drew.trans hb1
  have cw:∀ {b o:Nat} {v:Value},b≠Bc→W.cell? ⟨b,o,none⟩=some v→W1.cell? ⟨b,o,none⟩=some v:=fun {b o v} hbn hv=>(hb1'.cell (p:=⟨b,o,none⟩) (World.block_lt_of_cell? _ _ hv) hbn).trans hv
  have hS1:(W1.cell? ⟨K1,0,none⟩=some (.pointer (some ⟨G,0,none⟩))∧W1.cell? ⟨G,3,none⟩=some (.map (some Bc))∧W1.cell? ⟨K2,0,none⟩=some (.int .i64 x0)∧W1.cell? ⟨K2,1,none⟩=some (.int .i64 d)):=⟨cw hK1c hk1,cw (by omega) HG.out.g3,cw hK2c y0,cw hK2c y1⟩
  refine hK.out _ _ (fun _=>hS1) ?_
  clear hK HN
  refine tk 10 ⟨some 4,.assign (.tmp 16),4, "grower.go:71",#[⟨9,.data⟩,⟨9,.chain⟩,⟨0,.phase⟩,⟨1,.phase⟩,⟨2,.phase⟩,⟨3,.phase⟩,⟨4,.phase⟩,⟨5,.phase⟩,⟨6,.phase⟩,⟨7,.phase⟩,⟨8,.phase⟩,⟨9,.phase⟩],none⟩ hS1 ?_;simp only [Act.put,sA,s0,sS]
  refine wpAnyL_done (by kernel_rfl) ?_ _
  have HG1:Hid (GS Bi Bc Bb G V lv L (coreS C (x0,(d:Int),x2)) S W1):=by
    have h:=HG.out
    have hm:MapSet 239 val2 Bc (coreS C (x0,(d:Int),x2)) W1:=hM1
    exact ⟨h.o1,h.o2,h.o3,Nat.lt_of_lt_of_le h.lt hb1'.size,cw (by omega) h.g0,cw (by omega) h.g1,cw (by omega) h.g2,cw (by omega) h.g3,cw (by omega) h.g4,(hb1'.frozen (p:=⟨G,2,none⟩) h.lt (by simp only; omega)).trans h.fz,h.mi.but hb1' (by omega),hm,h.mb.but hb1' (by omega),ownsRow_but h.own hb1' (fun j hj _=>by omega)⟩
  have HJ1:Hid (J A0 [] W1):=HPRE.out _ ⟨HG1.out,hb1'⟩
  have hB1:Below wv.heap.size wv W1:=hB.trans (hb1'.below (by omega) (fun k hk=>by omega))
  have j1:=cw hK1c hk1
  have j2:=HG1.out.g0
  have z0:=cw hK2c y0
  have z1:=cw hK2c y1
  have z2:=cw hK2c y2
  have hk1l:K1<W1.heap.size:=World.block_lt_of_cell? _ _ j1
  have hk2l':K2<W1.heap.size:=World.block_lt_of_cell? _ _ z0
  have hG1l:G<W1.heap.size:=HG1.out.lt
  clear hS0 hS1 hM1 hb1 HG1 HPRE HG cw y0 y1 y2 hk1 hb1' hk2l
  obtain ⟨fr,hfr⟩:∃ fr,(!decide ((x0,(d:Int))∈C))=fr:=⟨_,rfl⟩
  have HFR:Hid ((!decide ((x0,(d:Int))∈C))=fr):=hfr
  rw [hfr] at hN hOk ⊢
  clear hfr
  have HSI:Hid (∀ W',Below W1.heap.size W1 W'→(W'.cell? ⟨K1,0,none⟩=some (.pointer (some ⟨G,0,none⟩))∧W'.cell? ⟨G,0,none⟩=some (.pointer (some ⟨V,0,none⟩))∧W'.cell? ⟨V,0,none⟩=some (.slice ta f.terms.length tc)∧W'.cell? ⟨V,1,none⟩=some (.slice na f.nons.length nc)∧W'.cell? ⟨V,2,none⟩=some (.slice pa f.prods.length pc)∧W'.cell? ⟨K2,0,none⟩=some (.int .i64 x0)∧W'.cell? ⟨K2,1,none⟩=some (.int .i64 d))):=fun W' hb=>by
    obtain ⟨q0,q1,q2,_⟩:=HVW.out _ (hB1.trans (hb.mono hB1.size))
    exact ⟨(hb.cell (p:=⟨K1,0,none⟩) hk1l).trans j1,(hb.cell (p:=⟨G,0,none⟩) hG1l).trans j2,q0,q1,q2,(hb.cell (p:=⟨K2,0,none⟩) hk2l').trans z0,(hb.cell (p:=⟨K2,1,none⟩) hk2l').trans z1⟩
  have hS1:=HSI.out _ (Below.refl _ _).drew
  have HRC:=HRI.out W1.drew hB1.drew
  obtain ⟨r,hr⟩:∃ r,rightI f x0=r:=⟨_,rfl⟩
  have HBEH:Hid (behI f (x0,(d:Int),x2)=(r.drop (d+1)).map (fun y=>y.sym.toNat)):=by show _=_; unfold behI; simp only [Int.toNat_natCast]; rw [hr]
  rw [hr] at HRC HSYM hd hr64
  clear hr HRI
  have hwr:IntKind.i64.wrap ((d:Int)+1)=(d:Int)+1:=IntWalk.i64_in _ (by omega)
  have hd0:0≤(d:Int)+1:=by omega
  gi_wp2
  refine wpIn_wide.2 ?_
  refine wp_region_L (fun W=>W.cell? ⟨K1,0,none⟩=some (.pointer (some ⟨G,0,none⟩))∧W.cell? ⟨G,0,none⟩=some (.pointer (some ⟨V,0,none⟩))∧W.cell? ⟨V,0,none⟩=some (.slice ta f.terms.length tc)∧W.cell? ⟨V,1,none⟩=some (.slice na f.nons.length nc)∧W.cell? ⟨V,2,none⟩=some (.slice pa f.prods.length pc)∧W.cell? ⟨K2,0,none⟩=some (.int .i64 x0)∧W.cell? ⟨K2,1,none⟩=some (.int .i64 d)) 16 (by kernel_rfl) 16 rfl ?_
  refine tk 0 ⟨some 17,.load 186 (.tmp 1),186, "grower.go:72",#[],none⟩ hS1 ?_;simp only [Act.put,sA,s0,sS]
  refine tk 1 ⟨some 18,.nilCheck (.tmp 17),0, "grower.go:72",#[⟨0,.data⟩],none⟩ hS1 ?_;simp only [Act.put,sA,s0,sS]
  refine tk 2 ⟨some 19,.fieldAddr 214 (.tmp 18) 0,0, "grower.go:72",#[⟨1,.data⟩],none⟩ hS1 ?_;simp only [Act.put,sA,s0,sS]
  refine tk 3 ⟨some 20,.load 111 (.tmp 19),111, "grower.go:72",#[⟨2,.data⟩],none⟩ hS1 ?_;simp only [Act.put,sA,s0,sS]
  refine tk 4 ⟨some 21,.nilCheck (.tmp 20),0, "grower.go:72",#[⟨3,.data⟩],none⟩ hS1 ?_;simp only [Act.put,sA,s0,sS]
  refine tk 5 ⟨some 22,.fieldAddr 152 (.tmp 21) 0,0, "grower.go:72",#[⟨4,.data⟩],none⟩ hS1 ?_;simp only [Act.put,sA,s0,sS]
  refine tk 6 ⟨some 23,.load 25 (.tmp 22),25, "grower.go:72",#[⟨5,.data⟩],none⟩ hS1 ?_;simp only [Act.put,sA,s0,sS]
  refine tk 7 ⟨some 24,.fieldAddr 77 (.tmp 2) 0,0, "grower.go:72",#[],none⟩ hS1 ?_;simp only [Act.put,sA,s0,sS]
  refine tk 8 ⟨some 25,.load 3 (.tmp 24),3, "grower.go:72",#[⟨7,.data⟩],none⟩ hS1 ?_;simp only [Act.put,sA,s0,sS]
  refine tk 10 ⟨some 27,.fieldAddr 77 (.tmp 2) 1,0, "grower.go:72",#[],none⟩ hS1 ?_;simp only [Act.put,sA,s0,sS]
  refine tk 11 ⟨some 28,.load 3 (.tmp 27),3, "grower.go:72",#[⟨10,.data⟩],none⟩ hS1 ?_;simp only [Act.put,sA,s0,sS]
  refine tk 12 ⟨some 29,.binOp .add 3 (.tmp 28) (.const (.int .i64 1)) 3,3, "grower.go:72",#[⟨11,.data⟩],none⟩ hS1 ?_;simp only [Act.put,sA,s0,sS]
  refine tk 15 ⟨some 32,.move (.const (.int .i64 0)),3, "grower.go:72",#[],none⟩ hS1 ?_;simp only [Act.put,sA,s0,sS]
  refine wpAnyL_one' (i:=9) (o:=⟨some 26,.call ⟨.value (.func 100),#[.tmp 23,.tmp 25],#[25,3]⟩,56, "grower.go:72",#[⟨6,.data⟩,⟨8,.data⟩],none⟩) (by kernel_rfl) rfl rfl (fun K hK=>?_)
  go_simp
  refine HRC.mono ?_
  rintro e W2 ⟨rv,rfl,hrv,hrl,hb2⟩
  have Bw2:Below W1.heap.size W1 W2:=below_then (Below.refl _ _).drew hb2 (Nat.le_refl _)
  have hS2:=HSI.out _ Bw2
  refine hK.out _ _ (fun _=>hS2) ?_
  clear hK HRC
  obtain ⟨ra,vc,rfl,hI,_,hvc,hvm⟩:=hrv
  obtain ⟨rb,ro,rfl,_⟩:=hI.at (Below.refl _ _) hd
  have hrb:=hrl _ _ _ rfl (fun e=>by rw [e] at hd; simp at hd)
  have HIT0:Hid (ItsAt r (some ⟨rb,ro,none⟩) W2):=hI
  clear hI hrl
  have hdv:(d:Int)+1≤vc:=by omega
  have hdv2:(d:Int)+1≤r.length:=by omega
  refine tk 13 ⟨some 30,.slice 56 (.tmp 26) (some (.tmp 29)) none none,56, "grower.go:72",#[⟨9,.data⟩,⟨12,.data⟩],none⟩ hS2 ?_;simp only [Act.put,sA,s0,sS]
  refine tk 14 ⟨some 31,.call ⟨.builtin .len,#[.tmp 30],#[56]⟩,3, "grower.go:72",#[⟨13,.data⟩],none⟩ hS2 ?_;simp only [Act.put,sA,s0,sS]
  refine wpAnyL_done (by kernel_rfl) ?_ _
  have HJ2:Hid (J (fun k=>A0 k∨(W1.heap.size≤k∧k<W2.heap.size)) [] W2):=HF.out.new _ _ _ _ HJ1.out Bw2
  have hB2:Below wv.heap.size wv W2:=hB1.trans (Bw2.mono hB1.size)
  obtain ⟨A1,hA1⟩:∃ A1:Nat→Prop,(fun k=>A0 k∨(W1.heap.size≤k∧k<W2.heap.size))=A1:=⟨_,rfl⟩
  have HA1:Hid (∀ k,A0 k→A1 k):=fun k hk=>by rw [← hA1]; exact .inl hk
  have HA2:Hid (∀ k,W1.heap.size≤k→k<W2.heap.size→A1 k):=fun k h1 h2=>by rw [← hA1]; exact .inr ⟨h1,h2⟩
  rw [hA1] at HJ2
  clear hA1
  obtain ⟨ba,hba⟩:∃ ba,(if vc=d+1 then some (⟨rb,ro,none⟩:Addr) else some ⟨rb,ro+(d+1) * 3,none⟩)=ba:=⟨_,rfl⟩
  have HIT:Hid (∀ i y,(r.drop (d+1))[i]?=some y→∃ b off,ba=some ⟨b,off,none⟩∧A1 b∧b<W2.heap.size∧W2.cell? ⟨b,off+i * 3,none⟩=some (.int .i64 y.sym)∧W2.cell? ⟨b,off+i * 3+1,none⟩=some (.string y.fld)∧W2.cell? ⟨b,off+i * 3+2,none⟩=some (.string y.als)):=by
    intro i y hy
    rw [List.getElem?_drop] at hy
    have hlt:=(List.getElem?_eq_some_iff.1 hy).1
    obtain ⟨b',o',e',h1,h2,h3,h4,h5⟩:=HIT0.out (d+1+i) y hy
    cases e'
    rw [← hba,if_neg (by omega)]
    have e3:ro+(d+1) * 3+i * 3=ro+(d+1+i) * 3:=by omega
    refine ⟨_,_,rfl,?_,h1,by rw [e3]; exact h2,by rw [e3]; exact h3,by rw [e3]; exact h4⟩
    rcases hrb with hrb | hrb
    · exact HA1.out _ (HA0.out _ (by simp only at hrb; omega))
    · exact HA2.out _ hrb h1
  rw [hba]
  obtain ⟨bs,hbs⟩:∃ bs,r.drop (d+1)=bs:=⟨_,rfl⟩
  have hbl:bs.length=r.length - (d+1):=by rw [← hbs]; simp
  have hb64:bs.length≤64:=by omega
  have HSB:Hid (∀ y∈bs,0≤y.sym∧y.sym<(f.n:Int)):=fun y hy=>HSYM.out y (by rw [← hbs] at hy; exact List.mem_of_mem_drop hy)
  rw [hbs] at HIT HBEH
  rw [← hbl]
  obtain ⟨OUT,hOUT⟩:∃ OUT,outL R Le fr (bs.map (fun y=>y.sym.toNat)) x2=OUT:=⟨_,rfl⟩
  have HOUT:Hid (outL R Le (!decide ((x0,(d:Int))∈C)) (behI f (x0,(d:Int),x2)) x2=OUT):=by show _=_; rw [HFR.out,HBEH.out]; exact hOUT
  have HOK:Hid (∀ t∈OUT,Ok t):=by rw [← hOUT,← HBEH.out]; exact hOk
  have HNN:Hid (OUT.length≤N):=by rw [← hOUT,← HBEH.out]; exact hN
  have HO0:Hid (outL R Le fr (bs.map (fun y=>y.sym.toNat)) x2=OUT):=hOUT
  have HRW:Hid (∀ q,(rowAt R q).length≤601):=hR6
  have HLL:Hid (Le.length=f.n∧R.length=f.n):=⟨hLe,hR⟩
  have HAK:Hid (A1 K1∧A1 K2):=⟨HA1.out _ hK1,HA1.out _ hK2⟩
  have HAB:Hid (∀ k,k<Bi→A1 k):=fun k hk=>HA1.out _ (HA0.out k hk)
  obtain ⟨g1,g2,g3,g4⟩:=And.intro ((Bw2.cell (p:=⟨K1,0,none⟩) hk1l).trans j1) (And.intro ((Bw2.cell (p:=⟨K2,2,none⟩) hk2l').trans z2) (And.intro (Nat.lt_of_lt_of_le hk1l Bw2.size) (Nat.lt_of_lt_of_le hk2l' Bw2.size)))
  clear hOk hba hbs hbl HSYM hdst hvc hvm hdv hdv2 hwr hd0 hN hOUT hR6 hS1 hS2 HSI HIT0 hrb HJ1 HBEH hb2 j1 j2 z0 z1 z2
  gi_wp2
  gi_loopw [32] (fun i wr=>∃ (j:Nat) (A:Nat→Prop) (pre:List Int),i=.int .i64 j∧j≤bs.length∧(∀ k,A1 k→A k)∧J A pre wr∧But (fun k=>¬ A1 k) W2 wr∧pre++outL R Le fr ((bs.drop j).map (fun y=>y.sym.toNat)) x2=OUT) (fun i _=>bs.length - (intOf i).toNat)
  case atStart=>exact ⟨0,A1,[],rfl,Nat.zero_le _,fun _ h=>h,HJ2.out,But.refl _ _,by simpa using HO0.out⟩
  case round =>
  clear HJ2 HO0
  obtain ⟨j,A,pre,rfl,hj,hAA,hJ,hBt,hO⟩:=hrel
  have HAA:Hid (∀ k,A1 k→A k):=hAA
  have HJ:Hid (J A pre wr):=hJ
  have HBT:Hid (But (fun k=>¬ A1 k) W2 wr):=hBt
  have hG0:=HF.out.fx _ _ _ hJ
  have q1:wr.cell? ⟨K1,0,none⟩=some (.pointer (some ⟨G,0,none⟩)):=(hBt.cell (p:=⟨K1,0,none⟩) g3 (fun h=>h HAK.out.1)).trans g1
  have q2:wr.cell? ⟨K2,2,none⟩=some (.int .i64 x2):=(hBt.cell (p:=⟨K2,2,none⟩) g4 (fun h=>h HAK.out.2)).trans g2
  have hBw:Below wv.heap.size wv wr:=hB2.trans (hBt.below (by have:=hB2.size; omega) (fun k hk=>Nat.le_of_not_lt (fun h=>hk (HAB.out k (by omega)))))
  clear hAA hJ hBt
  by_cases hlt:j<bs.length
  case neg =>
    obtain rfl:j=bs.length:=by omega
    rw [List.drop_of_length_le (Nat.le_refl _)] at hO
    simp only [List.map_nil,outL] at hO
    obtain ⟨fn,tmps,assign,body,hy,hRd⟩:=HF.out.yield A pre x2 wr HJ.out (HOK.out x2 (by rw [← hO]; simp)) (by have:=HNN.out; rw [← hO] at this; simp at this; omega)
    clear hG0 q1 hBw
    gi_wp2
    refine hRd.mono ?_
    rintro e W4 ⟨rfl,hJ4,_⟩
    have HFN:Hid (J A0 OUT W4):=by rw [← hO]; exact HF.out.less _ _ _ _ hJ4 (fun k hk=>HAA.out k (HA1.out k hk))
    clear hJ4 hRd hy hO q2
    gi_wp2
    go_end0
    exact ⟨⟨_,rfl⟩,OUT,HOUT.out.symm,HFN.out⟩
  obtain ⟨bb,bo,rfl,hAb,hbbl,d0,d1,d2⟩:=HIT.out j bs[j] (by simp [hlt])
  have c0:=(HBT.out.cell (p:=⟨bb,bo+j * 3,none⟩) hbbl (fun h=>h hAb)).trans d0
  have c1:=(HBT.out.cell (p:=⟨bb,bo+j * 3+1,none⟩) hbbl (fun h=>h hAb)).trans d1
  have c2:=(HBT.out.cell (p:=⟨bb,bo+j * 3+2,none⟩) hbbl (fun h=>h hAb)).trans d2
  have hsym:=HSB.out bs[j] (by simp)
  have hdrop:(bs.drop j).map (fun y=>y.sym.toNat)=bs[j].sym.toNat :: (bs.drop (j+1)).map (fun y=>y.sym.toNat):=by rw [List.drop_eq_getElem_cons hlt]; rfl
  rw [hdrop,outL] at hO
  clear hdrop d0 d1 d2
  generalize bs[j]=it at *
  obtain ⟨isym,ifld,iass⟩:=it
  simp only at c0 c1 c2 hsym hO
  obtain ⟨s,rfl⟩:∃ s:Nat,isym=s:=⟨isym.toNat,by omega⟩
  rw [Int.toNat_natCast] at hO
  have hs:s<f.n:=by omega
  obtain ⟨_,_,_,w3,w4,w6,w7⟩:=HVW.out wv (Below.refl _ _)
  obtain ⟨ea,ec,rfl,hE,_⟩:=w6
  obtain ⟨fa,fc,rfl,hRr,_⟩:=w7
  rw [HLL.out.1] at w3
  rw [HLL.out.2] at w4
  obtain ⟨eb,eo,rfl,hebl,hec⟩:=hE s (onb Le s) (by unfold onb; rw [List.getD_eq_getElem?_getD,List.getElem?_eq_getElem (by rw [HLL.out.1]; exact hs)]; rfl)
  obtain ⟨fb,fo,rv,rfl,hfbl,hfc,hrow⟩:=hRr s (rowAt R s) (by unfold rowAt; rw [List.getD_eq_getElem?_getD,List.getElem?_eq_getElem (by rw [HLL.out.2]; exact hs)]; rfl)
  obtain ⟨rwa,rwc,rfl,hrw,_⟩:=hrow
  have hr6:=HRW.out s
  obtain ⟨row,hrow⟩:∃ row,rowAt R s=row:=⟨_,rfl⟩
  rw [hrow] at hfc hrw hO hr6
  obtain ⟨em,hem⟩:∃ em,onb Le s=em:=⟨_,rfl⟩
  rw [hem] at hec hO
  clear hrow hem hE hRr
  have HVX:Hid (∀ W',Below wv.heap.size wv W'→W'.cell? ⟨K1,0,none⟩=some (.pointer (some ⟨G,0,none⟩))→W'.cell? ⟨G,0,none⟩=some (.pointer (some ⟨V,0,none⟩))→W'.cell? ⟨wr.heap.size,0,none⟩=some (.int .i64 s)→(W'.cell? ⟨K1,0,none⟩=some (.pointer (some ⟨G,0,none⟩))∧W'.cell? ⟨G,0,none⟩=some (.pointer (some ⟨V,0,none⟩))∧W'.cell? ⟨V,3,none⟩=some (.slice (some ⟨eb,eo,none⟩) f.n ec)∧W'.cell? ⟨V,4,none⟩=some (.slice (some ⟨fb,fo,none⟩) f.n fc)∧W'.cell? ⟨eb,eo+s,none⟩=some (.bool em)∧W'.cell? ⟨fb,fo+s,none⟩=some (.slice rwa row.length rwc)∧W'.cell? ⟨wr.heap.size,0,none⟩=some (.int .i64 s))):=fun W' hb e1 e2 e3=>⟨e1,e2,(hb.cell (p:=⟨V,3,none⟩) hVl).trans w3,(hb.cell (p:=⟨V,4,none⟩) hVl).trans w4,(hb.cell (p:=⟨eb,eo+s,none⟩) hebl).trans hec,(hb.cell (p:=⟨fb,fo+s,none⟩) hfbl).trans hfc,e3⟩
  have HRWX:Hid (∀ W',Below wv.heap.size wv W'→∀ i,i<row.length→∃ b off,rwa=some ⟨b,off,none⟩∧b<wv.heap.size∧∃ q,row[i]?=some q∧W'.cell? ⟨b,off+i,none⟩=some (.int .i64 q)):=fun W' hb i hi=>by
    obtain ⟨b,off,e,hbl',hc'⟩:=hrw i row[i] (by simp [hi])
    exact ⟨b,off,e,hbl',row[i],by simp [hi],(hb.cell (p:=⟨b,off+i,none⟩) hbl').trans hc'⟩
  clear w3 w4 hec hfc hrw hebl hfbl
  have Bb':Below wr.heap.size wr (wr.alloc (Obj.cells #[.int .i64 s,.string ifld,.string iass] 55)):=(Below.refl _ _).alloc (Nat.le_refl _) _
  have hbox:(wr.alloc (Obj.cells #[.int .i64 s,.string ifld,.string iass] 55)).cell? ⟨wr.heap.size,0,none⟩=some (.int .i64 s):=by simp
  have hszb:(wr.alloc (Obj.cells #[.int .i64 s,.string ifld,.string iass] 55)).heap.size=wr.heap.size+1:=by simp
  have hk1r:=World.block_lt_of_cell? _ _ q1
  have hg0r:=World.block_lt_of_cell? _ _ hG0
  have hBb:Below wv.heap.size wv (wr.alloc (Obj.cells #[.int .i64 s,.string ifld,.string iass] 55)):=hBw.trans (Bb'.mono hBw.size)
  have hS4:((wr.alloc (Obj.cells #[.int .i64 s,.string ifld,.string iass] 55)).drew.cell? ⟨K1,0,none⟩=some (.pointer (some ⟨G,0,none⟩))∧(wr.alloc (Obj.cells #[.int .i64 s,.string ifld,.string iass] 55)).drew.cell? ⟨G,0,none⟩=some (.pointer (some ⟨V,0,none⟩))∧(wr.alloc (Obj.cells #[.int .i64 s,.string ifld,.string iass] 55)).drew.cell? ⟨V,3,none⟩=some (.slice (some ⟨eb,eo,none⟩) f.n ec)∧(wr.alloc (Obj.cells #[.int .i64 s,.string ifld,.string iass] 55)).drew.cell? ⟨V,4,none⟩=some (.slice (some ⟨fb,fo,none⟩) f.n fc)∧(wr.alloc (Obj.cells #[.int .i64 s,.string ifld,.string iass] 55)).drew.cell? ⟨eb,eo+s,none⟩=some (.bool em)∧(wr.alloc (Obj.cells #[.int .i64 s,.string ifld,.string iass] 55)).drew.cell? ⟨fb,fo+s,none⟩=some (.slice rwa row.length rwc)∧(wr.alloc (Obj.cells #[.int .i64 s,.string ifld,.string iass] 55)).drew.cell? ⟨wr.heap.size,0,none⟩=some (.int .i64 s)):=HVX.out _ hBb.drew ((Bb'.cell (p:=⟨K1,0,none⟩) hk1r).trans q1) ((Bb'.cell (p:=⟨G,0,none⟩) hg0r).trans hG0) hbox
  have HJB:Hid (J (fun k=>A k∨k=wr.heap.size) pre (wr.alloc (Obj.cells #[.int .i64 s,.string ifld,.string iass] 55)).drew):=HF.out.less _ _ _ _ (HF.out.new _ _ _ _ HJ.out Bb'.drew) (fun k hk=>hk.imp id (fun e=>by subst e; exact ⟨Nat.le_refl _,by show _<(wr.alloc (Obj.cells #[.int .i64 s,.string ifld,.string iass] 55)).heap.size; omega⟩))
  have hsn:(s:Int)<f.n:=by omega
  have hBT2:But (fun k=>¬ A1 k) W2 (wr.alloc (Obj.cells #[.int .i64 s,.string ifld,.string iass] 55)).drew:=HBT.out.trans (But.of_next Bb'.drew)
  clear q2 HJ
  cases fr with
  | false =>
    simp only [Bool.false_eq_true,if_false,List.nil_append] at hO
    have HO:Hid (pre++(if em=true then outL R Le false ((bs.drop (j+1)).map (fun y=>y.sym.toNat)) x2 else [])=OUT):=hO
    clear hO HRWX Bb' hbox hBb hk1r hg0r hBw HVX q1
    gi_wp2
    generalize wr.alloc (Obj.cells #[.int .i64 s,.string ifld,.string iass] 55)=wb at *
    refine wpIn_wide.2 ?_
    refine wp_region_L (fun W=>W.cell? ⟨K1,0,none⟩=some (.pointer (some ⟨G,0,none⟩))∧W.cell? ⟨G,0,none⟩=some (.pointer (some ⟨V,0,none⟩))∧W.cell? ⟨V,3,none⟩=some (.slice (some ⟨eb,eo,none⟩) f.n ec)∧W.cell? ⟨V,4,none⟩=some (.slice (some ⟨fb,fo,none⟩) f.n fc)∧W.cell? ⟨eb,eo+s,none⟩=some (.bool em)∧W.cell? ⟨fb,fo+s,none⟩=some (.slice rwa row.length rwc)∧W.cell? ⟨wr.heap.size,0,none⟩=some (.int .i64 s)) 31 (by kernel_rfl) 31 rfl ?_
    refine tk 0 ⟨some 36,.move (.tmp 4),4, "grower.go:73",#[],none⟩ hS4 ?_;simp only [Act.put,sA,s0,sS]
    refine tk 1 ⟨some 37,.move (.tmp 36),4, "grower.go:73",#[⟨0,.data⟩],none⟩ hS4 ?_;simp only [Act.put,sA,s0,sS]
    refine tu 2 ⟨some 38,.load 186 (.tmp 1),186, "grower.go:73",#[⟨1,.guard⟩],some (1,true)⟩ hS4 ?_;simp only [Act.put,sA,s0,sS]
    refine tu 3 ⟨some 39,.nilCheck (.tmp 38),0, "grower.go:73",#[⟨2,.data⟩,⟨1,.guard⟩],some (1,true)⟩ hS4 ?_;simp only [Act.put,sA,s0,sS]
    refine tu 4 ⟨some 40,.fieldAddr 214 (.tmp 39) 0,0, "grower.go:73",#[⟨3,.data⟩,⟨1,.guard⟩],some (1,true)⟩ hS4 ?_;simp only [Act.put,sA,s0,sS]
    refine tu 5 ⟨some 41,.load 111 (.tmp 40),111, "grower.go:73",#[⟨4,.data⟩,⟨1,.guard⟩],some (1,true)⟩ hS4 ?_;simp only [Act.put,sA,s0,sS]
    refine tu 6 ⟨some 42,.nilCheck (.tmp 41),0, "grower.go:73",#[⟨5,.data⟩,⟨1,.guard⟩],some (1,true)⟩ hS4 ?_;simp only [Act.put,sA,s0,sS]
    refine tu 7 ⟨some 43,.fieldAddr 152 (.tmp 42) 2,0, "grower.go:73",#[⟨6,.data⟩,⟨1,.guard⟩],some (1,true)⟩ hS4 ?_;simp only [Act.put,sA,s0,sS]
    refine tu 8 ⟨some 44,.load 149 (.tmp 43),149, "grower.go:73",#[⟨7,.data⟩,⟨1,.guard⟩],some (1,true)⟩ hS4 ?_;simp only [Act.put,sA,s0,sS]
    refine tu 9 ⟨some 45,.fieldAddr 55 (.tmp 6) 0,0, "grower.go:73",#[⟨1,.guard⟩],some (1,true)⟩ hS4 ?_;simp only [Act.put,sA,s0,sS]
    refine tu 10 ⟨some 46,.load 3 (.tmp 45),3, "grower.go:73",#[⟨9,.data⟩,⟨1,.guard⟩],some (1,true)⟩ hS4 ?_;simp only [Act.put,sA,s0,sS]
    refine tu 11 ⟨some 47,.indexAddr 149 (.tmp 44) (.tmp 46),0, "grower.go:73",#[⟨8,.data⟩,⟨10,.data⟩,⟨1,.guard⟩],some (1,true)⟩ hS4 ?_;simp only [Act.put,sA,s0,sS]
    refine tu 12 ⟨some 48,.load 43 (.tmp 47),43, "grower.go:73",#[⟨11,.data⟩,⟨1,.guard⟩],some (1,true)⟩ hS4 ?_;simp only [Act.put,sA,s0,sS]
    refine tu 13 ⟨some 49,.move (.tmp 0),194, "grower.go:73",#[⟨1,.guard⟩],some (1,true)⟩ hS4 ?_;simp only [Act.put,sA,s0,sS]
    refine tu 14 ⟨some 50,.call ⟨.value (.func 177),#[.tmp 48,.tmp 49],#[43,194]⟩,4, "grower.go:73",#[⟨12,.data⟩,⟨13,.data⟩,⟨1,.chain⟩,⟨1,.guard⟩],some (1,true)⟩ hS4 ?_;simp only [Act.put,sA,s0,sS]
    refine tu 15 ⟨some 51,.unOp .not 4 (.tmp 50),4, "grower.go:73",#[⟨14,.data⟩,⟨1,.guard⟩],some (1,true)⟩ hS4 ?_;simp only [Act.put,sA,s0,sS]
    refine tk 16 ⟨some 52,.pick (.tmp 37) (.tmp 51) (.const (.bool false)),4, "grower.go:73",#[⟨1,.data⟩,⟨15,.data⟩],none⟩ hS4 ?_;simp only [Act.put,sA,s0,sS]
    refine tk 17 ⟨some 53,.move (.tmp 52),4, "grower.go:73",#[⟨16,.data⟩,⟨14,.chain⟩],none⟩ hS4 ?_;simp only [Act.put,sA,s0,sS]
    refine tk 18 ⟨some 54,.load 186 (.tmp 1),186, "grower.go:73",#[⟨17,.guard⟩],some (17,false)⟩ hS4 ?_;simp only [Act.put,sA,s0,sS]
    refine tk 19 ⟨some 55,.nilCheck (.tmp 54),0, "grower.go:73",#[⟨18,.data⟩,⟨17,.guard⟩],some (17,false)⟩ hS4 ?_;simp only [Act.put,sA,s0,sS]
    refine tk 20 ⟨some 56,.fieldAddr 214 (.tmp 55) 0,0, "grower.go:73",#[⟨19,.data⟩,⟨17,.guard⟩],some (17,false)⟩ hS4 ?_;simp only [Act.put,sA,s0,sS]
    refine tk 21 ⟨some 57,.load 111 (.tmp 56),111, "grower.go:73",#[⟨20,.data⟩,⟨17,.guard⟩],some (17,false)⟩ hS4 ?_;simp only [Act.put,sA,s0,sS]
    refine tk 22 ⟨some 58,.nilCheck (.tmp 57),0, "grower.go:73",#[⟨21,.data⟩,⟨17,.guard⟩],some (17,false)⟩ hS4 ?_;simp only [Act.put,sA,s0,sS]
    refine tk 23 ⟨some 59,.fieldAddr 152 (.tmp 58) 1,0, "grower.go:73",#[⟨22,.data⟩,⟨17,.guard⟩],some (17,false)⟩ hS4 ?_;simp only [Act.put,sA,s0,sS]
    refine tk 24 ⟨some 60,.load 147 (.tmp 59),147, "grower.go:73",#[⟨23,.data⟩,⟨17,.guard⟩],some (17,false)⟩ hS4 ?_;simp only [Act.put,sA,s0,sS]
    refine tk 25 ⟨some 61,.fieldAddr 55 (.tmp 6) 0,0, "grower.go:73",#[⟨17,.guard⟩],some (17,false)⟩ hS4 ?_;simp only [Act.put,sA,s0,sS]
    refine tk 26 ⟨some 62,.load 3 (.tmp 61),3, "grower.go:73",#[⟨25,.data⟩,⟨17,.guard⟩],some (17,false)⟩ hS4 ?_;simp only [Act.put,sA,s0,sS]
    refine tk 27 ⟨some 63,.indexAddr 147 (.tmp 60) (.tmp 62),0, "grower.go:73",#[⟨24,.data⟩,⟨26,.data⟩,⟨17,.guard⟩],some (17,false)⟩ hS4 ?_;simp only [Act.put,sA,s0,sS]
    refine tk 28 ⟨some 64,.load 4 (.tmp 63),4, "grower.go:73",#[⟨27,.data⟩,⟨17,.guard⟩],some (17,false)⟩ hS4 ?_;simp only [Act.put,sA,s0,sS]
    refine tk 29 ⟨some 65,.unOp .not 4 (.tmp 64),4, "grower.go:73",#[⟨28,.data⟩,⟨17,.guard⟩],some (17,false)⟩ hS4 ?_;simp only [Act.put,sA,s0,sS]
    refine tk 30 ⟨some 66,.pick (.tmp 53) (.const (.bool true)) (.tmp 65),4, "grower.go:73",#[⟨17,.data⟩,⟨29,.data⟩],none⟩ hS4 ?_;simp only [Act.put,sA,s0,sS]
    refine wpAnyL_done (by kernel_rfl) ?_ _
    have HJE:Hid (J (fun k=>A k∨k=wr.heap.size) pre wb.drew):=HJB.out
    have HBE:Hid (But (fun k=>¬ A1 k) W2 wb.drew):=hBT2
    clear HJB
    cases em with
    | false =>
      have HFN:Hid (J A0 OUT wb.drew):=by rw [← HO.out]; simp only [Bool.false_eq_true,if_false,List.append_nil]; exact HF.out.less _ _ _ _ HJE.out (fun k hk=>.inl (HAA.out k (HA1.out k hk)))
      clear HO HJE hS4 hBT2
      gi_wp2
      refine bodyPost_ret (results_none rfl _ _ _) rfl ?_
      exact ⟨⟨_,rfl⟩,OUT,HOUT.out.symm,HFN.out⟩
    | true =>
      have HFN:Hid ((∀ k,A1 k→A k∨k=wr.heap.size)∧J (fun k=>A k∨k=wr.heap.size) pre wb.drew∧But (fun k=>¬ A1 k) W2 wb.drew∧pre++outL R Le false ((bs.drop (j+1)).map (fun y=>y.sym.toNat)) x2=OUT):=⟨fun k hk=>.inl (HAA.out k hk),HJE.out,HBE.out,by have:=HO.out; simp only [if_true] at this; exact this⟩
      clear HO HJE hS4 hBT2
      gi_wp2
      go_roundw
      case rel=>exact ⟨j+1,_,_,by go_num,by omega,HFN.out.1,HFN.out.2.1,HFN.out.2.2.1,HFN.out.2.2.2⟩
      case measure=>simp [intOf]; omega
  | true =>
    simp only [if_true] at hO
    have HO:Hid ((pre++row)++(if em=true then outL R Le true ((bs.drop (j+1)).map (fun y=>y.sym.toNat)) x2 else [])=OUT):=by show _=_; rw [← hO,List.append_assoc]
    have hlen:pre.length+row.length≤N:=by have:=HNN.out; rw [← HO.out] at this; simp only [List.length_append] at this; omega
    have hY:=callsIn_wide.1 (yieldAll_in n hn l N row rwa rwc _ _ J HF.out (fun k=>A k∨k=wr.heap.size) pre (wr.alloc (Obj.cells #[.int .i64 s,.string ifld,.string iass] 55)).drew HJB.out hlen (by omega) (fun q hq=>HOK.out q (by rw [← HO.out]; simp [hq])) (fun i hi=>by
      obtain ⟨b,off,e,hb,q,hq,hc⟩:=HRWX.out _ hBb.drew i hi
      exact ⟨b,off,e,.inl (HAA.out _ (HAB.out _ (by omega))),q,hq,hc⟩))
    have HYY:Hid (Calls Tryz.prog 177 #[.slice rwa row.length rwc,.func (.yield l) #[] #[]] (wr.alloc (Obj.cells #[.int .i64 s,.string ifld,.string iass] 55)).drew fun e W'=>e=.returned (.bool true)∧J (fun k=>A k∨k=wr.heap.size) (pre++row) W'∧(W'.cell? ⟨K1,0,none⟩=some (.pointer (some ⟨G,0,none⟩))∧W'.cell? ⟨G,0,none⟩=some (.pointer (some ⟨V,0,none⟩))∧W'.cell? ⟨V,3,none⟩=some (.slice (some ⟨eb,eo,none⟩) f.n ec)∧W'.cell? ⟨V,4,none⟩=some (.slice (some ⟨fb,fo,none⟩) f.n fc)∧W'.cell? ⟨eb,eo+s,none⟩=some (.bool em)∧W'.cell? ⟨fb,fo+s,none⟩=some (.slice rwa row.length rwc)∧W'.cell? ⟨wr.heap.size,0,none⟩=some (.int .i64 s))∧But (fun k=>¬ A1 k) W2 W'):=by
      refine hY.mono ?_
      rintro e W' ⟨rfl,k1,k2⟩
      have hbv:Below wv.heap.size wv W':=hBb.drew.trans (k2.below (by have:=hBb.size; exact this) (fun k hk=>Nat.le_of_not_lt (fun h=>hk (.inl (HAA.out k (HAB.out k (by omega)))))))
      have kc:∀ {b o:Nat} {v:Value},(A b∨b=wr.heap.size)→(wr.alloc (Obj.cells #[.int .i64 s,.string ifld,.string iass] 55)).drew.cell? ⟨b,o,none⟩=some v→W'.cell? ⟨b,o,none⟩=some v:=fun {b o v} hb hv=>(k2.cell (p:=⟨b,o,none⟩) (World.block_lt_of_cell? _ _ hv) (fun h=>h hb)).trans hv
      exact ⟨rfl,k1,HVX.out _ hbv (kc (.inl (HAA.out _ HAK.out.1)) hS4.1) (HF.out.fx _ _ _ k1) (kc (.inr rfl) hbox),hBT2.trans (k2.mono (fun k _ hk hp=>hk (.inl (HAA.out k hp))))⟩
    clear hO HRWX Bb' hbox hBb hk1r hg0r hBw HVX hY hlen HJB q1
    gi_wp2
    generalize wr.alloc (Obj.cells #[.int .i64 s,.string ifld,.string iass] 55)=wb at *
    refine wpIn_wide.2 ?_
    refine wp_region_L (fun W=>W.cell? ⟨K1,0,none⟩=some (.pointer (some ⟨G,0,none⟩))∧W.cell? ⟨G,0,none⟩=some (.pointer (some ⟨V,0,none⟩))∧W.cell? ⟨V,3,none⟩=some (.slice (some ⟨eb,eo,none⟩) f.n ec)∧W.cell? ⟨V,4,none⟩=some (.slice (some ⟨fb,fo,none⟩) f.n fc)∧W.cell? ⟨eb,eo+s,none⟩=some (.bool em)∧W.cell? ⟨fb,fo+s,none⟩=some (.slice rwa row.length rwc)∧W.cell? ⟨wr.heap.size,0,none⟩=some (.int .i64 s)) 31 (by kernel_rfl) 31 rfl ?_
    refine tk 0 ⟨some 36,.move (.tmp 4),4, "grower.go:73",#[],none⟩ hS4 ?_;simp only [Act.put,sA,s0,sS]
    refine tk 1 ⟨some 37,.move (.tmp 36),4, "grower.go:73",#[⟨0,.data⟩],none⟩ hS4 ?_;simp only [Act.put,sA,s0,sS]
    refine tk 2 ⟨some 38,.load 186 (.tmp 1),186, "grower.go:73",#[⟨1,.guard⟩],some (1,true)⟩ hS4 ?_;simp only [Act.put,sA,s0,sS]
    refine tk 3 ⟨some 39,.nilCheck (.tmp 38),0, "grower.go:73",#[⟨2,.data⟩,⟨1,.guard⟩],some (1,true)⟩ hS4 ?_;simp only [Act.put,sA,s0,sS]
    refine tk 4 ⟨some 40,.fieldAddr 214 (.tmp 39) 0,0, "grower.go:73",#[⟨3,.data⟩,⟨1,.guard⟩],some (1,true)⟩ hS4 ?_;simp only [Act.put,sA,s0,sS]
    refine tk 5 ⟨some 41,.load 111 (.tmp 40),111, "grower.go:73",#[⟨4,.data⟩,⟨1,.guard⟩],some (1,true)⟩ hS4 ?_;simp only [Act.put,sA,s0,sS]
    refine tk 6 ⟨some 42,.nilCheck (.tmp 41),0, "grower.go:73",#[⟨5,.data⟩,⟨1,.guard⟩],some (1,true)⟩ hS4 ?_;simp only [Act.put,sA,s0,sS]
    refine tk 7 ⟨some 43,.fieldAddr 152 (.tmp 42) 2,0, "grower.go:73",#[⟨6,.data⟩,⟨1,.guard⟩],some (1,true)⟩ hS4 ?_;simp only [Act.put,sA,s0,sS]
    refine tk 8 ⟨some 44,.load 149 (.tmp 43),149, "grower.go:73",#[⟨7,.data⟩,⟨1,.guard⟩],some (1,true)⟩ hS4 ?_;simp only [Act.put,sA,s0,sS]
    refine tk 9 ⟨some 45,.fieldAddr 55 (.tmp 6) 0,0, "grower.go:73",#[⟨1,.guard⟩],some (1,true)⟩ hS4 ?_;simp only [Act.put,sA,s0,sS]
    refine tk 10 ⟨some 46,.load 3 (.tmp 45),3, "grower.go:73",#[⟨9,.data⟩,⟨1,.guard⟩],some (1,true)⟩ hS4 ?_;simp only [Act.put,sA,s0,sS]
    refine tk 11 ⟨some 47,.indexAddr 149 (.tmp 44) (.tmp 46),0, "grower.go:73",#[⟨8,.data⟩,⟨10,.data⟩,⟨1,.guard⟩],some (1,true)⟩ hS4 ?_;simp only [Act.put,sA,s0,sS]
    refine tk 12 ⟨some 48,.load 43 (.tmp 47),43, "grower.go:73",#[⟨11,.data⟩,⟨1,.guard⟩],some (1,true)⟩ hS4 ?_;simp only [Act.put,sA,s0,sS]
    refine tk 13 ⟨some 49,.move (.tmp 0),194, "grower.go:73",#[⟨1,.guard⟩],some (1,true)⟩ hS4 ?_;simp only [Act.put,sA,s0,sS]
    refine wpAnyL_one' (i:=14) (o:=⟨some 50,.call ⟨.value (.func 177),#[.tmp 48,.tmp 49],#[43,194]⟩,4, "grower.go:73",#[⟨12,.data⟩,⟨13,.data⟩,⟨1,.chain⟩,⟨1,.guard⟩],some (1,true)⟩) (by kernel_rfl) rfl rfl (fun K hK=>?_)
    go_simp
    refine HYY.out.mono ?_
    rintro e W3 ⟨rfl,hJ3,hS5,hB3⟩
    refine hK.out _ _ (fun _=>hS5) ?_
    clear hK HYY
    refine tk 15 ⟨some 51,.unOp .not 4 (.tmp 50),4, "grower.go:73",#[⟨14,.data⟩,⟨1,.guard⟩],some (1,true)⟩ hS5 ?_;simp only [Act.put,sA,s0,sS]
    refine tk 16 ⟨some 52,.pick (.tmp 37) (.tmp 51) (.const (.bool false)),4, "grower.go:73",#[⟨1,.data⟩,⟨15,.data⟩],none⟩ hS5 ?_;simp only [Act.put,sA,s0,sS]
    refine tk 17 ⟨some 53,.move (.tmp 52),4, "grower.go:73",#[⟨16,.data⟩,⟨14,.chain⟩],none⟩ hS5 ?_;simp only [Act.put,sA,s0,sS]
    refine tk 18 ⟨some 54,.load 186 (.tmp 1),186, "grower.go:73",#[⟨17,.guard⟩],some (17,false)⟩ hS5 ?_;simp only [Act.put,sA,s0,sS]
    refine tk 19 ⟨some 55,.nilCheck (.tmp 54),0, "grower.go:73",#[⟨18,.data⟩,⟨17,.guard⟩],some (17,false)⟩ hS5 ?_;simp only [Act.put,sA,s0,sS]
    refine tk 20 ⟨some 56,.fieldAddr 214 (.tmp 55) 0,0, "grower.go:73",#[⟨19,.data⟩,⟨17,.guard⟩],some (17,false)⟩ hS5 ?_;simp only [Act.put,sA,s0,sS]
    refine tk 21 ⟨some 57,.load 111 (.tmp 56),111, "grower.go:73",#[⟨20,.data⟩,⟨17,.guard⟩],some (17,false)⟩ hS5 ?_;simp only [Act.put,sA,s0,sS]
    refine tk 22 ⟨some 58,.nilCheck (.tmp 57),0, "grower.go:73",#[⟨21,.data⟩,⟨17,.guard⟩],some (17,false)⟩ hS5 ?_;simp only [Act.put,sA,s0,sS]
    refine tk 23 ⟨some 59,.fieldAddr 152 (.tmp 58) 1,0, "grower.go:73",#[⟨22,.data⟩,⟨17,.guard⟩],some (17,false)⟩ hS5 ?_;simp only [Act.put,sA,s0,sS]
    refine tk 24 ⟨some 60,.load 147 (.tmp 59),147, "grower.go:73",#[⟨23,.data⟩,⟨17,.guard⟩],some (17,false)⟩ hS5 ?_;simp only [Act.put,sA,s0,sS]
    refine tk 25 ⟨some 61,.fieldAddr 55 (.tmp 6) 0,0, "grower.go:73",#[⟨17,.guard⟩],some (17,false)⟩ hS5 ?_;simp only [Act.put,sA,s0,sS]
    refine tk 26 ⟨some 62,.load 3 (.tmp 61),3, "grower.go:73",#[⟨25,.data⟩,⟨17,.guard⟩],some (17,false)⟩ hS5 ?_;simp only [Act.put,sA,s0,sS]
    refine tk 27 ⟨some 63,.indexAddr 147 (.tmp 60) (.tmp 62),0, "grower.go:73",#[⟨24,.data⟩,⟨26,.data⟩,⟨17,.guard⟩],some (17,false)⟩ hS5 ?_;simp only [Act.put,sA,s0,sS]
    refine tk 28 ⟨some 64,.load 4 (.tmp 63),4, "grower.go:73",#[⟨27,.data⟩,⟨17,.guard⟩],some (17,false)⟩ hS5 ?_;simp only [Act.put,sA,s0,sS]
    refine tk 29 ⟨some 65,.unOp .not 4 (.tmp 64),4, "grower.go:73",#[⟨28,.data⟩,⟨17,.guard⟩],some (17,false)⟩ hS5 ?_;simp only [Act.put,sA,s0,sS]
    refine tk 30 ⟨some 66,.pick (.tmp 53) (.const (.bool true)) (.tmp 65),4, "grower.go:73",#[⟨17,.data⟩,⟨29,.data⟩],none⟩ hS5 ?_;simp only [Act.put,sA,s0,sS]
    refine wpAnyL_done (by kernel_rfl) ?_ _
    have HJE:Hid (J (fun k=>A k∨k=wr.heap.size) (pre++row) W3):=hJ3
    have HBE:Hid (But (fun k=>¬ A1 k) W2 W3):=hB3
    clear hJ3 hB3 hS5
    cases em with
    | false =>
      have HFN:Hid (J A0 OUT W3):=by rw [← HO.out]; simp only [Bool.false_eq_true,if_false,List.append_nil]; exact HF.out.less _ _ _ _ HJE.out (fun k hk=>.inl (HAA.out k (HA1.out k hk)))
      clear HO HJE hS4 hBT2
      gi_wp2
      refine bodyPost_ret (results_none rfl _ _ _) rfl ?_
      exact ⟨⟨_,rfl⟩,OUT,HOUT.out.symm,HFN.out⟩
    | true =>
      have HFN:Hid ((∀ k,A1 k→A k∨k=wr.heap.size)∧J (fun k=>A k∨k=wr.heap.size) (pre++row) W3∧But (fun k=>¬ A1 k) W2 W3∧(pre++row)++outL R Le true ((bs.drop (j+1)).map (fun y=>y.sym.toNat)) x2=OUT):=⟨fun k hk=>.inl (HAA.out k hk),HJE.out,HBE.out,by have:=HO.out; simp only [if_true] at this; exact this⟩
      clear HO HJE hS4 hBT2
      gi_wp2
      go_roundw
      case rel=>exact ⟨j+1,_,_,by go_num,by omega,HFN.out.1,HFN.out.2.1,HFN.out.2.2.1,HFN.out.2.2.2⟩
      case measure=>simp [intOf]; omega
end Go.Proofs.YtbilbgjojdlobaaGreatDoor
namespace Go.Proofs.YtbilbgjojdlobaaGreatDoor
theorem outL_true {R:List (List Int)} {Le:List Bool} {N:Nat} {emp:Nat→Prop} {fst:Nat→Int→Prop} (hR:∀ s,s<N→∀ t,t∈rowAt R s↔fst s t) (hL:∀ s,s<N→(onb Le s=true↔emp s)) {k t:Int} :
    ∀ {sy:List Nat},(∀ s∈sy,s<N)→(t∈outL R Le true sy k↔Beg emp fst (fun t=>t=k) sy t)
  | [],_=>by
    simp only [outL,List.mem_singleton]
    constructor
    · intro h; apply Beg.behind; exact h
    · intro h; cases h with | behind h=>exact h
  | s :: r,hs=>by
    have hsn:=hs s (by simp)
    have ih:=outL_true hR hL (k:=k) (t:=t) (sy:=r) (fun x hx=>hs x (by simp [hx]))
    simp only [outL,if_true,List.mem_append,hR s hsn]
    by_cases ho:onb Le s=true
    · rw [if_pos ho,ih]
      constructor
      · rintro (h | h)
        · exact .here h
        · exact .next ((hL _ hsn).1 ho) h
      · intro h
        cases h with
        | here h=>exact .inl h
        | next _ h=>exact .inr h
    · rw [if_neg ho]
      constructor
      · rintro (h | h)
        · exact .here h
        · cases h
      · intro h
        cases h with
        | here h=>exact .inl h
        | next h _=>exact absurd ((hL _ hsn).2 h) ho
theorem outL_false {R:List (List Int)} {Le:List Bool} {N:Nat} {emp:Nat→Prop} (hL:∀ s,s<N→(onb Le s=true↔emp s)) {k t:Int} :
    ∀ {sy:List Nat},(∀ s∈sy,s<N)→(t∈outL R Le false sy k↔(∀ s∈sy,emp s)∧t=k)
  | [],_=>by simp [outL]
  | s :: r,hs=>by
    have hsn:=hs s (by simp)
    have ih:=outL_false (R:=R) hL (k:=k) (t:=t) (sy:=r) (fun x hx=>hs x (by simp [hx]))
    simp only [outL,Bool.false_eq_true,if_false,List.nil_append]
    by_cases ho:onb Le s=true
    · rw [if_pos ho,ih]
      simp [(hL _ hsn).1 ho]
    · rw [if_neg ho]
      simp only [List.not_mem_nil,List.mem_cons,forall_eq_or_imp,false_iff,not_and]
      rintro ⟨h,_⟩; exact absurd ((hL _ hsn).2 h) ho
theorem outL_len {R:List (List Int)} {Le:List Bool} {fr:Bool} {k:Int} (h:∀ q,(rowAt R q).length≤601):∀ {sy:List Nat},(outL R Le fr sy k).length≤601 * sy.length+1
  | []=>by simp [outL]
  | s :: r=>by
    have ih:=outL_len (Le:=Le) (fr:=fr) (k:=k) h (sy:=r)
    have h1:=h s
    simp only [outL,List.length_append,List.length_cons]
    split <;> split <;> simp <;> omega
theorem mem_addI {L:List Ir} {x y:Ir}:y∈addI L x↔y∈L∨y=x:=by
  unfold addI
  split
  · rename_i h
    constructor
    · exact .inl
    · rintro (h' | rfl)
      · exact h'
      · exact h
  · simp
theorem pre_addI (L:List Ir) (x:Ir):L <+: addI L x:=by
  unfold addI
  split
  · exact List.prefix_refl _
  · exact List.prefix_append _ _
theorem nodup_addI {L:List Ir} {x:Ir} (h:L.Nodup):(addI L x).Nodup:=by
  unfold addI
  split
  · exact h
  · rename_i hx
    rw [List.nodup_append]
    refine ⟨h,by simp,fun a ha b hb=>?_⟩
    simp at hb; subst hb
    rintro rfl; exact hx ha
theorem fold_put {α:Type} (g:α→Ir):∀ (Q:List α) (L:List Ir),(L.Nodup→(Q.foldl (fun L q=>addI L (g q)) L).Nodup)∧L <+: Q.foldl (fun L q=>addI L (g q)) L∧∀ y,y∈Q.foldl (fun L q=>addI L (g q)) L↔y∈L∨∃ q∈Q,y=g q
  | [],L=>⟨id,List.prefix_refl _,by simp⟩
  | q :: Q,L=>by
    obtain ⟨h1,h2,h3⟩:=fold_put g Q (addI L (g q))
    refine ⟨fun h=>h1 (nodup_addI h),(pre_addI L (g q)).trans h2,fun y=>?_⟩
    rw [List.foldl_cons,h3,mem_addI]
    simp only [List.mem_cons,exists_eq_or_imp]
    exact or_assoc
structure GI (f:Fl) (S0:Ir→Prop) (L:List Ir) (C S:List (Int × Int)) (k:Nat):Prop where
  nodup:L.Nodup
  sound:∀ x∈L,Cl f S0 x
  base:∀ x,S0 x→fitI f x=true→x∈L
  begun:∀ (s t:Int) (q:Nat) (p:Pr),(s,t)∈S→f.prods[q]?=some p→p.left=s→((q:Int),(0:Int),t)∈L
  snodup:S.Nodup
  sb:∀ p∈S,0≤p.1∧p.1<f.n∧0≤p.2∧p.2≤f.terms.length
  cnodup:C.Nodup
  cb:∀ c∈C,-1≤c.1∧c.1<f.prods.length∧0≤c.2∧c.2≤64
  cores:∀ (x:Ir) (s t:Int) (q:Nat) (p:Pr),(x.1,x.2.1)∈C→nextI f x=some s→Beg (EmpP f) (FstP f) (fun _=>False) (behI f x) t→f.prods[q]?=some p→p.left=s→((q:Int),(0:Int),t)∈L
  done:∀ (i:Nat) (x:Ir) (s t:Int) (q:Nat) (p:Pr),i<k→L[i]?=some x→nextI f x=some s→f.prods[q]?=some p→p.left=s→LookP f x t→((q:Int),(0:Int),t)∈L
  le:k≤L.length
theorem GI.len {f:Fl} {S0:Ir→Prop} {L:List Ir} {C S:List (Int × Int)} {k:Nat} (hp:FitP f) (h:GI f S0 L C S k):L.length≤maxI:=items_le hp h.nodup (fun x hx=>cl_fit (h.sound x hx))
theorem pairs_le {S:List (Int × Int)} (hn:S.Nodup) (hb:∀ p∈S,-1≤p.1∧p.1≤600∧0≤p.2∧p.2≤600):S.length≤1000000:=by
  have hm:(S.map fun p=>(p.1+1).toNat * 601+p.2.toNat).Nodup:=by
    unfold List.Nodup at hn ⊢
    rw [List.pairwise_map]
    refine hn.imp_of_mem (fun {a b} ha hb' hab e=>hab ?_)
    have h1:=hb a ha
    have h2:=hb b hb'
    exact Prod.ext (by omega) (by omega)
  have:=hm.length_le_of_subset (l₂:=List.range 1000000) (fun y hy=>by
    obtain ⟨x,hx,rfl⟩:=List.mem_map.1 hy
    have h1:=hb x hx
    rw [List.mem_range]
    omega)
  simpa using this
theorem GI.slen {f:Fl} {S0:Ir→Prop} {L:List Ir} {C S:List (Int × Int)} {k:Nat} (hp:FitP f) (h:GI f S0 L C S k):S.length≤1000000:=pairs_le h.snodup (fun p hx=>by
  have h1:=h.sb p hx
  have h2:f.terms.length+f.nons.length≤600:=hp.size
  have h3:f.n=f.terms.length+f.nons.length:=rfl
  omega)
theorem GI.clen {f:Fl} {S0:Ir→Prop} {L:List Ir} {C S:List (Int × Int)} {k:Nat} (hp:FitP f) (h:GI f S0 L C S k):C.length≤1000000:=pairs_le h.cnodup (fun p hx=>by
  have h1:=h.cb p hx
  have h2:=hp.prods
  omega)
theorem pre_get {α:Type} {L M:List α} (h:L <+: M) {i:Nat} (hi:i<L.length):M[i]?=L[i]?:=by
  obtain ⟨r,rfl⟩:=h
  exact List.getElem?_append_left hi
theorem GI.start {f:Fl} {l:List Ir} (hl:∀ x∈l,fitI f x=true):GI f (fun x=>x∈l) (l.foldl (fun L x=>addI L x) []) [] [] 0:=by
  obtain ⟨h1,_,h3⟩:=fold_put (fun x:Ir=>x) l []
  refine ⟨h1 List.nodup_nil,fun x hx=>?_,fun x hx _=>(h3 x).2 (.inr ⟨x,hx,rfl⟩),by simp,List.nodup_nil,by simp,List.nodup_nil,by simp,by simp,fun i x s t q p hi=>by omega,Nat.zero_le _⟩
  rcases (h3 x).1 hx with h | ⟨y,hy,rfl⟩
  · cases h
  · exact .base hy (hl _ hy)
theorem GI.begin {f:Fl} {S0:Ir→Prop} {L:List Ir} {C S:List (Int × Int)} {k:Nat} (hp:FitP f) (h:GI f S0 L C S k) {x:Ir} (hx:Cl f S0 x) {s:Nat} {t:Int} (hn:nextI f x=some (s:Int)) (ht:LookP f x t) :
    GI f S0 (begL1 f L S s t) C (begS S s t) k∧((s:Int),t)∈begS S s t∧L <+: begL1 f L S s t∧∀ y∈S,y∈begS S s t:=by
  by_cases hin:((s:Int),t)∈S
  · have e1:begS S s t=S:=by unfold begS; rw [if_pos hin]
    have e2:begL1 f L S s t=L:=by unfold begL1; rw [if_pos hin]
    rw [e1,e2]
    exact ⟨h,hin,List.prefix_refl _,fun _ h=>h⟩
  have e1:begS S s t=S++[((s:Int),t)]:=by unfold begS; rw [if_neg hin]
  have e2:begL1 f L S s t=(ofA f (s:Int)).foldl (fun L q=>addI L (q,0,t)) L:=by unfold begL1; rw [if_neg hin]; rfl
  rw [e1,e2]
  obtain ⟨h1,h2,h3⟩:=fold_put (fun q:Int=>((q,0,t):Ir)) (ofA f (s:Int)) L
  have hsub:∀ y∈L,y∈(ofA f (s:Int)).foldl (fun L q=>addI L (q,0,t)) L:=fun y hy=>(h3 y).2 (.inl hy)
  refine ⟨⟨h1 h.nodup,fun y hy=>?_,fun y hy hf=>hsub _ (h.base y hy hf),fun s' t' q p hst hq hl=>?_,?_,fun p hpS=>?_,h.cnodup,h.cb,fun y s' t' q p hc hn' hb hq hl=>hsub _ (h.cores y s' t' q p hc hn' hb hq hl),fun i y s' t' q p hi hy hn' hq hl hk=>?_,Nat.le_trans h.le h2.length_le⟩,by simp,h2,fun y hy=>by simp [hy]⟩
  · rcases (h3 y).1 hy with hy | ⟨q',hq',rfl⟩
    · exact h.sound y hy
    · obtain ⟨q,p,rfl,k1,k2⟩:=mem_ofA.1 hq'
      exact .step hx hn k1 k2 ht
  · rcases List.mem_append.1 hst with hst | hst
    · exact hsub _ (h.begun s' t' q p hst hq hl)
    · simp at hst
      obtain ⟨rfl,rfl⟩:=hst
      exact (h3 _).2 (.inr ⟨q,mem_ofA.2 ⟨q,p,rfl,hq,hl⟩,rfl⟩)
  · rw [List.nodup_append]
    refine ⟨h.snodup,by simp,fun a ha b hb=>?_⟩
    simp at hb; subst hb
    rintro rfl; exact hin ha
  · rcases List.mem_append.1 hpS with hpS | hpS
    · exact h.sb p hpS
    · simp at hpS; subst hpS
      have h4:=nextI_lt hp hn
      have h5:=look_le (cl_fit hx) ht
      simp only
      omega
  · rw [pre_get h2 (by have:=h.le; omega)] at hy
    exact hsub _ (h.done i y s' t' q p hi hy hn' hq hl hk)
theorem GI.skip {f:Fl} {S0:Ir→Prop} {L:List Ir} {C S:List (Int × Int)} {k:Nat} (h:GI f S0 L C S k) {x:Ir} (hx:L[k]?=some x) (hs:∀ (s:Int) (q:Nat) (p:Pr),nextI f x=some s→f.prods[q]?=some p→p.left≠s):GI f S0 L C S (k+1):=by
  refine ⟨h.nodup,h.sound,h.base,h.begun,h.snodup,h.sb,h.cnodup,h.cb,h.cores,fun i y s t q p hi hy hn hq hl hk=>?_,(List.getElem?_eq_some_iff.1 hx).1⟩
  rcases Nat.lt_or_ge i k with h' | h'
  · exact h.done i y s t q p h' hy hn hq hl hk
  · obtain rfl:i=k:=by omega
    rw [hx] at hy; cases hy
    exact absurd hl (hs s q p hn hq)
theorem GI.next {f:Fl} {R:List (List Int)} {Le:List Bool} (hfe:FE f R Le) (hp:FitP f) {S0:Ir→Prop} {L:List Ir} {C S:List (Int × Int)} {k:Nat} (h:GI f S0 L C S k) {x:Ir} (hx:L[k]?=some x) {s:Int} (hn:nextI f x=some s)
    (hall:∀ t∈outL R Le (!decide ((x.1,x.2.1)∈C)) (behI f x) x.2.2,(s,t)∈S):GI f S0 L (coreS C x) S (k+1):=by
  have hfit:=nextI_fit hn
  have hxf:=fitI_iff.1 hfit
  have h64:=rightI_le hp x.1
  have hR:∀ s,s<f.n→∀ t,t∈rowAt R s↔FstP f s t:=fun _ hs _=>rowAt_gives hfe.r hs
  have hL:∀ s,s<f.n→(onb Le s=true↔EmpP f s):=fun _ hs=>onb_gives hfe.e hs
  -- all that it begins with is there
  have hlook:∀ (t:Int) (q:Nat) (p:Pr),LookP f x t→f.prods[q]?=some p→p.left=s→((q:Int),(0:Int),t)∈L:=fun t q p ht hq hl=>by
    by_cases hc:(x.1,x.2.1)∈C
    · rcases beg_iff.1 ht with hb | hb
      · exact h.cores x s t q p hc hn hb hq hl
      · refine h.begun s t q p (hall t ?_) hq hl
        rw [decide_eq_true hc]
        exact (outL_false hL (behI_lt hp)).2 hb
    · refine h.begun s t q p (hall t ?_) hq hl
      rw [decide_eq_false hc]
      exact (outL_true hR hL (behI_lt hp)).2 ht
  refine ⟨h.nodup,h.sound,h.base,h.begun,h.snodup,h.sb,?_,fun c hc=>?_,fun y s' t q p hc hn' hb hq hl=>?_,fun i y s' t q p hi hy hn' hq hl hk=>?_,(List.getElem?_eq_some_iff.1 hx).1⟩
  · unfold coreS
    split
    · exact h.cnodup
    · rename_i hc
      rw [List.nodup_append]
      refine ⟨h.cnodup,by simp,fun a ha b hb=>?_⟩
      simp at hb; subst hb
      rintro rfl; exact hc ha
  · unfold coreS at hc
    split at hc
    · exact h.cb c hc
    · rcases List.mem_append.1 hc with hc | hc
      · exact h.cb c hc
      · simp at hc; subst hc
        simp only
        omega
  · have hor:(y.1,y.2.1)∈C∨(y.1,y.2.1)=(x.1,x.2.1):=by
      unfold coreS at hc
      split at hc
      · exact .inl hc
      · rcases List.mem_append.1 hc with hc | hc
        · exact .inl hc
        · simp at hc; exact .inr (Prod.ext hc.1 hc.2)
    rcases hor with hc | hc
    · exact h.cores y s' t q p hc hn' hb hq hl
    · simp only [Prod.mk.injEq] at hc
      obtain ⟨_,z,hz,hzs⟩:=nextI_some hn
      obtain ⟨_,z',hz',hzs'⟩:=nextI_some hn'
      rw [hc.1,hc.2,hz] at hz'
      cases hz'
      rw [hzs] at hzs'
      subst hzs'
      rw [behI_core hc.1 hc.2] at hb
      exact hlook t q p (beg_iff.2 (.inl hb)) hq hl
  · rcases Nat.lt_or_ge i k with h' | h'
    · exact h.done i y s' t q p h' hy hn' hq hl hk
    · obtain rfl:i=k:=by omega
      rw [hx] at hy; cases hy
      rw [hn] at hn'; cases hn'
      exact hlook t q p hk hq hl
theorem out_look {f:Fl} {R:List (List Int)} {Le:List Bool} (hfe:FE f R Le) (hp:FitP f) {x:Ir} {fr:Bool} {t:Int} (h:t∈outL R Le fr (behI f x) x.2.2):LookP f x t:=by
  have hR:∀ s,s<f.n→∀ t,t∈rowAt R s↔FstP f s t:=fun _ hs _=>rowAt_gives hfe.r hs
  have hL:∀ s,s<f.n→(onb Le s=true↔EmpP f s):=fun _ hs=>onb_gives hfe.e hs
  cases fr with
  | true=>exact (outL_true hR hL (behI_lt hp)).1 h
  | false=>exact beg_iff.2 (.inr ((outL_false hL (behI_lt hp)).1 h))
theorem GI.done' {f:Fl} {S0:Ir→Prop} {L:List Ir} {C S:List (Int × Int)} (h:GI f S0 L C S L.length) (x:Ir):x∈L↔Cl f S0 x :=
  ⟨h.sound x,fun hx=>cl_least (A:=fun x=>x∈L) h.base (fun y s t q p hy hn hq hl hk=>by
    obtain ⟨i,hi,rfl⟩:=List.getElem_of_mem hy
    exact h.done i _ s t q p hi (by simp [hi]) hn hq hl hk) hx⟩
end Go.Proofs.YtbilbgjojdlobaaGreatDoor
namespace Go.Proofs.YtbilbgjojdlobaaGreatDoor
open Go.RowKit Go.Shelf
attribute [local go_sem] Oper.semAt_some
def GInv (f:Fl) (S0:Ir→Prop) (Bi Bc Bb G V K0:Nat) (w:World) (Ds:List Nat) (k:Nat) (L:List Ir) (C S:List (Int × Int)) (lv:Value) (W:World):Prop :=
  GS Bi Bc Bb G V lv L C S W∧GI f S0 L C S k∧Apt (fun q=>q<Bi∨q=K0∨q∈Ds) Bi Bc Bb G lv W∧Mk Bi Ds W∧W.cell? ⟨K0,0,none⟩=some (.pointer (some ⟨G,0,none⟩))∧Below Bi w W∧0<L.length
theorem GS.apt {Bi Bc Bb G V:Nat} {lv:Value} {L:List Ir} {C S:List (Int × Int)} {W W':World} {D P:Nat→Prop} (h:GS Bi Bc Bb G V lv L C S W) (ha:Apt P Bi Bc Bb G lv W) (hb:But D W W') (hd:∀ k,D k→P k):GS Bi Bc Bb G V lv L C S W':=by
  have hl:=h.lt
  have nG:¬ D G:=fun hk=>(ha.1 G (hd G hk)).2.2.2.2 rfl
  have c:∀ {o v},W.cell? ⟨G,o,none⟩=some v→W'.cell? ⟨G,o,none⟩=some v:=fun {o v} hv=>(hb.cell (p:=⟨G,o,none⟩) hl nG).trans hv
  refine ⟨h.o1,h.o2,h.o3,Nat.lt_of_lt_of_le hl hb.size,c h.g0,c h.g1,c h.g2,c h.g3,c h.g4,(hb.frozen (p:=⟨G,2,none⟩) hl nG).trans h.fz,h.mi.but hb (fun hk=>(ha.1 _ (hd _ hk)).2.1 rfl),h.mc.but hb (fun hk=>(ha.1 _ (hd _ hk)).2.2.1 rfl),h.mb.but hb (fun hk=>(ha.1 _ (hd _ hk)).2.2.2.1 rfl),?_⟩
  obtain ⟨h1,h2⟩:=h.own
  refine ⟨h1,?_⟩
  rcases h2 with ⟨rfl,hn⟩ | ⟨g,cap,cur,rfl,hB,hg,h3⟩
  · exact .inl ⟨rfl,hn⟩
  · have hlt:g<W.heap.size:=(Array.getElem?_eq_some_iff.1 hg).1
    exact .inr ⟨g,cap,cur,rfl,hB,(hb.block g hlt (fun hk=>ha.2 g (by simp [Value.ownBlock]) (hd g hk))).trans hg,h3⟩
theorem Apt.less {P Q:Nat→Prop} {Bi Bc Bb G:Nat} {lv:Value} {w:World} (h:Apt P Bi Bc Bb G lv w) (hq:∀ k,Q k→P k):Apt Q Bi Bc Bb G lv w:=⟨fun k hk=>h.1 k (hq k hk),fun k e hk=>h.2 k e (hq k hk)⟩
theorem Apt.new {P:Nat→Prop} {Bi Bc Bb G V:Nat} {lv:Value} {L:List Ir} {C S:List (Int × Int)} {W W':World} (h:Apt P Bi Bc Bb G lv W) (hg:GS Bi Bc Bb G V lv L C S W) (hs:W.heap.size≤W'.heap.size):Apt (fun k=>P k∨(W.heap.size≤k∧k<W'.heap.size)) Bi Bc Bb G lv W':=by
  have h1:=hg.o1; have h2:=hg.o2; have h3:=hg.o3; have h4:=hg.lt
  refine ⟨fun k hk=>?_,fun k e hk=>?_⟩
  · rcases hk with hk | hk
    · exact (h.next hs).1 k hk
    · omega
  · rcases hk with hk | hk
    · exact h.2 k e hk
    · have:=World.ownsRow.lt hg.own k e; omega
def RInv (f:Fl) (S0:Ir→Prop) (wv w:World) (Bi Bc Bb G V K0 Y:Nat) (Ds:List Nat) (Az:Nat→Prop) (k:Nat) (L:List Ir) (C:List (Int × Int)) (x:Ir) (s:Nat) (A:Nat→Prop) (pre:List Int) (W:World):Prop :=
  ∃ L' S' lv',GS Bi Bc Bb G V lv' L' (coreS C x) S' W∧GI f S0 L' C S' k∧L <+: L'∧(∀ t∈pre,((s:Int),t)∈S')∧Apt (fun q=>A q∨Az q) Bi Bc Bb G lv' W∧W.cell? ⟨K0,0,none⟩=some (.pointer (some ⟨G,0,none⟩))∧W.cell? ⟨Y,0,none⟩=some (.int .i64 s)∧Below wv.heap.size wv W∧Mk Bi Ds W∧Below Bi w W
set_option maxRecDepth 100000 in
set_option maxHeartbeats 2000000 in
theorem grown_range (n:Nat) (hn:5≤n) (f:Fl) (a:FlA) (Le:List Bool) (R:List (List Int)) (wv:World) (Bi Bc Bb G V K0 K1 K2 Y:Nat) (S0:Ir→Prop) (Ds:List Nat) (k s:Nat) (lv:Value) (L:List Ir) (C S:List (Int × Int)) (x:Ir) (w W:World)
    {t2 t3 t4 t6 t7 t8 t9 t10 t11 t12 t13 t14 t15 t16 t17 t18 t19 t20 t21 t22 t23 t24 t25 t26 t27 t28 t29 t30 t31 t32 t33 t34 t35 t36 t37 t38 t39 t40 t41 t42 t43 t44 t45 t46 t47 t48 t49 t50 t51 t52 t53 t55 t56 t57 t58 t59 t60 t61 t62 t63 t64 t65 t66 t67 t68 t69:Value} {Q:Exit→Act→World→Prop}
    (h:GS Bi Bc Bb G V lv L C S W) (hv:VwAt f a V Le R wv) (hf:FlAt f a wv) (hfe:FE f R Le) (hwv:wv.heap.size≤Bi) (hB:Below wv.heap.size wv W) (hp:FitP f) (hG:GI f S0 L C S k) (hLk:L[k]?=some x) (hCx:Cl f S0 x) (hnx:nextI f x=some (s:Int))
    (hAp:Apt (fun q=>q<Bi∨q=K0∨q∈Ds∨q=Y∨q=K1∨q=K2) Bi Bc Bb G lv W) (hMk:Mk Bi Ds W) (hc0:W.cell? ⟨K0,0,none⟩=some (.pointer (some ⟨G,0,none⟩))) (hcY:W.cell? ⟨Y,0,none⟩=some (.int .i64 s)) (hk1:W.cell? ⟨K1,0,none⟩=some (.pointer (some ⟨G,0,none⟩))) (hk2:RBox x K2 W) (hBw:Below Bi w W)
    (hQ:∀ (D:Nat) (L':List Ir) (C' S':List (Int × Int)) (lv':Value) (W':World),GInv f S0 Bi Bc Bb G V K0 w (D :: Ds) (k+1) L' C' S' lv' W'→Q .normal { tmps:=#[.pointer (some ⟨G,0,none⟩),.pointer (some ⟨K0,0,none⟩),t2,t3,t4,.pointer (some ⟨Y,0,none⟩),t6,t7,t8,t9,t10,t11,t12,t13,t14,t15,t16,t17,t18,t19,t20,t21,t22,t23,t24,t25,t26,t27,t28,t29,t30,t31,t32,t33,t34,t35,t36,t37,t38,t39,t40,t41,t42,t43,t44,t45,t46,t47,t48,t49,t50,t51,t52,t53,.func (.func 175) #[] #[.pointer (some ⟨K1,0,none⟩),.pointer (some ⟨K2,0,none⟩)],t55,t56,t57,t58,t59,t60,t61,t62,t63,t64,t65,t66,t67,t68,t69],defers:=mark D :: Ds.map mark } W') :
    (Code.rangeFunc (Operand.tmp 54) #[55] (Code.region 8 #[⟨some 7,.assign (.tmp 55),3, "grower.go:50",#[],none⟩] false) (Code.block 3 (Code.region 9 #[⟨some 56,.load 186 (.tmp 1),186, "grower.go:51",#[],none⟩,⟨some 57,.load 3 (.tmp 5),3, "grower.go:51",#[],none⟩,⟨some 58,.move (.tmp 7),3, "grower.go:51",#[],none⟩,⟨some 59,.build 219 #[(0,.tmp 57),(1,.tmp 58)],219, "grower.go:51",#[⟨1,.data⟩,⟨2,.data⟩],none⟩,⟨some 60,.call ⟨.value (.func 158),#[.tmp 56,.tmp 59],#[186,219]⟩,0, "grower.go:51",#[⟨0,.data⟩,⟨3,.data⟩],none⟩] false))).wpIn Fence.wide n Tryz.prog Q { tmps:=#[.pointer (some ⟨G,0,none⟩),.pointer (some ⟨K0,0,none⟩),t2,t3,t4,.pointer (some ⟨Y,0,none⟩),t6,t7,t8,t9,t10,t11,t12,t13,t14,t15,t16,t17,t18,t19,t20,t21,t22,t23,t24,t25,t26,t27,t28,t29,t30,t31,t32,t33,t34,t35,t36,t37,t38,t39,t40,t41,t42,t43,t44,t45,t46,t47,t48,t49,t50,t51,t52,t53,.func (.func 175) #[] #[.pointer (some ⟨K1,0,none⟩),.pointer (some ⟨K2,0,none⟩)],t55,t56,t57,t58,t59,t60,t61,t62,t63,t64,t65,t66,t67,t68,t69],defers:=Ds.map mark } W:=by
  have hlt:=h.lt
  have ho1:=h.o1
  have ho2:=h.o2
  have ho3:=h.o3
  have hK0:K0<W.heap.size:=World.block_lt_of_cell? _ _ hc0
  have hY:Y<W.heap.size:=World.block_lt_of_cell? _ _ hcY
  have hDl:=hMk.lt
  have hxf:=nextI_fit hnx
  have hsn:=nextI_lt hp hnx
  have hsn':s<f.n:=by omega
  have hn6:f.n≤600:=hp.size
  have hBi:Bi≤W.heap.size:=by omega
  obtain ⟨_,yy,hyy,_⟩:=nextI_some hnx
  have hdd:x.2.1.toNat<(rightI f x.1).length:=(List.getElem?_eq_some_iff.1 hyy).1
  refine wpIn_range_P (α:=Int) (by omega) (gf:=175) (lb:=#[.pointer (some ⟨K1,0,none⟩),.pointer (some ⟨K2,0,none⟩)]) rfl (enters_of Tryz.func175 (by kernel_rfl) rfl)
    (encs:=fun q=>#[.int .i64 q]) (N:=601 * 64+1) (Ok:=LookP f x) (A0:=(fun q=>q<Bi∨q=K0∨q∈Ds∨q=Y∨q=K1∨q=K2)) (fun _=>rfl)
    (fun W' hb=>looks1_gives (n - 1) (by omega) f a Le R wv Bi Bc Bb G V lv L C S x K1 K2 _ _ _ W' (h.next hb) hv hf hwv (hB.trans (hb.mono hB.size)) hp hfe.e.1 hfe.r.1 (fun q=>first_row_le hn6 hfe.r q)
      ((hb.cell (p:=⟨K1,0,none⟩) (World.block_lt_of_cell? _ _ hk1)).trans hk1) (hk2.next hb) (by simp) (by simp) (hAp.1 K1 (by simp)).2.2.1 (hAp.1 K2 (by simp)).2.2.1 (fun k hk=>.inl hk) hxf hdd ?_ (by have:=hG.clen hp; omega) (fun t ht=>out_look hfe hp ht))
    (RInv f S0 wv w Bi Bc Bb G V K0 Y Ds (fun q=>q<Bi∨q=K0∨q∈Ds∨q=Y∨q=K1∨q=K2) k L C x s) ⟨?_,?_,?_⟩ ?_ ?_ ?_ (fun q a'=>a'={ tmps:=#[.pointer (some ⟨G,0,none⟩),.pointer (some ⟨K0,0,none⟩),t2,t3,t4,.pointer (some ⟨Y,0,none⟩),t6,.int .i64 q,t8,t9,t10,t11,t12,t13,t14,t15,t16,t17,t18,t19,t20,t21,t22,t23,t24,t25,t26,t27,t28,t29,t30,t31,t32,t33,t34,t35,t36,t37,t38,t39,t40,t41,t42,t43,t44,t45,t46,t47,t48,t49,t50,t51,t52,t53,.func (.func 175) #[] #[.pointer (some ⟨K1,0,none⟩),.pointer (some ⟨K2,0,none⟩)],.int .i64 q,t56,t57,t58,t59,t60,t61,t62,t63,t64,t65,t66,t67,t68,t69],defers:=[] }) ?_ ?_ ?_
  · refine Nat.le_trans (outL_len (fun q=>first_row_le hn6 hfe.r q)) ?_
    have h1:(behI f x).length≤64:=by
      unfold behI
      rw [List.length_map,List.length_drop]
      have:=rightI_le hp x.1
      omega
    have:=Nat.mul_le_mul_left 601 h1
    omega
  · rintro A pre W1 W2 ⟨L',S',lv',g1,g2,g3,g4,g5,g6,g7,g8,g9,g10⟩ hb
    refine ⟨L',S',lv',g1.next hb,g2,g3,g4,?_,(hb.cell (p:=⟨K0,0,none⟩) (World.block_lt_of_cell? _ _ g6)).trans g6,(hb.cell (p:=⟨Y,0,none⟩) (World.block_lt_of_cell? _ _ g7)).trans g7,g8.trans (hb.mono g8.size),⟨g9.1,fun d hd=>⟨(g9.2 d hd).1,(hb.block d (g9.lt d hd)).trans (g9.2 d hd).2⟩⟩,g10.trans (hb.mono (by have:=g10.size; have:=g1.lt; have:=g1.o1; have:=g1.o2; have:=g1.o3; omega))⟩
    refine (g5.new g1 hb.size).less (fun k hk=>?_)
    rcases hk with (hk | hk) | hk
    · exact .inl (.inl hk)
    · exact .inr hk
    · exact .inl (.inr hk)
  · rintro A pre W1 k ⟨L',S',lv',g1,g2,g3,g4,g5,_⟩ hk
    exact (g5.1 k (.inl hk)).1
  · rintro A A' pre W1 ⟨L',S',lv',g1,g2,g3,g4,g5,g6⟩ hk
    exact ⟨L',S',lv',g1,g2,g3,g4,g5.less (fun k h=>h.imp (hk k) id),g6⟩
  · rintro A pre W1 ⟨L',S',lv',g1,_⟩
    exact g1.g0
  · rintro A pre W1 W2 ⟨L',S',lv',g1,g2,g3,g4,g5,g6,g7,g8,g9,g10⟩ hb hA
    refine ⟨L',S',lv',g1.apt g5 hb (fun k hk=>.inl (hk ▸ hA)),g2,g3,g4,g5.next hb.size,(hb.cell (p:=⟨K0,0,none⟩) (World.block_lt_of_cell? _ _ g6) (by simp only; omega)).trans g6,(hb.cell (p:=⟨Y,0,none⟩) (World.block_lt_of_cell? _ _ g7) (by simp only; omega)).trans g7,g8.trans (hb.below g8.size (fun k hk=>by have:=hB.size; omega)),⟨g9.1,fun d hd=>⟨(g9.2 d hd).1,hb.same (g9.2 d hd).2 (by have:=hDl d hd; omega)⟩⟩,g10.trans (hb.below (by have:=g10.size; have:=g1.lt; have:=g1.o1; have:=g1.o2; have:=g1.o3; omega) (fun k hk=>by omega))⟩
  · rintro W1 W2 hb hs ⟨g1,hbt⟩
    have hz:=hbt.size
    refine ⟨⟨L,S,lv,g1,hG,List.prefix_refl _,by simp,?_,(hbt.cell (p:=⟨K0,0,none⟩) (by have:=hb.size; simp only; omega) (hAp.1 K0 (by simp)).2.2.1).trans ((hb.cell (p:=⟨K0,0,none⟩) hK0).trans hc0),(hbt.cell (p:=⟨Y,0,none⟩) (by have:=hb.size; simp only; omega) (hAp.1 Y (by simp)).2.2.1).trans ((hb.cell (p:=⟨Y,0,none⟩) hY).trans hcY),(hB.trans (hb.mono hB.size)).trans (hbt.below (by have:=hB.size; have:=hb.size; omega) (fun k hk=>by omega)),⟨hMk.1,fun d hd=>⟨(hMk.2 d hd).1,hbt.same ((hb.block d (hDl d hd)).trans (hMk.2 d hd).2) (hAp.1 d (by simp [hd])).2.2.1⟩⟩,(hBw.trans (hb.mono hBi)).trans (hbt.below (by have:=hb.size; omega) (fun k hk=>by omega))⟩,hbt.block _ (by omega) (by omega),hbt.block _ (by omega) (by omega)⟩
    refine ((hAp.new (W':=W2) h (by omega)).less (fun k hk=>?_))
    rcases hk with (hk | hk | hk) | hk
    · exact .inl hk
    · exact .inr (by omega)
    · exact .inr (by omega)
    · exact .inl hk
  · rintro l q W1 K hK
    have HK:=hK _ rfl
    clear hK
    gi_wp2
    exact HK
  · rintro l A pre q a' W1 ⟨L',S',lv',g1,g2,g3,g4,g5,g6,g7,g8,g9,g10⟩ rfl hOk hlen
    have hq:=look_le hxf hOk
    have hcall:=gbegin_any (fun q=>A q∨(fun q=>q<Bi∨q=K0∨q∈Ds∨q=Y∨q=K1∨q=K2) q) f a Le R wv Bi Bc Bb G V lv' L' (coreS C x) S' s q W1 g1 hv hwv g8 (fun k hk=>.inr (.inl hk)) g5 hsn' (by have:f.terms.length+f.nons.length≤600:=hp.size; unfold i64B; omega) (by have:=hp.prods; omega) hn6 (by have:=g2.len hp; unfold maxI at this; omega) (by have:=g2.slen hp; omega)
    have HC:Hid (Calls Tryz.prog 158 #[.pointer (some ⟨G,0,none⟩),.agg #[.int .i64 s,.int .i64 q]] W1 fun e w'=>Grown (fun q=>A q∨(fun q=>q<Bi∨q=K0∨q∈Ds∨q=Y∨q=K1∨q=K2) q) Bi Bc Bb G V (begL1 f L' S' s q) (coreS C x) (begS S' s q) W1 e w'):=hcall
    have HB:Hid (GI f S0 (begL1 f L' S' s q) C (begS S' s q) k∧((s:Int),q)∈begS S' s q∧L' <+: begL1 f L' S' s q∧∀ y∈S',y∈begS S' s q):=g2.begin hp hCx hnx hOk
    have HF:Hid (∀ W2 lv2,GS Bi Bc Bb G V lv2 (begL1 f L' S' s q) (coreS C x) (begS S' s q) W2→Apt (fun q=>A q∨(fun q=>q<Bi∨q=K0∨q∈Ds∨q=Y∨q=K1∨q=K2) q) Bi Bc Bb G lv2 W2→But (fun k=>¬ (A k∨(fun q=>q<Bi∨q=K0∨q∈Ds∨q=Y∨q=K1∨q=K2) k)) W1 W2→RInv f S0 wv w Bi Bc Bb G V K0 Y Ds (fun q=>q<Bi∨q=K0∨q∈Ds∨q=Y∨q=K1∨q=K2) k L C x s A (pre++[q]) W2∧But (fun k=>¬ A k) W1 W2):=fun W2 lv2 k1 k2 k3=>by
      obtain ⟨b1,b2,b3,b4⟩:=HB.out
      refine ⟨⟨_,_,lv2,k1,b1,g3.trans b3,fun t ht=>?_,k2,(k3.cell (p:=⟨K0,0,none⟩) (World.block_lt_of_cell? _ _ g6) (by simp)).trans g6,(k3.cell (p:=⟨Y,0,none⟩) (World.block_lt_of_cell? _ _ g7) (by simp)).trans g7,g8.trans (k3.below g8.size (fun k hk=>?_)),⟨g9.1,fun d hd=>⟨(g9.2 d hd).1,k3.same (g9.2 d hd).2 (by simp [hd])⟩⟩,g10.trans (k3.below (by have:=g10.size; have:=g1.lt; omega) (fun k hk=>?_))⟩,k3.mono (fun k _ h1 h2=>h1 (.inl h2))⟩
      · rcases List.mem_append.1 ht with ht | ht
        · exact b4 _ (g4 t ht)
        · simp at ht; subst ht; exact b2
      · rcases Nat.lt_or_ge k Bi with h' | h'
        · exact absurd (.inr (.inl h')) hk
        · omega
      · rcases Nat.lt_or_ge k Bi with h' | h'
        · exact absurd (.inr (.inl h')) hk
        · omega
    clear hcall g1 g2 g3 g4 g5 g8 g9 g10 hAp hMk h hG hLk hCx hOk hk1 hk2 hv hf hfe hB hBw HB hQ
    gi_wp2_with fail
    refine ⟨trivial,fun _=>by omega,?_⟩
    refine (CallsIn.inRound l (callsIn_wide.2 HC.out)).mono ?_
    rintro e W2 ⟨rfl,lv2,k1,k2,k3⟩
    gi_wp2
    exact HF.out _ _ k1 k2 k3
  · rintro xs W1 rfl ⟨L',S',lv',g1,g2,g3,g4,g5,g6,g7,g8,g9,g10⟩ hd
    refine hQ _ L' (coreS C x) S' lv' W1 ⟨g1,g2.next hfe hp ((pre_get g3 (List.getElem?_eq_some_iff.1 hLk).1).trans hLk) hnx g4,g5.less (fun q hq=>?_),⟨List.nodup_cons.2 ⟨fun hm=>by have:=hDl _ hm; omega,g9.1⟩,fun d hdm=>?_⟩,g6,g10,Nat.lt_of_lt_of_le (Nat.lt_of_le_of_lt (Nat.zero_le _) (List.getElem?_eq_some_iff.1 hLk).1) g3.length_le⟩
    · rcases hq with hq | hq | hq
      · exact .inr (.inl hq)
      · exact .inr (.inr (.inl hq))
      · rcases List.mem_cons.1 hq with hq | hq
        · exact .inl (.inr (.inl hq))
        · exact .inr (.inr (.inr (.inl hq)))
    · rcases List.mem_cons.1 hdm with rfl | hdm
      · exact ⟨hBi,hd⟩
      · exact g9.2 d hdm
end Go.Proofs.YtbilbgjojdlobaaGreatDoor
namespace Go.Proofs.YtbilbgjojdlobaaGreatDoor
open Go.Shelf Go.RowKit Go.Lib Go.Sort Go.Proofs
shelf_lay_g SlLaysF0.n6 Slsf 6 at Tryz 159 as Tryz.sortLr
shelf_lay_g SlLaysC2.n5 Slgc 5 at Tryz 180 as Tryz.cmpInt
def ordI (x y:Ir):Int:=if x.1≠y.1 then Lib.compareInt x.1 y.1 else if x.2.1≠y.2.1 then Lib.compareInt x.2.1 y.2.1 else Lib.compareInt x.2.2 y.2.2
set_option maxHeartbeats 1000000 in
theorem order_any (x y:Ir) (W:World):Calls Tryz.prog 160 #[valR x,valR y] W fun e w'=>e=.returned (.int .i64 (ordI x y))∧∃ q os',w'=grow (W.drewN q) os':=by
  have hcon:=fun a b W'=>AnyG.cmp_Compare_int Tryz.cmpInt a b W'
  change ∀ a b W',Calls Tryz.prog 180 _ _ _ at hcon
  unfold valR ordI
  by_cases h1:x.1=y.1
  · have h1':(x.1 != y.1)=false:=by simp [h1]
    rw [if_neg (by simp [h1])]
    by_cases h2:x.2.1=y.2.1
    · have h2':(x.2.1 != y.2.1)=false:=by simp [h2]
      rw [if_neg (by simp [h2])]
      have hc:=hcon x.2.2 y.2.2
      clear hcon
      generalize Lib.compareInt x.2.2 y.2.2=r at hc ⊢
      go_enter Tryz.func160,Tryz.ntmps160
      go_wp2_with (go_at_call 180; refine (hc _).mono ?_; rintro e w' ⟨rfl,rfl⟩)
      go_ret
      exact ⟨rfl,0,_,by rw [alloc_eq_grow,alloc_eq_grow,grow_grow]; rfl⟩
    · have h2':(x.2.1 != y.2.1)=true:=by simp [h2]
      rw [if_pos h2]
      have hc:=hcon x.2.1 y.2.1
      clear hcon
      generalize Lib.compareInt x.2.1 y.2.1=r at hc ⊢
      go_enter Tryz.func160,Tryz.ntmps160
      go_wp2_with (go_at_call 180; refine (hc _).mono ?_; rintro e w' ⟨rfl,rfl⟩)
      go_ret
      exact ⟨rfl,0,_,by rw [alloc_eq_grow,alloc_eq_grow,grow_grow]; rfl⟩
  · have h1':(x.1 != y.1)=true:=by simp [h1]
    rw [if_pos h1]
    have hc:=hcon x.1 y.1
    clear hcon
    generalize Lib.compareInt x.1 y.1=r at hc ⊢
    go_enter Tryz.func160,Tryz.ntmps160
    go_wp2_with (go_at_call 180; refine (hc _).mono ?_; rintro e w' ⟨rfl,rfl⟩)
    go_ret
    exact ⟨rfl,0,_,by rw [alloc_eq_grow,alloc_eq_grow,grow_grow]; rfl⟩
theorem ltO (x y:Ir):ltOf ordI x y=decide (ltI x y):=by
  unfold ltOf ordI Lib.compareInt
  rw [Bool.eq_iff_iff,decide_eq_true_eq,decide_eq_true_eq]
  unfold ltI
  by_cases h1:x.1=y.1
  · rw [if_neg (by simp [h1])]
    by_cases h2:x.2.1=y.2.1
    · rw [if_neg (by simp [h2])]
      by_cases h3:x.2.2<y.2.2
      · simp [h3,h1,h2]
      · by_cases h4:y.2.2<x.2.2 <;> simp [h1,h2,h3,h4]
    · rw [if_pos h2]
      by_cases h3:x.2.1<y.2.1
      · simp [h3,h1]
      · by_cases h4:y.2.1<x.2.1 <;> simp [h1,h2,h3,h4]
  · rw [if_pos h1]
    by_cases h3:x.1<y.1
    · simp [h3]
    · by_cases h4:y.1<x.1 <;> simp [h1,h3,h4]
theorem swoO:SWO (ltOf ordI) where
  irrefl x:=by rw [ltO]; simpa using ltI_irrefl x
  trans x y z h1 h2:=by rw [ltO] at *; simp at *; exact ltI_trans h1 h2
  ntrans x y z h1 h2:=by rw [ltO] at *; simp at *; unfold ltI at *; omega
theorem OwnL.holds {B g cap:Nat} {l:List Ir} {W:World} (h:OwnL B l (.slice (some ⟨g,0,none⟩) l.length cap) W):HoldsK encR 3 W g 0 l.toArray:=by
  intro j hj
  have hj2:j<l.length * 3:=by simpa using hj
  refine ⟨?_,World.ownsRow.frozenAt h _⟩
  rw [Nat.zero_add,World.ownsRow.cellAt h j hj2,get_flatK _ _ _ _ (by simpa using hj)]
  have h3:j=j / 3 * 3+j % 3:=by omega
  have h4:j / 3<l.length:=by omega
  conv=>lhs; rw [h3,flatR_get (List.getElem?_eq_getElem h4) (by omega)]
  have h5:j % 3<3:=by omega
  generalize j % 3=c at *
  have e:(l.toArray)[j / 3]! = l[j / 3]:=by simp [getElem!_pos,h4]
  rw [e]
  generalize l[j / 3]=x
  match c,h5 with
  | 0,_=>simp [encR]
  | 1,_=>simp [encR]
  | 2,_=>simp [encR]
theorem sorted_rising {l:List Ir} (hn:l.Nodup) (hs:∀ i j (hi:i<l.length) (hj:j<l.length),i<j→¬ ltI l[j] l[i]):RisingI l:=by
  unfold RisingI
  rw [List.pairwise_iff_getElem]
  intro i j hi hj hij
  have h1:=hs i j hi hj hij
  by_cases h2:ltI l[i] l[j]
  · exact h2
  · exfalso
    have hne:l[i]≠l[j]:=(List.pairwise_iff_getElem.1 hn) i j hi hj hij
    exact h1 (ltI_total h2 hne)
set_option maxHeartbeats 1000000 in
theorem sort_any (B g cap:Nat) (l:List Ir) (w:World) (h:OwnL B l (.slice (some ⟨g,0,none⟩) l.length cap) w) (hn:l.Nodup) (hok:∀ x∈l,okR x) (hcap:l.length≤cap) (hl:l.length≤100000000) :
    Calls Tryz.prog 159 #[.slice (some ⟨g,0,none⟩) l.length cap,.func (.func 160) #[] #[]] w fun e w'=>e=.returned (.tuple #[])∧∃ l',RisingI l'∧l'.Perm l∧SlL l' (.slice (some ⟨g,0,none⟩) l'.length cap) w'∧But (fun k=>k=g) w w':=by
  have hblk:g<w.heap.size:=(World.ownsRow.lt h g rfl).2
  have eg:∀ args w,(callFunc 160 args).run Tryz.prog w=.ok (.enter 160 args) w:=enters_of Tryz.func160 (by kernel_rfl) rfl
  have hH:=OwnL.holds h
  have hcon:=AnyQ.slices_SortFunc Tryz.sortLr 3 Tryz.isAgg77 Tryz.sizeOf77 encR (fun _=>rfl) (fun x v hv=>by simp [encR] at hv; rcases hv with rfl | rfl | rfl <;> rfl) ordI swoO 160 #[] g 0 cap l.toArray w eg (fun _ _ _ _ x y=>order_any x y _) hH hblk (by simp; omega)
  change Calls Tryz.prog 159 _ _ _ at hcon
  have e0:l.toArray.size=l.length:=by simp
  rw [e0] at hcon
  refine hcon.mono ?_
  rintro e w' ⟨rfl,d',n,os,⟨hs,_,hp⟩,hso,rfl⟩
  have hH':=holdsK_sortWorldK encR 3 w g 0 n l.toArray d' os hblk hH hs
  have hs':d'.size=l.length:=by simpa using hs
  have hperm:d'.toList.Perm l:=by
    have h1:d'.extract 0 l.toArray.size=d':=by rw [← hs]; simp
    have h2:l.toArray.extract 0 l.toArray.size=l.toArray:=by simp
    first
      | (rw [h1,h2] at hp; simpa using hp)
      | (rw [e0] at h1 h2; rw [h1,h2] at hp; simpa using hp)
  refine ⟨rfl,d'.toList,?_,hperm,?_,?_⟩
  · refine sorted_rising (hperm.nodup_iff.2 hn) (fun i j hi hj hij=>?_)
    have:=hso i j (Nat.zero_le _) hij (by simpa [hs'] using hj)
    rw [ltO] at this
    simp at hi hj
    simp [getElem!_pos,hi,hj] at this ⊢
    exact this
  · have hlt:g<(sortWorldK encR 3 w g 0 n d' os).heap.size:=lt_sortWorldK encR 3 w g 0 n d' os hblk
    refine ⟨_,cap,rfl,fun i m hm=>⟨g,0,rfl,hlt,?_⟩,(fun h=>by cases h),by simpa [hs'] using hcap⟩
    obtain ⟨hi,rfl⟩:=List.getElem?_eq_some_iff.1 hm
    have hi':i<d'.size:=by simpa using hi
    have h0:=(hH'.cell (i:=i) (c:=0) hi' (by omega)).1
    have h1:=(hH'.cell (i:=i) (c:=1) hi' (by omega)).1
    have h2:=(hH'.cell (i:=i) (c:=2) hi' (by omega)).1
    simp [encR,getElem!_pos,hi'] at h0 h1 h2
    have hk:=hok _ (hperm.mem_iff.1 (List.getElem_mem hi))
    simp at hk
    simpa using ⟨h0,h1,h2,hk⟩
  · refine ⟨rfl,rfl,rfl,size_sortWorldK_c ..,fun k hk hd=>?_⟩
    show ((w.heap.modify g _)++os)[k]?=w.heap[k]?
    rw [Array.getElem?_append_left (by simp; omega),Array.getElem?_modify,if_neg (fun e=>hd e.symm)]
end Go.Proofs.YtbilbgjojdlobaaGreatDoor
