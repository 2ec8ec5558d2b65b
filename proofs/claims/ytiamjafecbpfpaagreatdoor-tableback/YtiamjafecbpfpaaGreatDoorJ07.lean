import Derived.Test.YtiamjafecbpfpaaGreatDoorJ01
import Derived.Test.YtiamjafecbpfpaaGreatDoorJ02
import Derived.Test.YtiamjafecbpfpaaGreatDoorJ03
import Derived.Test.YtiamjafecbpfpaaGreatDoorJ06
import Derived.Deep.RegionHeld3
import Derived.Deep.LoopGhost
import Derived.Deep.Cut
import Derived.Deep.CutRange

namespace Go.Proofs.YtiamjafecbpfpaaGreatDoor
open Go.RowKit
structure VAt (f:Fl) (a:FlA) (V E G:Nat) (W:World):Prop where
  c0:W.cell? ⟨V,0,none⟩=some (.slice a.ta f.terms.length a.tc)
  c1:W.cell? ⟨V,1,none⟩=some (.slice a.na f.nons.length a.nc)
  c2:W.cell? ⟨V,2,none⟩=some (.slice a.pa f.prods.length a.pc)
  c3:W.cell? ⟨V,3,none⟩=some (.slice (some ⟨E,0,none⟩) f.n f.n)
  c4:W.cell? ⟨V,4,none⟩=some (.slice (some ⟨G,0,none⟩) f.n f.n)
theorem VAt.lt {f a V E G W} (h:VAt f a V E G W):V<W.heap.size:=World.block_lt_of_cell? W _ h.c0
theorem VAt.but {f a V E G W W'} {D:Nat→Prop} (h:VAt f a V E G W) (hb:But D W W') (hd:¬ D V):VAt f a V E G W':=by
  have e:∀ {o v},W.cell? ⟨V,o,none⟩=some v→W'.cell? ⟨V,o,none⟩=some v:=fun {o v} hv=>(hb.cell (p:=⟨V,o,none⟩) h.lt hd).trans hv
  exact ⟨e h.c0,e h.c1,e h.c2,e h.c3,e h.c4⟩
theorem SetsB.lt {G m bs R W} (h:SetsB G m bs R W):G<W.heap.size:=(Array.getElem?_eq_some_iff.1 h.row).1
theorem SetsB.cell {G m bs R W} (h:SetsB G m bs R W) {s:Nat} (hs:s<R.length):W.cell? ⟨G,s,none⟩=some (.slice (some ⟨bs.getD s 0,0,none⟩) m m):=by
  have hl:s<bs.length:=by rw [h.len]; exact hs
  refine block_cell h.row ?_
  rw [List.getElem?_map,List.getElem?_eq_getElem hl,List.getD_eq_getElem?_getD,List.getElem?_eq_getElem hl]
  rfl
theorem SetsB.mem {G m bs R W} (h:SetsB G m bs R W) {s:Nat} (hs:s<R.length):bs.getD s 0∈bs:=by
  have hl:s<bs.length:=by rw [h.len]; exact hs
  rw [List.getD_eq_getElem?_getD,List.getElem?_eq_getElem hl]
  exact List.getElem_mem hl
theorem SetsB.inj {G m bs R W} (h:SetsB G m bs R W) {s t:Nat} (hs:s<R.length) (ht:t<R.length) (e:bs.getD s 0=bs.getD t 0):s=t:=by
  have hl:s<bs.length:=by rw [h.len]; exact hs
  have hl2:t<bs.length:=by rw [h.len]; exact ht
  rw [List.getD_eq_getElem?_getD,List.getElem?_eq_getElem hl,List.getD_eq_getElem?_getD,List.getElem?_eq_getElem hl2] at e
  exact (List.getElem_inj h.nodup).1 e
theorem SetsB.but {G m bs R W W'} {D:Nat→Prop} (h:SetsB G m bs R W) (hb:But D W W') (hG:¬ D G) (hd:∀ b∈bs,¬ D b):SetsB G m bs R W' :=
  ⟨(hb.block G h.lt hG).trans h.row,h.len,h.nodup,h.out,fun s hs=>(h.each s hs).but hb (hd _ (h.mem hs))⟩
theorem SetsB.turn {G m bs R W W' l A} (h:SetsB G m bs R W) (hl:l<R.length) (hb:But (fun k=>k=bs.getD l 0) W W') (hA:SetB (bs.getD l 0) m A W'):SetsB G m bs (R.set l A) W':=by
  refine ⟨(hb.block G h.lt (fun e=>h.out (by rw [e]; exact h.mem hl))).trans h.row,by rw [List.length_set]; exact h.len,h.nodup,h.out,fun s hs=>?_⟩
  rw [List.length_set] at hs
  rw [WR_set hl]
  split
  · rename_i e; subst e; exact hA
  · rename_i e; exact (h.each s hs).but hb (fun e'=>e (h.inj hs hl e').symm)
set_option maxRecDepth 100000 in
set_option maxHeartbeats 1000000 in
theorem begin_any (f:Fl) (a:FlA) (V E G m c:Nat) (bs:List Nat) (R:List (List Nat)) (L:List Bool) (A0:List Nat) (l:List It) (vl:Value) (w:World) (hn:f.n≤600) (hm:m≤20)
    (hV:VAt f a V E G w) (hE:RowK E f.n L w) (hS:SetsB G m bs R w) (hR:WOk m f.n R) (hA:SetB c m A0 w) (hl:SlT l vl w) (_hll:l.length≤1000)
    (hcV:c≠V) (hcE:c≠E) (hcG:c≠G) (hcl:∀ (b:Nat) (ao:Addr),vl=.slice (some ao) l.length b→l≠[]→ao.block≠c) (hown:∀ s,s<f.n→bs.getD s 0=c→WR R s=A0) :
    Calls Tryz.prog 100 #[.pointer (some ⟨V,0,none⟩),.slice (some ⟨c,0,none⟩) m m,vl] w fun e w'=>e=.returned (.tuple #[.bool (begW (WR R) (onb L) A0 (symsN f.n l)).2.1,.bool (begW (WR R) (onb L) A0 (symsN f.n l)).2.2])∧SetB c m (begW (WR R) (onb L) A0 (symsN f.n l)).1 w'∧But (fun k=>k=c) w w':=by
  obtain ⟨la,lc,rfl,hI,_⟩:=hl
  have hJ:=fun W x=>isSymbol_any f a x W hn
  obtain ⟨ta,tc,na,nc,pa,pc⟩:=a
  unfold FlA.val at hJ
  simp only at *
  have HJ:Hid (∀ W x,Calls Tryz.prog 112 #[.agg #[Value.slice ta f.terms.length tc,Value.slice na f.nons.length nc,Value.slice pa f.prods.length pc],.int .i64 x] W fun e w'=>e=.returned (.bool (decide (0≤x∧x<(f.n:Int))))∧Below W.heap.size W w'):=hJ
  clear hJ
  have hRl:R.length=f.n:=hR.len
  -- what lies in every world that has turned in block c alone
  have HV:Hid (∀ W,But (fun k=>k=c) w W→VAt f ⟨ta,tc,na,nc,pa,pc⟩ V E G W):=fun W hb=>hV.but hb (fun e=>hcV e.symm)
  have HE:Hid (∀ W,But (fun k=>k=c) w W→RowK E f.n L W):=fun W hb=>hE.but hb (fun e=>hcE e.symm)
  have HG:Hid (∀ W,But (fun k=>k=c) w W→∀ s,s<f.n→W.cell? ⟨G,s,none⟩=some (.slice (some ⟨bs.getD s 0,0,none⟩) m m)):=fun W hb s hs=>(hb.cell (p:=⟨G,s,none⟩) hS.lt (fun e=>hcG e.symm)).trans (hS.cell (by rw [hRl]; exact hs))
  have HO:Hid (∀ W,But (fun k=>k=c) w W→∀ s,s<f.n→bs.getD s 0≠c→SetB (bs.getD s 0) m (WR R s) W):=fun W hb s hs hne=>(hS.each s (by rw [hRl]; exact hs)).but hb hne
  have HI:Hid (∀ W,But (fun k=>k=c) w W→ItsAt l la W):=fun W hb i r hr=>by
    obtain ⟨b,off,e0,e1,e2,e3,e4,e5⟩:=hI i r hr
    subst e0
    have hne:b≠c:=hcl lc ⟨b,off,none⟩ rfl (fun e=>by rw [e] at hr; simp at hr)
    exact ⟨b,off,rfl,Nat.lt_of_lt_of_le e1 hb.size,(hb.cell (p:=⟨b,off+i * 3,none⟩) e1 hne).trans e2,(hb.cell (p:=⟨b,off+i * 3+1,none⟩) e1 hne).trans e3,(hb.cell (p:=⟨b,off+i * 3+2,none⟩) e1 hne).trans e4,e5⟩
  have HOW:Hid (∀ s,s<f.n→bs.getD s 0=c→WR R s=A0):=hown
  have HWD:Hid (∀ s,s<f.n→Words m (WR R s)):=hR.words
  clear hV hE hS hI hown hcl hR hcV hcE hcG
  obtain ⟨RES,hRES⟩:∃ RES,begW (WR R) (onb L) A0 (symsN f.n l)=RES:=⟨_,rfl⟩
  rw [hRES]
  have HRES:Hid (begW (WR R) (onb L) A0 (symsN f.n l)=RES):=hRES
  clear hRES
  have HA0:Hid (SetB c m A0 w):=hA
  clear hA
  go_enter Tryz.func100,Tryz.ntmps100
  go_wp2_with fail
  go_loopw [6,12] (fun g i wr=>∃ (j:Nat) (A:List Nat) (gb:Bool),i=.int .i64 j∧j≤l.length∧g=.bool gb∧SetB c m A wr∧But (fun k=>k=c) w wr∧(∀ t,t∈listW A0→t∈listW A)∧RES=((begW (WR R) (onb L) A (symsN f.n (l.drop j))).1,gb || (begW (WR R) (onb L) A (symsN f.n (l.drop j))).2.1,(begW (WR R) (onb L) A (symsN f.n (l.drop j))).2.2)) (fun _ i _=>l.length - (intOf i).toNat)
  case atStart=>exact ⟨0,A0,false,rfl,Nat.zero_le _,rfl,HA0.out,But.refl _ _,fun _ h=>h,by rw [List.drop_zero,HRES.out]; simp⟩
  case round =>
  clear HA0 HRES
  obtain ⟨j,A,gb,rfl,hj,rfl,hA,hB,hsub,hres⟩:=hrel
  by_cases hlt:j<l.length
  · obtain ⟨bi,oi,rfl,hbi,i0,i1,i2,si,sf,sa⟩:=(HI.out _ hB).at (Below.refl _ _) hlt
    rw [List.drop_eq_getElem_cons hlt] at hres
    generalize l[j]=it at *
    obtain ⟨x,xf,xa⟩:=it
    simp only at i0 i1 i2 si sf sa
    have hcz:c<wr.heap.size:=hA.lt
    have hVz:=(HV.out _ hB).lt
    obtain ⟨Wp,hWp⟩:∃ Wp,wr.alloc (Obj.cells #[Value.int .i64 x,.string xf,.string xa] 44)=Wp:=⟨_,rfl⟩
    have hbp:Below wr.heap.size wr Wp:=by rw [← hWp]; exact (Below.refl _ _).alloc (Nat.le_refl _) _
    have hz:Wp.cell? ⟨wr.heap.size,0,none⟩=some (.int .i64 x):=by rw [← hWp]; simp
    have hBp:But (fun k=>k=c) w Wp:=hB.trans (But.of_next hbp)
    have HAp:Hid (SetB c m A Wp):=hA.but (D:=fun _=>False) (But.of_next hbp) (fun h=>h)
    have hzz:wr.heap.size<Wp.heap.size:=World.block_lt_of_cell? Wp _ hz
    have HRE:Hid (RES=((begW (WR R) (onb L) A (symsN f.n (⟨x,xf,xa⟩ :: l.drop (j+1)))).1,gb || (begW (WR R) (onb L) A (symsN f.n (⟨x,xf,xa⟩ :: l.drop (j+1)))).2.1,(begW (WR R) (onb L) A (symsN f.n (⟨x,xf,xa⟩ :: l.drop (j+1)))).2.2)):=hres
    have HSU:Hid (∀ t,t∈listW A0→t∈listW A):=hsub
    clear hres hsub hA hB hbp
    go_upto_region 4 with fail
    try rw [hWp]
    clear hWp i0 i1 i2
    obtain ⟨Z,hZ⟩:∃ Z,wr.heap.size=Z:=⟨_,rfl⟩
    rw [hZ] at hz hzz hcz hVz ⊢
    clear hZ
    obtain ⟨v0,v1,v2,v3,v4⟩:=HV.out _ hBp
    simp only at v0 v1 v2 v3 v4
    have HS0:Hid ((fun W=>W.cell? ⟨V,0,none⟩=some (.slice ta f.terms.length tc)∧W.cell? ⟨V,1,none⟩=some (.slice na f.nons.length nc)∧W.cell? ⟨V,2,none⟩=some (.slice pa f.prods.length pc)∧W.cell? ⟨Z,0,none⟩=some (.int .i64 x)∧Below Wp.heap.size Wp W) Wp.drew):=⟨v0,v1,v2,hz,(Below.refl _ _).drew⟩
    have hstep:∀ W W',(fun W=>W.cell? ⟨V,0,none⟩=some (.slice ta f.terms.length tc)∧W.cell? ⟨V,1,none⟩=some (.slice na f.nons.length nc)∧W.cell? ⟨V,2,none⟩=some (.slice pa f.prods.length pc)∧W.cell? ⟨Z,0,none⟩=some (.int .i64 x)∧Below Wp.heap.size Wp W) W→Below W.heap.size W W'→(fun W=>W.cell? ⟨V,0,none⟩=some (.slice ta f.terms.length tc)∧W.cell? ⟨V,1,none⟩=some (.slice na f.nons.length nc)∧W.cell? ⟨V,2,none⟩=some (.slice pa f.prods.length pc)∧W.cell? ⟨Z,0,none⟩=some (.int .i64 x)∧Below Wp.heap.size Wp W) W':=by
      rintro W W' ⟨y0,y1,y2,y3,y4⟩ hb'
      have hsz:=y4.size
      exact ⟨(hb'.cell (p:=⟨V,0,none⟩) (by show V<_; omega)).trans y0,(hb'.cell (p:=⟨V,1,none⟩) (by show V<_; omega)).trans y1,(hb'.cell (p:=⟨V,2,none⟩) (by show V<_; omega)).trans y2,(hb'.cell (p:=⟨Z,0,none⟩) (by show Z<_; omega)).trans y3,below_then y4 hb' hsz⟩
    have cJ:∀ W,(fun W=>W.cell? ⟨V,0,none⟩=some (.slice ta f.terms.length tc)∧W.cell? ⟨V,1,none⟩=some (.slice na f.nons.length nc)∧W.cell? ⟨V,2,none⟩=some (.slice pa f.prods.length pc)∧W.cell? ⟨Z,0,none⟩=some (.int .i64 x)∧Below Wp.heap.size Wp W) W→Calls Tryz.prog 112 #[.agg #[Value.slice ta f.terms.length tc,Value.slice na f.nons.length nc,Value.slice pa f.prods.length pc],.int .i64 x] W fun e w'=>e=.returned (.bool (decide (0≤x∧x<(f.n:Int))))∧(fun W=>W.cell? ⟨V,0,none⟩=some (.slice ta f.terms.length tc)∧W.cell? ⟨V,1,none⟩=some (.slice na f.nons.length nc)∧W.cell? ⟨V,2,none⟩=some (.slice pa f.prods.length pc)∧W.cell? ⟨Z,0,none⟩=some (.int .i64 x)∧Below Wp.heap.size Wp W) w':=by
      intro W hS
      refine (HJ.out W x).mono ?_
      rintro e w' ⟨rfl,h2⟩
      exact ⟨rfl,hstep _ _ hS h2⟩
    clear hstep HJ
    by_cases hx:0≤x∧x<(f.n:Int)
    · rw [show decide (0≤x∧x<(f.n:Int))=true from decide_eq_true hx] at cJ
      go_region_held3 (fun W=>W.cell? ⟨V,0,none⟩=some (.slice ta f.terms.length tc)∧W.cell? ⟨V,1,none⟩=some (.slice na f.nons.length nc)∧W.cell? ⟨V,2,none⟩=some (.slice pa f.prods.length pc)∧W.cell? ⟨Z,0,none⟩=some (.int .i64 x)∧Below Wp.heap.size Wp W) (first | exact HS0.out | assumption) (first
        | (go_at_call 112; refine (cJ _ (by assumption)).mono ?_; rintro e w' ⟨rfl,hS⟩))
      all_goals
        obtain ⟨q,rfl⟩:∃ q:Nat,x=q:=⟨x.toNat,by omega⟩
        have hqn:q<f.n:=by omega
        have hbS:=hS.2.2.2.2
        have hzS:=hbS.size
        have B4:But (fun k=>k=c) w w':=hBp.trans (But.of_next hbS)
        have A4:SetB c m A w':=HAp.out.but (D:=fun _=>False) (But.of_next hbS) (fun h=>h)
        have Z4:=hS.2.2.2.1
        obtain ⟨bq,hbq⟩:∃ bq,bs.getD q 0=bq:=⟨_,rfl⟩
        have G4:=HG.out _ B4 q hqn
        rw [hbq] at G4
        have V4:=(HV.out _ B4).c4
        have hwA:=A4.2
        have hwq:=HWD.out q hqn
        have HRQ:Hid (symsN f.n (⟨(q:Int),xf,xa⟩ :: l.drop (j+1))=q :: symsN f.n (l.drop (j+1))):=by
          show _=_
          rw [symsN_cons_yes (by simp only; omega)]; rfl
        have HJN:Hid (Calls Tryz.prog 118 #[.slice (some ⟨c,0,none⟩) m m,.slice (some ⟨bq,0,none⟩) m m] w'.drew fun e w2=>e=.returned (.bool (newW A (WR R q)))∧Hid (SetB c m (orW A (WR R q)) w2∧But (fun k=>k=c) w'.drew w2)∧(fun W=>W.cell? ⟨V,4,none⟩=some (.slice (some ⟨G,0,none⟩) f.n f.n)∧W.cell? ⟨Z,0,none⟩=some (.int .i64 q)∧W.cell? ⟨G,q,none⟩=some (.slice (some ⟨bq,0,none⟩) m m)) w2):=by
          have key:∀ O,SetB bq m O w'→newW A O=newW A (WR R q)→orW A O=orW A (WR R q)→Calls Tryz.prog 118 #[.slice (some ⟨c,0,none⟩) m m,.slice (some ⟨bq,0,none⟩) m m] w'.drew fun e w2=>e=.returned (.bool (newW A (WR R q)))∧Hid (SetB c m (orW A (WR R q)) w2∧But (fun k=>k=c) w'.drew w2)∧(fun W=>W.cell? ⟨V,4,none⟩=some (.slice (some ⟨G,0,none⟩) f.n f.n)∧W.cell? ⟨Z,0,none⟩=some (.int .i64 q)∧W.cell? ⟨G,q,none⟩=some (.slice (some ⟨bq,0,none⟩) m m)) w2:=by
            intro O hO e1 e2
            refine (join_any A O c bq m w'.drew ⟨A4.1,A4.2⟩ ⟨hO.1,hO.2⟩ (by omega)).mono ?_
            rintro e w2 ⟨rfl,h1,h2⟩
            have hb2:But (fun k=>k=c) w w2:=(B4.drew).trans h2
            rw [e1]
            rw [e2] at h1
            refine ⟨rfl,⟨h1,h2⟩,(HV.out _ hb2).c4,(h2.cell (p:=⟨Z,0,none⟩) (by show Z<w'.heap.size; omega) (by show Z≠c; omega)).trans Z4,?_⟩
            have:=HG.out _ hb2 q hqn
            rw [hbq] at this
            exact this
          by_cases hbc:bq=c
          · have hA0:=HOW.out q hqn (hbq.trans hbc)
            have k1:=within_orW hwA hwq (by rw [hA0]; exact HSU.out)
            have k2:=within_orW hwA hwA (fun _ h=>h)
            rw [hbc] at key ⊢
            exact key A A4 (k2.1.trans k1.1.symm) (k2.2.trans k1.2.symm)
          · have:=HO.out _ B4 q hqn (by rw [hbq]; exact hbc)
            rw [hbq] at this
            exact key (WR R q) this rfl rfl
        have HAW:Hid (Words m (orW A (WR R q))):=hwA.or hwq
        have HSU2:Hid (∀ t,t∈listW A0→t∈listW (orW A (WR R q))):=fun t ht=>by rw [listW_or hwA hwq,mem_unionL]; exact .inl (HSU.out t ht)
        have HS5:Hid ((fun W=>W.cell? ⟨V,4,none⟩=some (.slice (some ⟨G,0,none⟩) f.n f.n)∧W.cell? ⟨Z,0,none⟩=some (.int .i64 q)∧W.cell? ⟨G,q,none⟩=some (.slice (some ⟨bq,0,none⟩) m m)) w'.drew):=⟨V4,Z4,G4⟩
        have HB4:Hid (But (fun k=>k=c) w w'):=B4
        have HZ4:Hid (Z<w'.heap.size∧Z≠c):=⟨by omega,by omega⟩
        rw [HRQ.out] at HRE
        have HRB:Hid (begW (WR R) (onb L) A (q :: symsN f.n (l.drop (j+1)))=if onb L q then ((begW (WR R) (onb L) (orW A (WR R q)) (symsN f.n (l.drop (j+1)))).1,newW A (WR R q) || (begW (WR R) (onb L) (orW A (WR R q)) (symsN f.n (l.drop (j+1)))).2.1,(begW (WR R) (onb L) (orW A (WR R q)) (symsN f.n (l.drop (j+1)))).2.2) else (orW A (WR R q),newW A (WR R q),false)):=by show _=_; rw [begW]
        clear hwA hwq hbq V4 Z4 G4 A4 HAp hS hbS HSU HRQ HS0 hz v0 v1 v2 v3 v4 cJ hBp
        generalize newW A (WR R q)=nb at *
        generalize orW A (WR R q)=A2 at *
        cases nb with
        | true =>
          go_wp2_with fail
          refine wp_region_L (fun W=>W.cell? ⟨V,4,none⟩=some (.slice (some ⟨G,0,none⟩) f.n f.n)∧W.cell? ⟨Z,0,none⟩=some (.int .i64 q)∧W.cell? ⟨G,q,none⟩=some (.slice (some ⟨bq,0,none⟩) m m)) 14 (by kernel_rfl) 14 rfl ?_
          refine lk ⟨some 24,.move (.tmp 1),176, "view.go:50",#[],none⟩ HS5.out ?_;simp only [Act.put,sA,s0,sS]
          refine lk ⟨some 25,.move (.tmp 0),156, "view.go:50",#[],none⟩ HS5.out ?_;simp only [Act.put,sA,s0,sS]
          refine lk ⟨some 26,.nilCheck (.tmp 25),0, "view.go:50",#[⟨1,.data⟩],none⟩ HS5.out ?_;simp only [Act.put,sA,s0,sS]
          refine lk ⟨some 27,.fieldAddr 155 (.tmp 26) 2,0, "view.go:50",#[⟨2,.data⟩],none⟩ HS5.out ?_;simp only [Act.put,sA,s0,sS]
          refine lk ⟨some 28,.load 153 (.tmp 27),153, "view.go:50",#[⟨3,.data⟩],none⟩ HS5.out ?_;simp only [Act.put,sA,s0,sS]
          refine lk ⟨some 29,.fieldAddr 44 (.tmp 9) 0,0, "view.go:50",#[],none⟩ HS5.out ?_;simp only [Act.put,sA,s0,sS]
          refine lk ⟨some 30,.load 3 (.tmp 29),3, "view.go:50",#[⟨5,.data⟩],none⟩ HS5.out ?_;simp only [Act.put,sA,s0,sS]
          refine lk ⟨some 31,.indexAddr 153 (.tmp 28) (.tmp 30),0, "view.go:50",#[⟨4,.data⟩,⟨6,.data⟩],none⟩ HS5.out ?_;simp only [Act.put,sA,s0,sS]
          refine lk ⟨some 32,.load 176 (.tmp 31),176, "view.go:50",#[⟨7,.data⟩],none⟩ HS5.out ?_;simp only [Act.put,sA,s0,sS]
          refine wpL_one (o:=⟨some 33,.call ⟨.value (.func 118),#[.tmp 24,.tmp 32],#[176,176]⟩,4, "view.go:50",#[⟨0,.data⟩,⟨8,.data⟩],none⟩) (by decide) (by kernel_rfl) rfl (fun K hK=>?_)
          go_simp
          refine HJN.out.mono ?_
          rintro e w2 ⟨rfl,hF,hS2⟩
          refine hK.out _ _ (fun _=>hS2) ?_
          clear hK
          refine lk ⟨some 34,.move (.tmp 33),4, "view.go:50",#[⟨9,.data⟩,⟨9,.chain⟩],none⟩ hS2 ?_;simp only [Act.put,sA,s0,sS]
          refine lu ⟨some 35,.move (.tmp 6),4, "view.go:50",#[⟨10,.guard⟩],some (10,false)⟩ hS2 ?_;simp only [Act.put,sA,s0,sS]
          refine lk ⟨some 36,.pick (.tmp 34) (.const (.bool true)) (.tmp 35),4, "view.go:50",#[⟨10,.data⟩,⟨11,.data⟩],none⟩ hS2 ?_;simp only [Act.put,sA,s0,sS]
          refine lk ⟨some 6,.assign (.tmp 36),4, "view.go:50",#[⟨12,.data⟩,⟨10,.chain⟩,⟨0,.phase⟩,⟨1,.phase⟩,⟨2,.phase⟩,⟨3,.phase⟩,⟨4,.phase⟩,⟨5,.phase⟩,⟨6,.phase⟩,⟨7,.phase⟩,⟨8,.phase⟩,⟨9,.phase⟩,⟨10,.phase⟩,⟨11,.phase⟩,⟨12,.phase⟩],none⟩ hS2 ?_;simp only [Act.put,sA,s0,sS]
          refine wpAnyL_done (by kernel_rfl) ?_ _
          all_goals
            have hb2:But (fun k=>k=c) w w2:=(HB4.out.drew).trans hF.out.2
            have hA2:=hF.out.1
            have V2:=(HV.out _ hb2).c3
            have E2:=(HE.out _ hb2).cell hqn
            have Z2:=hS2.2.1
            have HFF:Hid (SetB c m A2 w2∧But (fun k=>k=c) w w2):=⟨hA2,hb2⟩
            clear hS2 hF hb2 hA2 HJN HS5
            cases ho:onb L q with
            | true =>
              rw [ho] at E2 HRB
              have HRE2:Hid (RES=((begW (WR R) (onb L) A2 (symsN f.n (l.drop (j+1)))).1,true || (begW (WR R) (onb L) A2 (symsN f.n (l.drop (j+1)))).2.1,(begW (WR R) (onb L) A2 (symsN f.n (l.drop (j+1)))).2.2)):=by
                have:=HRE.out
                rw [HRB.out,if_pos rfl] at this
                show _=_
                rw [this]
                simp
              clear HRE HRB
              go_wp2_with fail
              go_big_quiet (fail)
              go_wp2_with fail
              exact ⟨⟨j+1,A2,true,by go_num,by omega,rfl,HFF.out.1,HFF.out.2.drewN _,HSU2.out,HRE2.out⟩,by simp [intOf]; omega⟩
            | false =>
              rw [ho] at E2 HRB
              have HRE2:Hid (RES=(A2,true,false)):=by
                have:=HRE.out
                rw [HRB.out,if_neg (by simp)] at this
                show _=_
                rw [this]
                simp
              clear HRE HRB
              go_wp2_with fail
              go_big_quiet (fail)
              go_wp2_with fail
              refine bodyPost_ret (v:=.tuple #[.bool true,.bool false]) (by simp [results,Tryz.f100,go_sem]) rfl ?_
              rw [HRE2.out]
              exact ⟨rfl,HFF.out.1,HFF.out.2.drewN _⟩
        | false =>
          go_wp2_with fail
          go_region_held3 (fun W=>W.cell? ⟨V,4,none⟩=some (.slice (some ⟨G,0,none⟩) f.n f.n)∧W.cell? ⟨Z,0,none⟩=some (.int .i64 q)∧W.cell? ⟨G,q,none⟩=some (.slice (some ⟨bq,0,none⟩) m m)) (first | exact HS5.out | assumption) (first
            | (go_at_call 118; refine HJN.out.mono ?_; rintro e w2 ⟨rfl,hF,hS2⟩))
          all_goals
            have hb2:But (fun k=>k=c) w w2:=(HB4.out.drew).trans hF.out.2
            have hA2:=hF.out.1
            have V2:=(HV.out _ hb2).c3
            have E2:=(HE.out _ hb2).cell hqn
            have Z2:=hS2.2.1
            have HFF:Hid (SetB c m A2 w2∧But (fun k=>k=c) w w2):=⟨hA2,hb2⟩
            clear hS2 hF hb2 hA2 HJN HS5
            cases ho:onb L q with
            | true =>
              rw [ho] at E2 HRB
              have HRE2:Hid (RES=((begW (WR R) (onb L) A2 (symsN f.n (l.drop (j+1)))).1,gb || (begW (WR R) (onb L) A2 (symsN f.n (l.drop (j+1)))).2.1,(begW (WR R) (onb L) A2 (symsN f.n (l.drop (j+1)))).2.2)):=by
                have:=HRE.out
                rw [HRB.out,if_pos rfl] at this
                show _=_
                rw [this]
                simp
              clear HRE HRB
              go_wp2_with fail
              go_big_quiet (fail)
              go_wp2_with fail
              exact ⟨⟨j+1,A2,gb,by go_num,by omega,rfl,HFF.out.1,HFF.out.2.drewN _,HSU2.out,HRE2.out⟩,by simp [intOf]; omega⟩
            | false =>
              rw [ho] at E2 HRB
              have HRE2:Hid (RES=(A2,gb,false)):=by
                have:=HRE.out
                rw [HRB.out,if_neg (by simp)] at this
                show _=_
                rw [this]
                simp
              clear HRE HRB
              go_wp2_with fail
              go_big_quiet (fail)
              go_wp2_with fail
              refine bodyPost_ret (v:=.tuple #[.bool gb,.bool false]) (by simp [results,Tryz.f100,go_sem]) rfl ?_
              rw [HRE2.out]
              exact ⟨rfl,HFF.out.1,HFF.out.2.drewN _⟩
    · rw [show decide (0≤x∧x<(f.n:Int))=false from decide_eq_false hx] at cJ
      go_region_held3 (fun W=>W.cell? ⟨V,0,none⟩=some (.slice ta f.terms.length tc)∧W.cell? ⟨V,1,none⟩=some (.slice na f.nons.length nc)∧W.cell? ⟨V,2,none⟩=some (.slice pa f.prods.length pc)∧W.cell? ⟨Z,0,none⟩=some (.int .i64 x)∧Below Wp.heap.size Wp W) (first | exact HS0.out | assumption) (first
        | (go_at_call 112; refine (cJ _ (by assumption)).mono ?_; rintro e w' ⟨rfl,hS⟩))
      all_goals
        have HF:Hid (SetB c m A w'∧But (fun k=>k=c) w w'):=⟨HAp.out.but (D:=fun _=>False) (But.of_next hS.2.2.2.2) (fun h=>h),hBp.trans (But.of_next hS.2.2.2.2)⟩
        rw [symsN_cons_no (by simp only; omega)] at HRE
        clear hS HS0 hz v0 v1 v2 v3 v4 cJ hBp
        go_wp2_with fail
        exact ⟨⟨j+1,A,gb,by go_num,by omega,rfl,HF.out.1,HF.out.2,HSU.out,HRE.out⟩,by simp [intOf]; omega⟩
  · obtain rfl:j=l.length:=by omega
    rw [List.drop_length] at hres
    have HRE:Hid (RES=(A,gb,true)):=by
      show _=_
      rw [hres]
      simp [symsN,begW]
    clear hres
    go_wp2_with fail
    refine bodyPost_ret (v:=.tuple #[.bool gb,.bool true]) (by simp [results,Tryz.f100,go_sem]) rfl ?_
    rw [HRE.out]
    exact ⟨rfl,hA,hB⟩
theorem SlT.next' {l:List It} {v:Value} {W W':World} (h:SlT l v W) (hb:But (fun _=>False) W W'):SlT l v W' :=
  h.next ⟨hb.os,hb.tape,hb.output,hb.size,fun k hk=>hb.block k hk (fun h=>h)⟩
set_option maxRecDepth 100000 in
set_option maxHeartbeats 1000000 in
theorem viewOf1_any (f:Fl) (a:FlA) (V E G m KB l:Nat) (bs:List Nat) (R:List (List Nat)) (L:List Bool) (r:List It) (vr:Value) (w:World) (hn:f.n≤600) (hm:m≤20)
    (hK:w.cell? ⟨KB,0,none⟩=some (.pointer (some ⟨V,0,none⟩))) (hV:VAt f a V E G w) (hE:RowK E f.n L w) (hS:SetsB G m bs R w) (hR:WOk m f.n R) (hl:l<f.n) (hv:SlT r vr w) (hr:r.length≤64)
    (hKb:KB ∉ bs) (hVb:V ∉ bs) (hEb:E ∉ bs) (hvb:∀ (b:Nat) (ao:Addr),vr=.slice (some ao) r.length b→r≠[]→ao.block ∉ bs) :
    Calls Tryz.prog 99 #[.int .i64 l,vr,.pointer (some ⟨KB,0,none⟩)] w fun e w'=>e=.returned (.bool (begW (WR R) (onb L) (WR R l) (symsN f.n r)).2.1)∧SetsB G m bs (R.set l (begW (WR R) (onb L) (WR R l) (symsN f.n r)).1) w'∧But (fun k=>k=bs.getD l 0) w w':=by
  have hlR:l<R.length:=by rw [hR.len]; exact hl
  have hmem:=hS.mem hlR
  have HB:Hid (∀ W,But (fun _=>False) w W→Calls Tryz.prog 100 #[.pointer (some ⟨V,0,none⟩),.slice (some ⟨bs.getD l 0,0,none⟩) m m,vr] W fun e w'=>e=.returned (.tuple #[.bool (begW (WR R) (onb L) (WR R l) (symsN f.n r)).2.1,.bool (begW (WR R) (onb L) (WR R l) (symsN f.n r)).2.2])∧SetB (bs.getD l 0) m (begW (WR R) (onb L) (WR R l) (symsN f.n r)).1 w'∧But (fun k=>k=bs.getD l 0) W w'):=fun W hb =>
    begin_any f a V E G m (bs.getD l 0) bs R L (WR R l) r vr W hn hm (hV.but hb (fun h=>h)) (hE.but hb (fun h=>h)) (hS.but hb (fun h=>h) (fun _ _ h=>h)) hR ((hS.each l hlR).but hb (fun h=>h)) (hv.next' hb) (by omega)
      (fun e=>hVb (e ▸ hmem)) (fun e=>hEb (e ▸ hmem)) (fun e=>hS.out (e ▸ hmem)) (fun b ao h1 h2 e=>hvb b ao h1 h2 (e ▸ hmem)) (fun s hs e=>by rw [hS.inj (by rw [hR.len]; exact hs) hlR e])
  have HT:Hid (∀ A w',But (fun k=>k=bs.getD l 0) w w'→SetB (bs.getD l 0) m A w'→SetsB G m bs (R.set l A) w'):=fun A w' hb hA=>hS.turn hlR hb hA
  have hGc:=hS.cell hlR
  have hGl:=hS.lt
  have hVl:=hV.lt
  have hKl:=World.block_lt_of_cell? w _ hK
  have n1:KB≠bs.getD l 0:=fun e=>hKb (e ▸ hmem)
  have n2:V≠bs.getD l 0:=fun e=>hVb (e ▸ hmem)
  have n3:G≠bs.getD l 0:=fun e=>hS.out (e ▸ hmem)
  have hV4:=hV.c4
  obtain ⟨va,vc,rfl,_⟩:=hv
  generalize bs.getD l 0=c at *
  obtain ⟨RES,hRES⟩:∃ RES,begW (WR R) (onb L) (WR R l) (symsN f.n r)=RES:=⟨_,rfl⟩
  rw [hRES] at HB ⊢
  clear hRES hV hE hS hR hVb hEb hvb hmem
  have HS0:Hid ((fun W=>W.cell? ⟨KB,0,none⟩=some (.pointer (some ⟨V,0,none⟩))∧W.cell? ⟨V,4,none⟩=some (.slice (some ⟨G,0,none⟩) f.n f.n)∧W.cell? ⟨G,l,none⟩=some (.slice (some ⟨c,0,none⟩) m m)) w.drew):=⟨hK,hV4,hGc⟩
  have HC:Hid (Calls Tryz.prog 100 #[.pointer (some ⟨V,0,none⟩),.slice (some ⟨c,0,none⟩) m m,.slice va r.length vc] w.drew fun e w'=>e=.returned (.tuple #[.bool RES.2.1,.bool RES.2.2])∧Hid (SetsB G m bs (R.set l RES.1) w'∧But (fun k=>k=c) w w')∧(fun W=>W.cell? ⟨KB,0,none⟩=some (.pointer (some ⟨V,0,none⟩))∧W.cell? ⟨V,4,none⟩=some (.slice (some ⟨G,0,none⟩) f.n f.n)∧W.cell? ⟨G,l,none⟩=some (.slice (some ⟨c,0,none⟩) m m)) w'):=by
    refine (HB.out w.drew (But.refl _ w).drew).mono ?_
    rintro e w' ⟨rfl,h1,h2⟩
    have h3:But (fun k=>k=c) w w':=((But.refl _ w).drew).trans h2
    exact ⟨rfl,⟨HT.out _ _ h3 h1,h3⟩,(h3.cell (p:=⟨KB,0,none⟩) hKl n1).trans hK,(h3.cell (p:=⟨V,4,none⟩) hVl n2).trans hV4,(h3.cell (p:=⟨G,l,none⟩) hGl n3).trans hGc⟩
  generalize RES.2.1=b1 at *
  generalize RES.2.2=b2 at *
  clear HB HT
  go_enter Tryz.func99,Tryz.ntmps99
  go_wp2_with fail
  go_region_held3 (fun W=>W.cell? ⟨KB,0,none⟩=some (.pointer (some ⟨V,0,none⟩))∧W.cell? ⟨V,4,none⟩=some (.slice (some ⟨G,0,none⟩) f.n f.n)∧W.cell? ⟨G,l,none⟩=some (.slice (some ⟨c,0,none⟩) m m)) (first | exact HS0.out | assumption) (first
    | (go_at_call 100; refine HC.out.mono ?_; rintro e w2 ⟨rfl,hF,hS2⟩))
  all_goals
    clear hS2
    go_wp2_with fail
    go_ret
    exact ⟨rfl,hF.out.1,hF.out.2⟩
structure VOk (f:Fl) (a:FlA) (m:Nat) (w:World) (V E G:Nat) (bs:List Nat) (L:List Bool) (R:List (List Nat)) (W:World):Prop where
  v:VAt f a V E G W
  e:RowK E f.n L W
  s:SetsB G m bs R W
  vb:V ∉ bs
  eb:E ∉ bs
  vl:w.heap.size≤V
  el:w.heap.size≤E
  gl:w.heap.size≤G
  bl:∀ b∈bs,w.heap.size≤b
  ve:V≠E
  vg:V≠G
  eg:E≠G
  below:Below w.heap.size w W
theorem VOk.next {f a m w V E G bs L R W W'} (h:VOk f a m w V E G bs L R W) (hb:Below W.heap.size W W'):VOk f a m w V E G bs L R W' :=
  ⟨h.v.but (D:=fun _=>False) (But.of_next hb) (fun h=>h),h.e.next hb,h.s.but (D:=fun _=>False) (But.of_next hb) (fun h=>h) (fun _ _ h=>h),h.vb,h.eb,h.vl,h.el,h.gl,h.bl,h.ve,h.vg,h.eg,below_then h.below hb h.below.size⟩
structure VNew (f:Fl) (a:FlA) (m:Nat) (w:World) (KB V E G:Nat) (bs:List Nat) (L:List Bool) (R:List (List Nat)) (W:World):Prop where
  ok:VOk f a m w V E G bs L R W
  k:W.cell? ⟨KB,0,none⟩=some (.pointer (some ⟨V,0,none⟩))
  kb:KB ∉ bs
  ke:KB≠E
  kg:KB≠G
  kv:KB≠V
  kl:w.heap.size≤KB
theorem view_made {f:Fl} {a:FlA} {m:Nat} {W1 W2 W w3 W4:World} {KB V E G K:Nat} {bs:List Nat} {L:List Bool} {R:List (List Nat)} (hb1:Below W1.heap.size W1 w3) (h1:W1.heap.size≤K) (h2:K≤E) (h3:E<W2.heap.size) (h4:W2.heap.size≤W.heap.size) (h5:W.heap.size≤G) (h6:∀ b∈bs,W.heap.size≤b)
    (hE:RowK E f.n L w3) (hS:SetsB G m bs R w3) (hB:But (fun k=>k=KB) w3 W4) (hV:VAt f a V E G W4) (hK:W4.cell? ⟨KB,0,none⟩=some (.pointer (some ⟨V,0,none⟩))) (hVl:w3.heap.size≤V) (hKV:KB≠V) (hK1:W1.heap.size≤KB)
    (hKK:w3.heap.size≤KB∨(KB=W1.heap.size∧W1.heap.size<K)∨(KB=W2.heap.size∧W2.heap.size<W.heap.size)):VNew f a m W1 KB V E G bs L R W4:=by
  have hEl:=hE.lt
  have hGl:=hS.lt
  have hbs:∀ b∈bs,b<w3.heap.size:=fun b hb=>by
    obtain ⟨i,hi,rfl⟩:=List.getElem_of_mem hb
    have:=(hS.each i (by rw [← hS.len]; exact hi)).lt
    rwa [List.getD_eq_getElem?_getD,List.getElem?_eq_getElem hi] at this
  have nKb:KB ∉ bs:=fun hb=>by have:=hbs _ hb; have:=h6 _ hb; omega
  have nE:¬ E=KB:=by omega
  have nG:¬ G=KB:=by omega
  exact ⟨⟨hV,hE.but hB nE,hS.but hB nG (fun b hb e=>nKb (e ▸ hb)),fun hb=>by have:=hbs _ hb; omega,fun hb=>by have:=h6 _ hb; omega,by omega,by omega,by omega,fun b hb=>by have:=h6 _ hb; omega,by omega,by omega,by omega,hb1.trans (hB.below hb1.size (fun k hk=>by rw [hk]; exact hK1))⟩,hK,nKb,fun e=>nE e.symm,fun e=>nG e.symm,hKV,hK1⟩
theorem SetsB.blk {G m bs R W} (h:SetsB G m bs R W):∀ b∈bs,b<W.heap.size:=fun b hb=>by
  obtain ⟨i,hi,rfl⟩:=List.getElem_of_mem hb
  have:=(h.each i (by rw [← h.len]; exact hi)).lt
  rwa [List.getD_eq_getElem?_getD,List.getElem?_eq_getElem hi] at this
theorem VNew.keep {f a m w KB V E G bs L R W W'} {n:Nat} (h:VNew f a m w KB V E G bs L R W) (hb:Below n W W') (hn:w.heap.size≤n) (h1:KB<n) (h2:V<n) (h3:E<n) (h4:G<n) (h5:∀ b∈bs,b<n):VNew f a m w KB V E G bs L R W':=by
  have hB:=But.of_below hb
  exact ⟨⟨h.ok.v.but hB (by omega),h.ok.e.but hB (by omega),h.ok.s.but hB (by omega) (fun b hb'=>by have:=h5 b hb'; omega),h.ok.vb,h.ok.eb,h.ok.vl,h.ok.el,h.ok.gl,h.ok.bl,h.ok.ve,h.ok.vg,h.ok.eg,h.ok.below.trans (hb.mono hn)⟩,(hb.cell (p:=⟨KB,0,none⟩) h1).trans h.k,h.kb,h.ke,h.kg,h.kv,h.kl⟩
theorem VNew.turn {f a m w KB V E G bs L R W W' l A} (h:VNew f a m w KB V E G bs L R W) (hl:l<R.length) (hb:But (fun k=>k=bs.getD l 0) W W') (hA:SetB (bs.getD l 0) m A W'):VNew f a m w KB V E G bs L (R.set l A) W':=by
  have hm:=h.ok.s.mem hl
  refine ⟨⟨h.ok.v.but hb (fun e=>h.ok.vb (e ▸ hm)),h.ok.e.but hb (fun e=>h.ok.eb (e ▸ hm)),h.ok.s.turn hl hb hA,h.ok.vb,h.ok.eb,h.ok.vl,h.ok.el,h.ok.gl,h.ok.bl,h.ok.ve,h.ok.vg,h.ok.eg,below_but h.ok.below hb (fun k hk=>by rw [hk]; exact h.ok.bl _ hm)⟩,(hb.cell (p:=⟨KB,0,none⟩) (World.block_lt_of_cell? W _ h.k) (fun e=>h.kb (by rw [show KB=bs.getD l 0 from e]; exact hm))).trans h.k,h.kb,h.ke,h.kg,h.kv,h.kl⟩
theorem viewSettle (f:Fl) (a:FlA) (m:Nat) (w0:World) (KB V E G:Nat) (bs:List Nat) (L:List Bool) (R:List (List Nat)) (W:World) (hp:FitP f) (hf0:FlAt f a w0) (hm:m≤20) (hV:VNew f a m w0 KB V E G bs L R W) (hL:GivesB (fun s=>false=true∧s<f.terms.length) f.gr f.n L) (hR:StW f m R) :
    Calls Tryz.prog 92 #[a.val f,.func (.func 99) #[] #[.pointer (some ⟨KB,0,none⟩)]] W fun e w'=>(∃ v,e=.returned v)∧∃ R',VNew f a m w0 KB V E G bs L R' w'∧StW f m R'∧∀ q∈f.gr,ClosF f R' q:=by
  have hVl:=hV.ok.v.lt
  have hEl:=hV.ok.e.lt
  have hGl:=hV.ok.s.lt
  have hbl:=hV.ok.s.blk
  have hKl:=World.block_lt_of_cell? W _ hV.k
  have hn:f.n≤600:=hp.size
  have hEmp:∀ s,s<f.n→(onb L s=true↔EmpP f s):=fun s hs=>by
    rw [onb_iff,hL.2 s hs]
    have e:(fun s=>false=true∧s<f.terms.length)=fun _=>False:=by funext s; simp
    rw [e]
    exact Iff.rfl
  have hcell:∀ j (hj:j<f.prods.length) v,(∃ pb off,a.pa=some ⟨pb,off,none⟩∧W.cell? ⟨pb,off+j * 3+1,none⟩=some v)→SlT f.prods[j].right v w0:=fun j hj v ⟨pb,off,h1,h2⟩=>by
    obtain ⟨b,off',v',e,hb,_,k1,_,hv,_⟩:=hf0.2.2.1.at (Below.refl _ _) hj
    rw [h1] at e; cases e
    rw [hV.ok.below.cell (p:=⟨pb,off+j * 3+1,none⟩) hb,k1] at h2
    cases h2; exact hv
  refine (settle_any (σ:=List (List Nat)) f a 99 #[.pointer (some ⟨KB,0,none⟩)] (enters_of Tryz.func99 (by kernel_rfl) rfl)
    (fun R X=>VNew f a m w0 KB V E G bs L R X∧StW f m R) (fun k=>k∈bs) (fun R=>f.n * (64 * m) - bulkW R) (fun j R=>∀ q,f.gr[j]?=some q→ClosF f R q) W hp (fun R X h=>hf0.next h.1.ok.below)
    (fun R X X' h hb=>⟨h.1.keep hb hV.ok.below.size hKl hVl hEl hGl hbl,h.2⟩) (fun k hk=>hbl k hk) ?hDa ?hg R ⟨hV,hR⟩).mono ?_
  case hDa =>
    intro hpos ad had hk
    obtain ⟨b,off,v,e,hb,_⟩:=hf0.2.2.1.at (Below.refl _ _) hpos
    rw [e] at had; cases had
    have:=hV.ok.bl _ hk
    simp only at this
    omega
  case hg =>
    rintro j hj R X v ⟨hX,hR⟩ hv hz hpv
    have hv0:=hcell j hj v hpv
    have hlf:=hp.left _ (List.getElem_mem hj)
    have hsy:∀ x∈f.prods[j].right,0≤x.sym∧x.sym<(f.n:Int):=fun x hx=>hp.sym _ (List.getElem_mem hj) x hx
    have hq:f.gr[j]?=some (f.prods[j].left.toNat,f.prods[j].syms):=by unfold Fl.gr; rw [List.getElem?_map,List.getElem?_eq_getElem hj]; rfl
    have hmem:=gr_mem hj
    obtain ⟨l,hl⟩:∃ l:Nat,f.prods[j].left=l:=⟨f.prods[j].left.toNat,by omega⟩
    have hln:l<f.n:=by unfold Fl.n; omega
    rw [hl,Int.toNat_natCast] at hq hmem
    rw [hl]
    have hlR:l<R.length:=by rw [hR.ok.len]; exact hln
    refine (viewOf1_any f a V E G m KB l bs R L f.prods[j].right v X hn hm hX.k hX.ok.v hX.ok.e hX.ok.s hR.ok hln hv (hp.right _ (List.getElem_mem hj)) hX.kb hX.ok.vb hX.ok.eb (fun b ao e hne=>?_)).mono ?_
    · obtain ⟨ao',cap,e',hI,_⟩:=hv0
      rw [e] at e'
      cases e'
      intro hk
      obtain ⟨b',off',e2,hb',_⟩:=hI.at (Below.refl _ _) (j:=0) (List.length_pos_iff.2 hne)
      cases e2
      have:=hX.ok.bl _ hk
      simp only at this
      omega
    · rintro e X' ⟨rfl,h1,h2⟩
      rw [symsN_all hsy] at h1 ⊢
      have hst:=hR.step hEmp hmem hln (fun x hx=>by
        obtain ⟨y,hy,rfl⟩:=List.mem_map.1 hx
        have:=hsy y hy
        omega)
      have hsym:f.prods[j].syms=f.prods[j].right.map fun x=>x.sym.toNat:=rfl
      rw [hsym] at hst
      have hB:But (fun k=>k∈bs) X X':=h2.mono (fun k _ hk=>by rw [hk]; exact hX.ok.s.mem hlR)
      have hXX:VNew f a m w0 KB V E G bs L (R.set l (begW (WR R) (onb L) (WR R l) (f.prods[j].right.map fun x=>x.sym.toNat)).1) X':=by
        have he:=h1.each l (by rw [List.length_set]; exact hlR)
        rw [WR_set hlR,if_pos rfl] at he
        exact hX.turn hlR h2 he
      refine ⟨_,_,rfl,⟨hXX,hst.1⟩,hB,fun hb=>?_,fun hb=>⟨(hst.2.2 hb).1,fun q hq'=>?_⟩⟩
      · have k1:=hst.2.1 hb
        have k2:=bulkW_max hst.1.ok
        omega
      · rw [hq] at hq'; cases hq'
        exact (hst.2.2 hb).2
  · rintro e X ⟨he,R',⟨k1,k2⟩,hcl,_⟩
    refine ⟨he,R',k1,k2,fun q hq=>?_⟩
    obtain ⟨j,hj,rfl⟩:=List.getElem_of_mem hq
    exact hcl j (by simpa [Fl.gr] using hj) _ (List.getElem?_eq_getElem hj)
set_option maxRecDepth 100000 in
set_option maxHeartbeats 1000000 in
theorem viewOf_any (f:Fl) (a:FlA) (w:World) (hf:FlAt f a w) (hp:FitP f) :
    Calls Tryz.prog 76 #[a.val f] w fun e w'=>∃ V E G bs L R,e=.returned (.pointer (some ⟨V,0,none⟩))∧VOk f a (f.terms.length / 64+1) w V E G bs L R w'∧GivesB (fun s=>false=true∧s<f.terms.length) f.gr f.n L∧StW f (f.terms.length / 64+1) R∧∀ q∈f.gr,ClosF f R q:=by
  have hn:f.n≤600:=hp.size
  have HD:Hid (∀ W,Below w.heap.size w W→Calls Tryz.prog 74 #[a.val f,.bool false] W fun e w'=>∃ G L,e=.returned (.slice (some ⟨G,0,none⟩) f.n f.n)∧W.heap.size≤G∧RowK G f.n L w'∧GivesB (fun s=>false=true∧s<f.terms.length) f.gr f.n L∧Below W.heap.size W w'):=fun W hb=>derived_any f a false W (hf.next hb) hp
  have HNS:Hid (∀ W,Calls Tryz.prog 97 #[a.val f] W fun e w'=>∃ G bs,e=.returned (.slice (some ⟨G,0,none⟩) f.n f.n)∧W.heap.size≤G∧(∀ b∈bs,W.heap.size≤b)∧SetsB G (f.terms.length / 64+1) bs (List.replicate f.n (List.replicate (f.terms.length / 64+1) 0)) w'∧Below W.heap.size W w'):=fun W=>newSets_any f a W hp
  obtain ⟨ta,tc,na,nc,pa,pc⟩:=a
  unfold FlA.val at HD HNS ⊢
  simp only at *
  have X0:=FBox.new f ⟨ta,tc,na,nc,pa,pc⟩ 50 w
  have B0:Below w.heap.size w (w.alloc (fobj f ⟨ta,tc,na,nc,pa,pc⟩ 50)):=(Below.refl _ _).alloc (Nat.le_refl _) _
  unfold fobj at X0 B0
  simp only at X0 B0
  obtain ⟨W1,hW1⟩:∃ W1,(w.alloc (Obj.cells #[Value.slice ta f.terms.length tc,Value.slice na f.nons.length nc,Value.slice pa f.prods.length pc] 50))=W1:=⟨_,rfl⟩
  rw [hW1] at X0 B0
  have HW1:Hid ((w.alloc (Obj.cells #[Value.slice ta f.terms.length tc,Value.slice na f.nons.length nc,Value.slice pa f.prods.length pc] 50))=W1):=hW1
  clear hW1
  obtain ⟨x0,x1,x2,x3⟩:=X0
  simp only at x1 x2 x3
  have htn:f.terms.length≤f.n:=by unfold Fl.n; omega
  have hm20:f.terms.length / 64+1≤20:=by omega
  have hm64:f.terms.length<64 * (f.terms.length / 64+1):=by omega
  have HSET:Hid (∀ KB V E G bs L W,VNew f ⟨ta,tc,na,nc,pa,pc⟩ (f.terms.length / 64+1) W1 KB V E G bs L (putsTo (f.terms.length / 64+1) f.n f.terms.length) W→GivesB (fun s=>false=true∧s<f.terms.length) f.gr f.n L→Calls Tryz.prog 92 #[.agg #[Value.slice ta f.terms.length tc,Value.slice na f.nons.length nc,Value.slice pa f.prods.length pc],.func (.func 99) #[] #[.pointer (some ⟨KB,0,none⟩)]] W fun e w'=>(∃ v,e=.returned v)∧∃ R',VNew f ⟨ta,tc,na,nc,pa,pc⟩ (f.terms.length / 64+1) W1 KB V E G bs L R' w'∧StW f (f.terms.length / 64+1) R'∧∀ q∈f.gr,ClosF f R' q):=fun KB V E G bs L W h1 h2 =>
    viewSettle f ⟨ta,tc,na,nc,pa,pc⟩ _ W1 KB V E G bs L _ W hp (hf.next B0) hm20 h1 h2 putsTo_ok
  generalize f.terms.length / 64+1=m at *
  have HS0:Hid ((fun W=>W.cell? ⟨w.heap.size,0,none⟩=some (.slice ta f.terms.length tc)∧W.cell? ⟨w.heap.size,1,none⟩=some (.slice na f.nons.length nc)∧W.cell? ⟨w.heap.size,2,none⟩=some (.slice pa f.prods.length pc)∧Below W1.heap.size W1 W) W1.drew):=⟨x1,x2,x3,(Below.refl _ _).drew⟩
  have hstep:∀ W W',(fun W=>W.cell? ⟨w.heap.size,0,none⟩=some (.slice ta f.terms.length tc)∧W.cell? ⟨w.heap.size,1,none⟩=some (.slice na f.nons.length nc)∧W.cell? ⟨w.heap.size,2,none⟩=some (.slice pa f.prods.length pc)∧Below W1.heap.size W1 W) W→Below W.heap.size W W'→(fun W=>W.cell? ⟨w.heap.size,0,none⟩=some (.slice ta f.terms.length tc)∧W.cell? ⟨w.heap.size,1,none⟩=some (.slice na f.nons.length nc)∧W.cell? ⟨w.heap.size,2,none⟩=some (.slice pa f.prods.length pc)∧Below W1.heap.size W1 W) W':=by
    rintro W W' ⟨y0,y1,y2,y3⟩ hb'
    have hsz:=y3.size
    exact ⟨(hb'.cell (p:=⟨w.heap.size,0,none⟩) (by show w.heap.size<_; omega)).trans y0,(hb'.cell (p:=⟨w.heap.size,1,none⟩) (by show w.heap.size<_; omega)).trans y1,(hb'.cell (p:=⟨w.heap.size,2,none⟩) (by show w.heap.size<_; omega)).trans y2,below_then y3 hb' hsz⟩
  have cD:∀ W,(fun W=>W.cell? ⟨w.heap.size,0,none⟩=some (.slice ta f.terms.length tc)∧W.cell? ⟨w.heap.size,1,none⟩=some (.slice na f.nons.length nc)∧W.cell? ⟨w.heap.size,2,none⟩=some (.slice pa f.prods.length pc)∧Below W1.heap.size W1 W) W→Calls Tryz.prog 74 #[.agg #[Value.slice ta f.terms.length tc,Value.slice na f.nons.length nc,Value.slice pa f.prods.length pc],.bool false] W fun e w'=>∃ E L,e=.returned (.slice (some ⟨E,0,none⟩) f.n f.n)∧Hid (W1.heap.size≤W.heap.size∧W.heap.size≤E∧RowK E f.n L w'∧GivesB (fun s=>false=true∧s<f.terms.length) f.gr f.n L)∧Below W.heap.size W w'∧(fun W=>W.cell? ⟨w.heap.size,0,none⟩=some (.slice ta f.terms.length tc)∧W.cell? ⟨w.heap.size,1,none⟩=some (.slice na f.nons.length nc)∧W.cell? ⟨w.heap.size,2,none⟩=some (.slice pa f.prods.length pc)∧Below W1.heap.size W1 W) w':=by
    intro W hS
    refine (HD.out W (below_then B0 hS.2.2.2 B0.size)).mono ?_
    rintro e w' ⟨E,L,rfl,h1,h2,h3,h4⟩
    exact ⟨E,L,rfl,⟨hS.2.2.2.size,h1,h2,h3⟩,h4,hstep _ _ hS h4⟩
  have cN:∀ W W2 E L K,(fun W=>W.cell? ⟨w.heap.size,0,none⟩=some (.slice ta f.terms.length tc)∧W.cell? ⟨w.heap.size,1,none⟩=some (.slice na f.nons.length nc)∧W.cell? ⟨w.heap.size,2,none⟩=some (.slice pa f.prods.length pc)∧Below W1.heap.size W1 W) W→Hid (W1.heap.size≤K∧K≤E∧RowK E f.n L W2∧GivesB (fun s=>false=true∧s<f.terms.length) f.gr f.n L)→Below W2.heap.size W2 W→Calls Tryz.prog 97 #[.agg #[Value.slice ta f.terms.length tc,Value.slice na f.nons.length nc,Value.slice pa f.prods.length pc]] W fun e w'=>∃ G bs,e=.returned (.slice (some ⟨G,0,none⟩) f.n f.n)∧Hid (W1.heap.size≤K∧K≤E∧E<W2.heap.size∧W2.heap.size≤W.heap.size∧W.heap.size≤G∧(∀ b∈bs,W.heap.size≤b)∧RowK E f.n L w'∧GivesB (fun s=>false=true∧s<f.terms.length) f.gr f.n L∧SetsB G m bs (List.replicate f.n (List.replicate m 0)) w')∧Below W.heap.size W w'∧(fun W=>W.cell? ⟨w.heap.size,0,none⟩=some (.slice ta f.terms.length tc)∧W.cell? ⟨w.heap.size,1,none⟩=some (.slice na f.nons.length nc)∧W.cell? ⟨w.heap.size,2,none⟩=some (.slice pa f.prods.length pc)∧Below W1.heap.size W1 W) w':=by
    intro W W2 E L K hS hG hb
    refine (HNS.out W).mono ?_
    rintro e w' ⟨G,bs,rfl,h1,h2,h3,h4⟩
    obtain ⟨k1,k2,k3,k4⟩:=hG.out
    exact ⟨G,bs,rfl,⟨k1,k2,k3.lt,hb.size,h1,h2,(k3.next hb).next h4,k4,h3⟩,h4,hstep _ _ hS h4⟩
  have hal:∀ W o,(fun W=>W.cell? ⟨w.heap.size,0,none⟩=some (.slice ta f.terms.length tc)∧W.cell? ⟨w.heap.size,1,none⟩=some (.slice na f.nons.length nc)∧W.cell? ⟨w.heap.size,2,none⟩=some (.slice pa f.prods.length pc)∧Below W1.heap.size W1 W) W→(fun W=>W.cell? ⟨w.heap.size,0,none⟩=some (.slice ta f.terms.length tc)∧W.cell? ⟨w.heap.size,1,none⟩=some (.slice na f.nons.length nc)∧W.cell? ⟨w.heap.size,2,none⟩=some (.slice pa f.prods.length pc)∧Below W1.heap.size W1 W) (World.alloc W o):=fun W o hS=>hstep _ _ hS ((Below.refl _ _).alloc (Nat.le_refl _) _)
  have hset:∀ W (p:Addr) v,(fun W=>W.cell? ⟨w.heap.size,0,none⟩=some (.slice ta f.terms.length tc)∧W.cell? ⟨w.heap.size,1,none⟩=some (.slice na f.nons.length nc)∧W.cell? ⟨w.heap.size,2,none⟩=some (.slice pa f.prods.length pc)∧Below W1.heap.size W1 W) W→W1.heap.size≤p.block→(fun W=>W.cell? ⟨w.heap.size,0,none⟩=some (.slice ta f.terms.length tc)∧W.cell? ⟨w.heap.size,1,none⟩=some (.slice na f.nons.length nc)∧W.cell? ⟨w.heap.size,2,none⟩=some (.slice pa f.prods.length pc)∧Below W1.heap.size W1 W) (World.setCell W p v):=by
    rintro W p v ⟨y0,y1,y2,y3⟩ hp'
    have e:∀ {o u},W.cell? ⟨w.heap.size,o,none⟩=some u→(W.setCell p v).cell? ⟨w.heap.size,o,none⟩=some u:=fun {o u} hu=>(World.cell?_of_block (w:=W) (Below.heap_setCell W p v w.heap.size (by omega))).trans hu
    exact ⟨e y0,e y1,e y2,y3.setCell hp' _⟩
  clear hstep HD HNS
  go_enter Tryz.func76,Tryz.ntmps76
  go_wp2_with fail
  try rw [HW1.out]
  go_region_held3 (fun W=>W.cell? ⟨w.heap.size,0,none⟩=some (.slice ta f.terms.length tc)∧W.cell? ⟨w.heap.size,1,none⟩=some (.slice na f.nons.length nc)∧W.cell? ⟨w.heap.size,2,none⟩=some (.slice pa f.prods.length pc)∧Below W1.heap.size W1 W) (first | exact HS0.out | assumption | exact hal _ _ HS0.out | exact hal _ _ (by assumption) | exact hal _ _ (hal _ _ (by assumption)) | exact hset _ _ _ (hal _ _ (by assumption)) (Nat.le_refl _) | exact hset _ _ _ (hal _ _ (by assumption)) (by show _≤_; omega) | fail) (first
    | (go_at_call 74; refine (cD _ (by assumption)).mono ?_; rintro e w2 ⟨E,L,rfl,hG,hbD,hS⟩; have hz2:=hS.2.2.2.size; try (have q1:w2.cell? ⟨W1.heap.size,0,none⟩=some (Value.pointer none):=(hbD.cell (p:=⟨W1.heap.size,0,none⟩) (by first | (simp; done) | fail)).trans (by first | (simp; done) | fail); have q2:w2.frozen? ⟨W1.heap.size,0,none⟩=false:=(hbD.frozen (p:=⟨W1.heap.size,0,none⟩) (by first | (simp; done) | fail)).trans (by first | (simp; done) | fail)))
    | (go_at_call 97; refine (cN _ _ _ _ _ (by assumption) hG (by first | exact Below.refl _ _ | exact (Below.refl _ _).alloc (Nat.le_refl _) _)).mono ?_; clear hG; rintro e w3 ⟨G,bs,rfl,hG,hbN,hS⟩; have hz3:=hS.2.2.2.size; have hS3:=hS; (try (have r1:=(hbN.cell (p:=⟨W1.heap.size,0,none⟩) (World.block_lt_of_cell? _ _ q1)).trans q1; have r2:=(hbN.frozen (p:=⟨W1.heap.size,0,none⟩) (World.block_lt_of_cell? _ _ q1)).trans q2; have r3:W1.heap.size≠w3.heap.size:=Nat.ne_of_lt (World.block_lt_of_cell? w3 ⟨W1.heap.size,0,none⟩ r1); have r4:¬ w3.heap.size=W1.heap.size:=fun e=>r3 e.symm; have r5:∀ o,(World.alloc w3 o).cell? ⟨W1.heap.size,0,none⟩=some (Value.pointer none):=fun o=>(((Below.refl _ w3).alloc (Nat.le_refl _) o).cell (p:=⟨W1.heap.size,0,none⟩) (World.block_lt_of_cell? w3 ⟨W1.heap.size,0,none⟩ r1)).trans r1; have r6:∀ o,(World.alloc w3 o).frozen? ⟨W1.heap.size,0,none⟩=false:=fun o=>(((Below.refl _ w3).alloc (Nat.le_refl _) o).frozen (p:=⟨W1.heap.size,0,none⟩) (World.block_lt_of_cell? w3 ⟨W1.heap.size,0,none⟩ r1)).trans r2)); (try (have r1:w3.cell? ⟨w2.heap.size,0,none⟩=some (Value.pointer none):=(hbN.cell (p:=⟨w2.heap.size,0,none⟩) (by first | (simp; done) | fail)).trans (by first | (simp; done) | fail); have r2:w3.frozen? ⟨w2.heap.size,0,none⟩=false:=(hbN.frozen (p:=⟨w2.heap.size,0,none⟩) (by first | (simp; done) | fail)).trans (by first | (simp; done) | fail); have r3:w2.heap.size≠w3.heap.size:=Nat.ne_of_lt (World.block_lt_of_cell? w3 ⟨w2.heap.size,0,none⟩ r1); have r4:¬ w3.heap.size=w2.heap.size:=fun e=>r3 e.symm; have r5:∀ o,(World.alloc w3 o).cell? ⟨w2.heap.size,0,none⟩=some (Value.pointer none):=fun o=>(((Below.refl _ w3).alloc (Nat.le_refl _) o).cell (p:=⟨w2.heap.size,0,none⟩) (World.block_lt_of_cell? w3 ⟨w2.heap.size,0,none⟩ r1)).trans r1; have r6:∀ o,(World.alloc w3 o).frozen? ⟨w2.heap.size,0,none⟩=false:=fun o=>(((Below.refl _ w3).alloc (Nat.le_refl _) o).frozen (p:=⟨w2.heap.size,0,none⟩) (World.block_lt_of_cell? w3 ⟨w2.heap.size,0,none⟩ r1)).trans r2))))
  focus
    obtain ⟨h1,h2,h3,h4,h5,h6,h7,h8,h9⟩:=hG.out
    have HV:Hid (VNew f ⟨ta,tc,na,nc,pa,pc⟩ m W1 (w3.heap.size+1) (w3.heap.size) E G bs L (List.replicate f.n (List.replicate m 0)) ((w3.alloc (Obj.cells #[Value.slice ta f.terms.length tc,Value.slice na f.nons.length nc,Value.slice pa f.prods.length pc,Value.slice (some ⟨E,0,none⟩) f.n f.n,Value.slice (some ⟨G,0,none⟩) f.n f.n] 155)).alloc (Obj.cells #[Value.pointer (some ⟨w3.heap.size,0,none⟩)] 156))∧GivesB (fun s=>false=true∧s<f.terms.length) f.gr f.n L):=by
      refine ⟨view_made hS3.2.2.2 h1 h2 h3 h4 h5 h6 h7 h9 (But.of_next (((Below.refl _ w3).alloc (Nat.le_refl _) _).alloc (by simp) _)) ?_ ?_ (by omega) (by omega) (by omega) (.inl (by omega)),h8⟩
      · constructor <;> go_simp
      · go_simp
    generalize ((w3.alloc (Obj.cells #[Value.slice ta f.terms.length tc,Value.slice na f.nons.length nc,Value.slice pa f.prods.length pc,Value.slice (some ⟨E,0,none⟩) f.n f.n,Value.slice (some ⟨G,0,none⟩) f.n f.n] 155)).alloc (Obj.cells #[Value.pointer (some ⟨w3.heap.size,0,none⟩)] 156))=W4 at *
    obtain ⟨KB,hKB⟩:∃ KB,w3.heap.size+1=KB:=⟨_,rfl⟩
    obtain ⟨V,hVV⟩:∃ V,w3.heap.size=V:=⟨_,rfl⟩
    first | rw [hKB,hVV] at HV ⊢ | rw [hVV,hKB] at HV ⊢
    clear hKB hVV
  rotate_left
  focus
    obtain ⟨h1,h2,h3,h4,h5,h6,h7,h8,h9⟩:=hG.out
    have HV:Hid (VNew f ⟨ta,tc,na,nc,pa,pc⟩ m W1 (w3.heap.size) (w3.heap.size+1) E G bs L (List.replicate f.n (List.replicate m 0)) ((w3.alloc (Obj.cells #[Value.pointer (some ⟨w3.heap.size+1,0,none⟩)] 156)).alloc (Obj.cells #[Value.slice ta f.terms.length tc,Value.slice na f.nons.length nc,Value.slice pa f.prods.length pc,Value.slice (some ⟨E,0,none⟩) f.n f.n,Value.slice (some ⟨G,0,none⟩) f.n f.n] 155))∧GivesB (fun s=>false=true∧s<f.terms.length) f.gr f.n L):=by
      refine ⟨view_made hS3.2.2.2 h1 h2 h3 h4 h5 h6 h7 h9 (But.of_next (((Below.refl _ w3).alloc (Nat.le_refl _) _).alloc (by simp) _)) ?_ ?_ (by omega) (by omega) (by omega) (.inl (by omega)),h8⟩
      · constructor <;> go_simp
      · go_simp
    generalize ((w3.alloc (Obj.cells #[Value.pointer (some ⟨w3.heap.size+1,0,none⟩)] 156)).alloc (Obj.cells #[Value.slice ta f.terms.length tc,Value.slice na f.nons.length nc,Value.slice pa f.prods.length pc,Value.slice (some ⟨E,0,none⟩) f.n f.n,Value.slice (some ⟨G,0,none⟩) f.n f.n] 155))=W4 at *
    obtain ⟨KB,hKB⟩:∃ KB,w3.heap.size=KB:=⟨_,rfl⟩
    obtain ⟨V,hVV⟩:∃ V,w3.heap.size+1=V:=⟨_,rfl⟩
    first | rw [hKB,hVV] at HV ⊢ | rw [hVV,hKB] at HV ⊢
    clear hKB hVV
  rotate_left
  focus
    obtain ⟨h1,h2,h3,h4,h5,h6,h7,h8,h9⟩:=hG.out
    have HV:Hid (VNew f ⟨ta,tc,na,nc,pa,pc⟩ m W1 (w2.heap.size) (w3.heap.size) E G bs L (List.replicate f.n (List.replicate m 0)) ((w3.alloc (Obj.cells #[Value.slice ta f.terms.length tc,Value.slice na f.nons.length nc,Value.slice pa f.prods.length pc,Value.slice (some ⟨E,0,none⟩) f.n f.n,Value.slice (some ⟨G,0,none⟩) f.n f.n] 155)).setCell ⟨w2.heap.size,0,none⟩ (Value.pointer (some ⟨w3.heap.size,0,none⟩)))∧GivesB (fun s=>false=true∧s<f.terms.length) f.gr f.n L):=by
      refine ⟨view_made hS3.2.2.2 h1 h2 h3 h4 h5 h6 h7 h9 ((But.of_next ((Below.refl _ w3).alloc (Nat.le_refl _) _)).setCell _ _ (.inr rfl)) ?_ ?_ (by omega) (by omega) (by omega) (.inr (.inr ⟨rfl,by simp⟩)),h8⟩
      · constructor <;> go_simp
      · go_simp
    generalize ((w3.alloc (Obj.cells #[Value.slice ta f.terms.length tc,Value.slice na f.nons.length nc,Value.slice pa f.prods.length pc,Value.slice (some ⟨E,0,none⟩) f.n f.n,Value.slice (some ⟨G,0,none⟩) f.n f.n] 155)).setCell ⟨w2.heap.size,0,none⟩ (Value.pointer (some ⟨w3.heap.size,0,none⟩)))=W4 at *
    obtain ⟨KB,hKB⟩:∃ KB,w2.heap.size=KB:=⟨_,rfl⟩
    obtain ⟨V,hVV⟩:∃ V,w3.heap.size=V:=⟨_,rfl⟩
    first | rw [hKB,hVV] at HV ⊢ | rw [hVV,hKB] at HV ⊢
    clear hKB hVV
  rotate_left
  focus
    obtain ⟨h1,h2,h3,h4,h5,h6,h7,h8,h9⟩:=hG.out
    have HV:Hid (VNew f ⟨ta,tc,na,nc,pa,pc⟩ m W1 (W1.heap.size) (w3.heap.size) E G bs L (List.replicate f.n (List.replicate m 0)) ((w3.alloc (Obj.cells #[Value.slice ta f.terms.length tc,Value.slice na f.nons.length nc,Value.slice pa f.prods.length pc,Value.slice (some ⟨E,0,none⟩) f.n f.n,Value.slice (some ⟨G,0,none⟩) f.n f.n] 155)).setCell ⟨W1.heap.size,0,none⟩ (Value.pointer (some ⟨w3.heap.size,0,none⟩)))∧GivesB (fun s=>false=true∧s<f.terms.length) f.gr f.n L):=by
      refine ⟨view_made hS3.2.2.2 h1 h2 h3 h4 h5 h6 h7 h9 ((But.of_next ((Below.refl _ w3).alloc (Nat.le_refl _) _)).setCell _ _ (.inr rfl)) ?_ ?_ (by omega) (by omega) (by omega) (.inr (.inl ⟨rfl,by simp⟩)),h8⟩
      · constructor <;> go_simp
      · go_simp
    generalize ((w3.alloc (Obj.cells #[Value.slice ta f.terms.length tc,Value.slice na f.nons.length nc,Value.slice pa f.prods.length pc,Value.slice (some ⟨E,0,none⟩) f.n f.n,Value.slice (some ⟨G,0,none⟩) f.n f.n] 155)).setCell ⟨W1.heap.size,0,none⟩ (Value.pointer (some ⟨w3.heap.size,0,none⟩)))=W4 at *
    obtain ⟨KB,hKB⟩:∃ KB,W1.heap.size=KB:=⟨_,rfl⟩
    obtain ⟨V,hVV⟩:∃ V,w3.heap.size=V:=⟨_,rfl⟩
    first | rw [hKB,hVV] at HV ⊢ | rw [hVV,hKB] at HV ⊢
    clear hKB hVV
  rotate_left
  all_goals
    clear hG hS hS3 hbD hbN hz2 hz3 h1 h2 h3 h4 h5 h6 h7 h8 h9 cD cN hal hset HS0 HW1
    try clear r1
    try clear r2
    try clear r3
    try clear r4
    try clear r5
    try clear r6
    try clear q1
    try clear q2
    have HX:Hid (∀ W,Below W1.heap.size W1 W→W.cell? ⟨w.heap.size,0,none⟩=some (.slice ta f.terms.length tc)∧W.cell? ⟨w.heap.size,1,none⟩=some (.slice na f.nons.length nc)∧W.cell? ⟨w.heap.size,2,none⟩=some (.slice pa f.prods.length pc)):=fun W hb =>
      ⟨(hb.cell (p:=⟨w.heap.size,0,none⟩) x0).trans x1,(hb.cell (p:=⟨w.heap.size,1,none⟩) x0).trans x2,(hb.cell (p:=⟨w.heap.size,2,none⟩) x0).trans x3⟩
    have HV0:Hid (VNew f ⟨ta,tc,na,nc,pa,pc⟩ m W1 KB V E G bs L (putsTo m f.n 0) W4):=by show VNew _ _ _ _ _ _ _ _ _ _ _ _; rw [putsTo_zero]; exact HV.out.1
    have HGB:Hid (GivesB (fun s=>false=true∧s<f.terms.length) f.gr f.n L):=HV.out.2
    obtain ⟨y0,y1,y2⟩:=HX.out _ HV0.out.ok.below
    clear HV
    go_wp2_with fail
    clear y0 y1 y2
    go_loopw [15] (fun i wr=>∃ (j:Nat),i=.int .i64 j∧j≤f.terms.length∧VNew f ⟨ta,tc,na,nc,pa,pc⟩ m W1 KB V E G bs L (putsTo m f.n j) wr) (fun i _=>f.terms.length - (intOf i).toNat)
    case atStart=>exact ⟨0,rfl,Nat.zero_le _,HV0.out⟩
    case round =>
      clear HV0
      obtain ⟨j,rfl,hj,hN⟩:=hrel
      obtain ⟨y0,y1,y2⟩:=HX.out _ hN.ok.below
      have k1:=hN.k
      have k2:=hN.ok.v.c4
      by_cases hlt:j<f.terms.length
      · have hjn:j<f.n:=by omega
        have hjl:j<(putsTo m f.n j).length:=by rw [putsTo_len]; exact hjn
        have k3:=hN.ok.s.cell hjl
        have hsj:=hN.ok.s.each j hjl
        rw [putsTo_get hjn,if_neg (by omega)] at hsj
        have HP:Hid (Calls Tryz.prog 98 #[.slice (some ⟨bs.getD j 0,0,none⟩) m m,.int .i64 j] wr fun e w'=>(∃ v,e=.returned v)∧VNew f ⟨ta,tc,na,nc,pa,pc⟩ m W1 KB V E G bs L (putsTo m f.n (j+1)) w'):=by
          refine (sput_any _ _ m j wr hsj (by omega) (by omega)).mono ?_
          rintro e w' ⟨he,h1,h2⟩
          refine ⟨he,?_⟩
          rw [putsTo_succ]
          exact hN.turn hjl h2 h1
        clear hsj hN hjl
        generalize bs.getD j 0=c at *
        go_wp2_with fail
        refine HP.out.mono ?_
        rintro e w5 ⟨⟨v,rfl⟩,hN⟩
        clear HP k1 k2 k3 y0 y1 y2
        go_wp2_with fail
        exact ⟨⟨j+1,by go_num,by omega,hN⟩,by simp [intOf]; omega⟩
      · obtain rfl:j=f.terms.length:=by omega
        have HSE:=HSET.out _ _ _ _ _ _ _ hN HGB.out
        clear hN
        go_wp2_with fail
        refine HSE.mono ?_
        rintro e w5 ⟨⟨v,rfl⟩,R',g1,g2,g3⟩
        have k5:=g1.k
        have HF:Hid (VOk f ⟨ta,tc,na,nc,pa,pc⟩ m w V E G bs L R' w5∧StW f m R'∧∀ q∈f.gr,ClosF f R' q):=⟨⟨g1.ok.v,g1.ok.e,g1.ok.s,g1.ok.vb,g1.ok.eb,by have:=g1.ok.vl; omega,by have:=g1.ok.el; omega,by have:=g1.ok.gl; omega,fun b hb=>by have:=g1.ok.bl b hb; omega,g1.ok.ve,g1.ok.vg,g1.ok.eg,below_then B0 g1.ok.below B0.size⟩,g2,g3⟩
        clear g1 g2 g3 HSE k1 k2 y0 y1 y2
        go_wp2_with fail
        go_ret
        exact ⟨V,E,G,bs,L,R',rfl,HF.out.1,HGB.out,HF.out.2.1,HF.out.2.2⟩
def rowsTo (R:List (List Nat)) (j:Nat):List (List Int):=(List.range R.length).map fun s=>if s<j then listW (WR R s) else []
theorem rowsTo_zero (R:List (List Nat)):rowsTo R 0=List.replicate R.length []:=by
  unfold rowsTo
  apply List.ext_getElem (by simp)
  intro i h1 h2
  simp
theorem rowsTo_succ {R:List (List Nat)} {j:Nat}:rowsTo R (j+1)=(rowsTo R j).set j (listW (WR R j)):=by
  unfold rowsTo
  apply List.ext_getElem (by simp)
  intro i h1 h2
  rw [List.getElem_set]
  simp only [List.getElem_map,List.getElem_range]
  split
  · rename_i h
    split
    · rename_i e; subst e; rfl
    · rename_i e; rw [if_pos (by omega)]
  · rename_i h
    rw [if_neg (by omega),if_neg (by omega)]
theorem rowsTo_all (R:List (List Nat)):rowsTo R R.length=R.map listW:=by
  unfold rowsTo
  apply List.ext_getElem (by simp)
  intro i h1 h2
  have hi:i<R.length:=by simpa using h1
  simp only [List.getElem_map,List.getElem_range,if_pos hi]
  unfold WR
  rw [List.getD_eq_getElem?_getD,List.getElem?_eq_getElem hi]
  rfl
set_option maxRecDepth 100000 in
set_option maxHeartbeats 1000000 in
theorem lists_any (G m:Nat) (bs:List Nat) (R:List (List Nat)) (w:World) (hS:SetsB G m bs R w) (hm:m≤20) (hN:R.length≤600) (hT:Tb w) :
    Calls Tryz.prog 75 #[.slice (some ⟨G,0,none⟩) R.length R.length] w fun e w'=>∃ v,e=.returned v∧SlR (R.map listW) v w'∧Below w.heap.size w w':=by
  obtain ⟨i0,hi0,hz0,hz1,hz2⟩:=info_parts info27
  obtain ⟨N,hNN⟩:∃ N,R.length=N:=⟨_,rfl⟩
  rw [hNN] at hN ⊢
  have HNN:Hid (R.length=N):=hNN
  clear hNN
  go_enter Tryz.func75,Tryz.ntmps75
  go_wp2_with (at_make; refine wpList_make_full _ rfl _ _ 130 rfl w.heap.size 39 i0 _ 1 Tryz.underlying130 hi0 hz0 hz1 _ _ _ _ N rfl rfl rfl rfl (by rw [hz2]; omega) (by unfold maxLen; omega) (Nat.le_refl _) ?_)
  intro w2 hown hg2
  have R0:RowR N w.heap.size w (fun _=>True) (rowsTo R 0) w2:=by
    rw [rowsTo_zero,HNN.out]
    exact RowR.made (by simpa using hown) hg2 trivial
  have hC:Steady w.heap.size (fun _=>True):=⟨fun _ _=>trivial,fun _ _ _=>trivial⟩
  have HC:Hid (Steady w.heap.size (fun _=>True)):=hC
  have HR0:Hid (RowR N w.heap.size w (fun _=>True) (rowsTo R 0) w2):=R0
  have HSB:Hid (∀ W,Below w.heap.size w W→SetsB G m bs R W):=fun W hb=>hS.but (But.of_below hb) (by have:=hS.lt; omega) (fun b hb'=>by have:=hS.blk b hb'; omega)
  have HTB:Hid (∀ W,Below w.heap.size w W→Tb W):=fun W hb=>hT.next hb
  have HWL:Hid (∀ s,s<N→∀ y∈listW (WR R s),i64B y):=fun s hs y hy=>by
    obtain ⟨k,hk,rfl⟩:=mem_listW.1 hy
    have h1:=bin_lt hk
    have h2:=(hS.each s (by rw [HNN.out]; exact hs)).2.1
    unfold i64B
    omega
  clear hown hg2 R0 hS hT hC
  obtain ⟨H,hH⟩:∃ H,w.heap.size=H:=⟨_,rfl⟩
  have HHH:Hid (H=w.heap.size):=hH.symm
  rw [hH] at HC HR0 HSB HTB ⊢
  clear hH
  go_wp2_with fail
  go_loopw [11] (fun i wr=>∃ (j:Nat),i=.int .i64 j∧j≤N∧RowR N H w (fun _=>True) (rowsTo R j) wr) (fun i _=>N - (intOf i).toNat)
  case atStart=>exact ⟨0,rfl,Nat.zero_le _,HR0.out⟩
  case round =>
  clear HR0
  obtain ⟨j,rfl,hj,hR⟩:=hrel
  by_cases hlt:j<N
  · have hs:=HSB.out _ hR.below
    have hjR:j<R.length:=by rw [HNN.out]; exact hlt
    have c1:=hs.cell hjR
    have HCA:=list_any _ _ m wr (hs.each j hjR) hm (HTB.out _ hR.below)
    have hGl:=hs.lt
    have hHl:=hR.lt
    obtain ⟨v0,hv0,_,_⟩:=hR.get hlt
    have hfz:=hR.frozen j
    have HST:Hid (∀ W v,Own1 3 encI wr.heap.size (listW (WR R j)) v W→Below wr.heap.size wr W→RowR N H w (fun _=>True) (rowsTo R (j+1)) (W.setCell ⟨H,j,none⟩ v)):=fun W v ho hb=>by
      rw [rowsTo_succ]
      refine (hR.next HC.out HHH.out hb).store HC.out hlt (sli_own ho (HWL.out j hlt)) ?_
      obtain ⟨ao,cap,rfl,_,_,_,h⟩:=ho.at_
      intro ad n c e
      cases e
      rcases h with h | ⟨g,h,hg,_⟩
      · cases h
      · cases h; simp only; omega
    generalize bs.getD j 0=c at *
    have HCA':Hid (Calls Tryz.prog 96 #[.slice (some ⟨c,0,none⟩) m m] wr fun e w'=>∃ v,e=.returned v∧Own1 3 encI wr.heap.size (listW (WR R j)) v w'∧Below wr.heap.size wr w'):=HCA
    clear HCA hs hR hjR
    go_wp2_with fail
    refine HCA'.out.mono ?_
    rintro e w3 ⟨v,rfl,ho,hb3⟩
    have HF:=HST.out w3 v ho hb3
    obtain ⟨va,vc,rfl⟩:=slice_of_own ho
    have c3:=(hb3.cell (p:=⟨H,j,none⟩) hHl).trans hv0
    have f3:=(hb3.frozen (p:=⟨H,j,none⟩) hHl).trans hfz
    have HF':Hid (RowR N H w (fun _=>True) (rowsTo R (j+1)) (w3.setCell ⟨H,j,none⟩ (.slice va (listW (WR R j)).length vc))):=HF
    generalize (listW (WR R j)).length=n at *
    clear HST HCA' ho hb3 HF hv0 hfz c1
    go_wp2_with fail
    exact ⟨⟨j+1,by go_num,by omega,HF'.out⟩,by simp [intOf]; omega⟩
  · obtain rfl:j=N:=by omega
    have HF:Hid (SlR (R.map listW) (.slice (some ⟨H,0,none⟩) j j) wr∧Below w.heap.size w wr):=by
      have h1:=hR.slR
      rw [show rowsTo R j=R.map listW by rw [← HNN.out]; exact rowsTo_all R] at h1
      exact ⟨h1,by rw [← HHH.out]; exact hR.below⟩
    clear hR
    go_wp2_with fail
    go_ret
    exact ⟨_,rfl,HF.out.1,HF.out.2⟩
set_option maxRecDepth 100000 in
set_option maxHeartbeats 1000000 in
theorem first_any (f:Fl) (a:FlA) (w:World) (hf:FlAt f a w) (hp:FitP f) (hT:Tb w) :
    Calls Tryz.prog 56 #[a.val f] w fun e w'=>∃ v R,e=.returned v∧GivesR (FstP f) f.n R∧SlR R v w'∧Below w.heap.size w w':=by
  have HSO:Hid (∀ W,Below w.heap.size w W→Calls Tryz.prog 73 #[a.val f] W fun e w'=>e=.returned (.bool true)∧Below W.heap.size W w'):=fun W hb=>sound_any f a W (hf.next hb) hp
  have HVO:Hid (∀ W,Below w.heap.size w W→Calls Tryz.prog 76 #[a.val f] W fun e w'=>∃ V E G bs L R,e=.returned (.pointer (some ⟨V,0,none⟩))∧VOk f a (f.terms.length / 64+1) W V E G bs L R w'∧GivesB (fun s=>false=true∧s<f.terms.length) f.gr f.n L∧StW f (f.terms.length / 64+1) R∧∀ q∈f.gr,ClosF f R q):=fun W hb=>viewOf_any f a W (hf.next hb) hp
  have X0:=FBox.new f a 50 w
  have B0:Below w.heap.size w (w.alloc (fobj f a 50)):=(Below.refl _ _).alloc (Nat.le_refl _) _
  have hm20:f.terms.length / 64+1≤20:=by have:=hp.size; omega
  have hn:f.n≤600:=hp.size
  obtain ⟨ta,tc,na,nc,pa,pc⟩:=a
  unfold fobj at X0 B0
  unfold FlA.val at HSO HVO ⊢
  simp only at *
  clear hf hp
  go_enter Tryz.func56,Tryz.ntmps56
  go_wp2_with fail
  generalize (w.alloc (Obj.cells #[Value.slice ta f.terms.length tc,Value.slice na f.nons.length nc,Value.slice pa f.prods.length pc] 50))=W1 at *
  refine (HSO.out _ B0).mono ?_
  rintro e w1 ⟨rfl,hb1⟩
  have X1:=X0.next hb1
  have B1:=below_then B0 hb1 B0.size
  obtain ⟨x0,x1,x2,x3⟩:=X1
  simp only at x1 x2 x3
  clear X0 B0 hb1 HSO
  go_wp2_with fail
  refine (HVO.out _ B1).mono ?_
  rintro e w2 ⟨V,E,G,bs,L,R,rfl,hV,-,hR,hc⟩
  have B2:=below_then B1 hV.below B1.size
  have hRl:R.length=f.n:=hR.ok.len
  have v4:=hV.v.c4
  have HGI:Hid (GivesR (FstP f) f.n (R.map listW)):=hR.gives hc
  have HLI:=lists_any G _ bs R w2 hV.s hm20 (by omega) (hT.next B2)
  rw [hRl] at HLI
  clear HVO B1 hV hR hc x0 x1 x2 x3 hT
  go_wp2_with fail
  refine HLI.mono ?_
  rintro e w3 ⟨v,rfl,g1,g2⟩
  obtain ⟨ao,cap,rfl,g4⟩:=g1
  have e2:(R.map listW).length=f.n:=by rw [List.length_map]; exact hRl
  rw [e2] at g4 ⊢
  have HF:Hid (SlR (R.map listW) (.slice ao f.n cap) w3∧Below w.heap.size w w3):=⟨⟨ao,cap,by rw [e2],by rw [e2]; exact g4⟩,below_then B2 g2 B2.size⟩
  clear g2 B2 v4 HLI
  go_wp2_with fail
  go_ret
  exact ⟨_,_,rfl,HGI.out,HF.out.1,HF.out.2⟩
def OwnLI (B:Nat) (R:List (List Int)) (v:Value) (W:World):Prop :=
  ∃ hv:List Value,hv.length=R.length∧QRow (fun k=>B≤k∧inB v k) 1 v R.length hv W ∧
    ∀ (i:Nat) (l:List Int) (u:Value),R[i]?=some l→hv[i]?=some u→SlI l u W∧∀ ad n c,u=.slice (some ad) n c→B≤ad.block∧(l≠[]→¬ inB v ad.block)
theorem SlI.lt {l:List Int} {ad:Addr} {n c:Nat} {W:World} (h:SlI l (.slice (some ad) n c) W) (hl:l≠[]):ad.block<W.heap.size:=by
  obtain ⟨ao,cap,h0,h1,_⟩:=h
  cases h0
  obtain ⟨x,l',rfl⟩:=List.exists_cons_of_ne_nil hl
  obtain ⟨b,off,e,hb,_⟩:=h1 0 x rfl
  cases e; exact hb
theorem OwnLI.nil (B:Nat) (W:World):OwnLI B [] (.slice none 0 0) W:=⟨[],rfl,QRow.nil _ _ _,fun i l u h=>by simp at h⟩
theorem OwnLI.but {B:Nat} {D:Nat→Prop} {R:List (List Int)} {v:Value} {W W':World} (h:OwnLI B R v W) (hb:But D W W') (hd:∀ k,D k→k<W.heap.size→k<B):OwnLI B R v W':=by
  obtain ⟨hv,h0,h1,h2⟩:=h
  have hb':But (fun k=>D k∧k<W.heap.size) W W':=hb.mono (fun k hk h=>⟨h,hk⟩)
  refine ⟨hv,h0,h1.but hb' (fun k hk hd'=>?_),fun i l u hl hu=>⟨(h2 i l u hl hu).1.but hb' (fun ad n c e hne hd'=>?_),(h2 i l u hl hu).2⟩⟩
  · have:=hd k hd'.1 hd'.2; have:=hk.1; omega
  · have:=hd _ hd'.1 hd'.2; have:=((h2 i l u hl hu).2 ad n c e).1; omega
theorem OwnLI.next {B:Nat} {R:List (List Int)} {v:Value} {W W':World} (h:OwnLI B R v W) (hb:Below W.heap.size W W'):OwnLI B R v W' :=
  h.but (D:=fun _=>False) (But.of_next hb) (fun _ h=>h.elim)
theorem OwnLI.shape {B:Nat} {R:List (List Int)} {v:Value} {W:World} (h:OwnLI B R v W):∃ ao cap,v=.slice ao R.length cap:=by
  obtain ⟨hv,h0,h1,h2⟩:=h
  exact h1.shape
theorem OwnLI.sl {B:Nat} {R:List (List Int)} {v:Value} {W:World} (h:OwnLI B R v W):SlR R v W:=by
  obtain ⟨hv,h0,⟨ao,b,off,cap,rfl,hc,_⟩,h2⟩:=h
  refine ⟨ao,cap,rfl,fun i l hl=>?_,fun hn=>?_,hc.le⟩
  · have hi:i<R.length:=(List.getElem?_eq_some_iff.1 hl).1
    have hcp:0<cap:=by have:=hc.le; omega
    have hu:hv[i]?=some hv[i]:=by simp [h0,hi]
    exact ⟨b,off,hv[i],hc.addr hcp,hc.lt hcp,hc.olds i _ hu,(h2 i l _ hl hu).1⟩
  · rcases Nat.eq_zero_or_pos cap with h | h
    · exact h
    · rw [hn] at hc; have:=hc.addr h; cases this
theorem OwnLI.inLt {B:Nat} {R:List (List Int)} {v:Value} {W:World} {k:Nat} (h:OwnLI B R v W) (hk:inB v k):k<W.heap.size:=by
  obtain ⟨off,n,c,e,hz⟩:=hk
  obtain ⟨hv,h0,⟨ao,b,off',cap,e',hc,_⟩,h2⟩:=h
  rw [e] at e'; cases e'
  have h3:=hc.addr hz
  cases h3
  exact hc.lt hz
theorem OwnLI.grow {B:Nat} {R:List (List Int)} {v lv:Value} {l:List Int} {W:World} (h:OwnLI B R v W) (hB:B≤W.heap.size) (hl:SlI l lv W) (ha:∀ ad n c,lv=.slice (some ad) n c→B≤ad.block∧(l≠[]→¬ inB v ad.block)) :
    ∃ (hv:List Value) (D:Nat→Prop),QRow D 1 v R.length hv W∧(∀ k,W.heap.size≤k→D k)∧(∀ k,D k→B≤k)∧∀ v' W',QRow D 1 v' (R.length+1) (hv++[lv]) W'→But D W W'→OwnLI B (R++[l]) v' W':=by
  obtain ⟨hv,h0,h1,h2⟩:=h
  refine ⟨hv,fun k=>(B≤k∧inB v k)∨W.heap.size≤k,h1.mono (fun k _ hk=>.inl hk),fun k hk=>.inr hk,fun k hk=>?_,fun v' W' hq hb=>⟨hv++[lv],by simp [h0],?_,?_⟩⟩
  · rcases hk with h | h
    · exact h.1
    · exact Nat.le_trans hB h
  · have:=hq.exact.mono (E:=fun k=>B≤k∧inB v' k) (fun k _ hk=>⟨?_,hk.2.1⟩)
    · simpa using this
    · rcases hk.1 with h | h
      · exact h.1
      · exact Nat.le_trans hB h
  · have hnew:∀ k,inB v' k→(B≤k∧inB v k)∨W.heap.size≤k:=by
      intro k hk
      obtain ⟨ao,b,off,cap,e,hc,hD⟩:=hq
      obtain ⟨off',n',c',e',_⟩:=hk
      have hcp:0<cap:=by have:=hc.le; omega
      rw [e,hc.addr hcp] at e'
      cases e'
      exact hD hcp
    intro i l' u hl' hu
    have key:SlI l' u W∧∀ ad n c,u=.slice (some ad) n c→B≤ad.block∧(l'≠[]→¬ inB v ad.block):=by
      rcases Nat.lt_or_ge i R.length with hi | hi
      · rw [List.getElem?_append_left hi] at hl'
        rw [List.getElem?_append_left (by omega)] at hu
        exact h2 i l' u hl' hu
      · rw [List.getElem?_append_right hi] at hl'
        rw [List.getElem?_append_right (by omega),h0] at hu
        rcases hj:i - R.length with _ | j
        · rw [hj] at hl' hu; simp at hl' hu; subst hl' hu; exact ⟨hl,ha⟩
        · rw [hj] at hl'; simp at hl'
    have kd:∀ ad n c,u=.slice (some ad) n c→l'≠[]→¬ ((B≤ad.block∧inB v ad.block)∨W.heap.size≤ad.block):=fun ad n c e hne hd=>by
      rcases hd with hd | hd
      · exact (key.2 ad n c e).2 hne hd.2
      · have:=(e ▸ key.1:SlI l' (.slice (some ad) n c) W).lt hne; omega
    exact ⟨key.1.but hb kd,fun ad n c e=>⟨(key.2 ad n c e).1,fun hne hin=>kd ad n c e hne (hnew _ hin)⟩⟩
def NoP:Nat→Prop:=fun _=>False
theorem bases_no {f:Fl}:(fun s=>false=true∧s<f.terms.length)=NoP:=by funext s; simp [NoP]
set_option maxHeartbeats 1000000 in
theorem empty_any (f:Fl) (a:FlA) (w:World) (hf:FlAt f a w) (hp:FitP f) :
    Calls Tryz.prog 55 #[a.val f] w fun e w'=>∃ v L,e=.returned v∧GivesB NoP f.gr f.n L∧SlB L v w'∧Below w.heap.size w w':=by
  have HSO:Hid (∀ W,Below w.heap.size w W→Calls Tryz.prog 73 #[a.val f] W fun e w'=>e=.returned (.bool true)∧Below W.heap.size W w'):=fun W hb=>sound_any f a W (hf.next hb) hp
  have HDE:Hid (∀ W,Below w.heap.size w W→Calls Tryz.prog 74 #[a.val f,.bool false] W fun e w'=>∃ G L,e=.returned (.slice (some ⟨G,0,none⟩) f.n f.n)∧(GivesB NoP f.gr f.n L∧SlB L (.slice (some ⟨G,0,none⟩) f.n f.n) w')∧Below W.heap.size W w'):=fun W hb=>by
    refine (derived_any f a false W (hf.next hb) hp).mono ?_
    rintro e w' ⟨G,L,rfl,_,h1,h2,h3⟩
    rw [bases_no] at h2
    exact ⟨G,L,rfl,⟨h2,h1.slB⟩,h3⟩
  have X0:=FBox.new f a 50 w
  have B0:Below w.heap.size w (w.alloc (fobj f a 50)):=(Below.refl _ _).alloc (Nat.le_refl _) _
  obtain ⟨ta,tc,na,nc,pa,pc⟩:=a
  unfold fobj at X0 B0
  unfold FlA.val at HSO HDE ⊢
  simp only at *
  clear hf hp
  go_enter Tryz.func55,Tryz.ntmps55
  go_wp2_with fail
  try generalize (w.alloc (Obj.cells #[Value.slice ta f.terms.length tc,Value.slice na f.nons.length nc,Value.slice pa f.prods.length pc] 50))=W1 at *
  refine (HSO.out _ B0).mono ?_
  rintro e w1 ⟨rfl,hb1⟩
  have X1:=X0.next hb1
  have B1:=below_then B0 hb1 B0.size
  obtain ⟨x0,x1,x2,x3⟩:=X1
  simp only at x1 x2 x3
  clear X0 B0 hb1 HSO
  go_wp2_with fail
  refine (HDE.out _ B1).mono ?_
  rintro e w2 ⟨G,L,rfl,g1,g2⟩
  have HF:Hid ((GivesB NoP f.gr f.n L∧SlB L (.slice (some ⟨G,0,none⟩) f.n f.n) w2)∧Below w.heap.size w w2):=⟨g1,below_then B1 g2 B1.size⟩
  clear g1 g2 HDE x0 x1 x2 x3
  go_wp2_with fail
  go_ret
  exact ⟨_,L,rfl,HF.out.1.1,HF.out.1.2,HF.out.2⟩
def ofsL (f:Fl) (j:Nat):List (List Int):=(List.range j).map fun (s:Nat)=>ofA f (s:Int)
theorem ofsL_succ (f:Fl) (j:Nat):ofsL f (j+1)=ofsL f j++[ofA f (j:Int)]:=by unfold ofsL; rw [List.range_succ,List.map_append]; rfl
theorem ofsL_len (f:Fl) (j:Nat):(ofsL f j).length=j:=by simp [ofsL]
def VwAt (f:Fl) (a:FlA) (V:Nat) (Le:List Bool) (R:List (List Int)) (W:World):Prop :=
  FBox f a V W∧∃ ve vf vp,W.cell? ⟨V,3,none⟩=some ve∧W.cell? ⟨V,4,none⟩=some vf∧W.cell? ⟨V,5,none⟩=some vp∧SlB Le ve W∧SlR R vf W∧SlR (ofsL f f.n) vp W
theorem VwAt.next {f:Fl} {a:FlA} {V:Nat} {Le:List Bool} {R:List (List Int)} {W W':World} (h:VwAt f a V Le R W) (hb:Below W.heap.size W W'):VwAt f a V Le R W':=by
  obtain ⟨h0,ve,vf,vp,h1,h2,h3,h4,h5,h6⟩:=h
  have hv:=h0.1
  exact ⟨h0.next hb,ve,vf,vp,(hb.cell (p:=⟨V,3,none⟩) hv).trans h1,(hb.cell (p:=⟨V,4,none⟩) hv).trans h2,(hb.cell (p:=⟨V,5,none⟩) hv).trans h3,h4.next hb,h5.next hb,h6.next hb⟩
def Viewed (f:Fl) (a:FlA) (w:World) (e:Ending) (w':World):Prop:=∃ V Le R,e=.returned (.pointer (some ⟨V,0,none⟩))∧w.heap.size≤V∧GivesB NoP f.gr f.n Le∧GivesR (FstP f) f.n R∧VwAt f a V Le R w'∧Below w.heap.size w w'
theorem infoSI:(Tryz.prog.info? 39).map (fun i=>(i.zero,i.size,i.bytes))=some (some (.slice none 0 0),1,24):=by kernel_rfl
set_option maxRecDepth 100000 in
set_option maxHeartbeats 2000000 in
theorem iview_any (f:Fl) (a:FlA) (w:World) (hf:FlAt f a w) (hp:FitP f) (hT:Tb w) :
    Calls Tryz.prog 35 #[a.val f] w fun e w'=>Viewed f a w e w':=by
  have hn:f.n≤600:=hp.size
  obtain ⟨i0,hi0,hz0,hz1,hz2⟩:=info_parts infoSI
  have HEM:Hid (∀ W,Below w.heap.size w W→Calls Tryz.prog 55 #[a.val f] W fun e w'=>∃ v L,e=.returned v∧GivesB NoP f.gr f.n L∧SlB L v w'∧Below W.heap.size W w'):=fun W hb=>empty_any f a W (hf.next hb) hp
  have HFI:Hid (∀ W,Below w.heap.size w W→Calls Tryz.prog 56 #[a.val f] W fun e w'=>∃ v R,e=.returned v∧GivesR (FstP f) f.n R∧SlR R v w'∧Below W.heap.size W w'):=fun W hb=>first_any f a W (hf.next hb) hp (hT.next hb)
  have HOF:Hid (∀ (s:Int) (W:World),Below w.heap.size w W→Calls Tryz.prog 57 #[a.val f,.int .i64 s] W fun e w'=>∃ v,e=.returned v∧SlI (ofA f s) v w'∧Apart W.heap.size v∧Below W.heap.size W w'):=fun s W hb=>of_any f a s W (hf.next hb) (by have:=hp.prods; omega)
  obtain ⟨ta,tc,na,nc,pa,pc⟩:=a
  have X0:=FBox.new f ⟨ta,tc,na,nc,pa,pc⟩ 50 w
  have B0:Below w.heap.size w (w.alloc (fobj f ⟨ta,tc,na,nc,pa,pc⟩ 50)):=(Below.refl _ _).alloc (Nat.le_refl _) _
  unfold fobj at X0 B0
  unfold FlA.val at HEM HFI HOF ⊢
  have hn2:f.terms.length+f.nons.length≤600:=hn
  have HN:Hid (f.n=f.terms.length+f.nons.length):=rfl
  simp only at *
  clear hf hp hn hT
  go_enter Tryz.func35,Tryz.ntmps35
  go_wp2_with fail
  generalize w.alloc (Obj.cells #[Value.slice ta f.terms.length tc,Value.slice na f.nons.length nc,Value.slice pa f.prods.length pc] 50)=w0 at *
  have HX:Hid (∀ W,Below w0.heap.size w0 W→FBox f ⟨ta,tc,na,nc,pa,pc⟩ w.heap.size W):=fun W hb=>X0.next hb
  have HB:Hid (∀ W,Below w0.heap.size w0 W→Below w.heap.size w W):=fun W hb=>below_then B0 hb B0.size
  have hszw:w.heap.size<w0.heap.size:=X0.1
  clear X0 B0
  have HSI:Hid (∀ W,Below w0.heap.size w0 W→(W.cell? ⟨w.heap.size,0,none⟩=some (.slice ta f.terms.length tc)∧W.cell? ⟨w.heap.size,1,none⟩=some (.slice na f.nons.length nc)∧W.cell? ⟨w.heap.size,2,none⟩=some (.slice pa f.prods.length pc)∧Below w0.heap.size w0 W)):=fun W hb=>by
    obtain ⟨_,k0,k1,k2⟩:=HX.out _ hb
    exact ⟨k0,k1,k2,hb⟩
  have HS0:=HSI.out _ (Below.refl _ _).drew
  have HEM1:=HEM.out w0.drew (HB.out _ (Below.refl _ _).drew)
  refine wp_region_L (fun W=>W.cell? ⟨w.heap.size,0,none⟩=some (.slice ta f.terms.length tc)∧W.cell? ⟨w.heap.size,1,none⟩=some (.slice na f.nons.length nc)∧W.cell? ⟨w.heap.size,2,none⟩=some (.slice pa f.prods.length pc)∧Below w0.heap.size w0 W) 8 (by kernel_rfl) 8 rfl ?_
  refine tk 0 ⟨some 5,.load 50 (.tmp 1),50, "view.go:18",#[],none⟩ HS0 ?_;simp only [Act.put,sA,s0,sS]
  refine tk 1 ⟨some 6,.load 50 (.tmp 1),50, "view.go:18",#[],none⟩ HS0 ?_;simp only [Act.put,sA,s0,sS]
  refine tk 3 ⟨some 8,.load 50 (.tmp 1),50, "view.go:18",#[],none⟩ HS0 ?_;simp only [Act.put,sA,s0,sS]
  refine wpAnyL_one' (i:=2) (o:=⟨some 7,.call ⟨.value (.func 55),#[.tmp 6],#[50]⟩,128, "view.go:18",#[⟨1,.data⟩],none⟩) (by kernel_rfl) rfl rfl (fun K hK=>?_)
  go_simp
  refine HEM1.mono ?_
  rintro e W1 ⟨ve,Le,rfl,hLe,hse,hb1⟩
  have B1:Below w0.heap.size w0 W1:=below_then (Below.refl _ _).drew hb1 (Nat.le_refl _)
  have hS1:=HSI.out _ B1
  refine hK.out _ _ (fun _=>hS1) ?_
  clear hK HEM1
  obtain ⟨ea,ec,rfl,_⟩:=id hse
  have HSE:Hid (SlB Le (.slice ea Le.length ec) W1):=hse
  have HLE:Hid (GivesB NoP f.gr f.n Le):=hLe
  clear hse hLe hb1
  have HFI1:=HFI.out W1 (HB.out _ B1)
  refine wpAnyL_one' (i:=4) (o:=⟨some 9,.call ⟨.value (.func 56),#[.tmp 8],#[50]⟩,130, "view.go:18",#[⟨3,.data⟩,⟨2,.chain⟩],none⟩) (by kernel_rfl) rfl rfl (fun K hK=>?_)
  go_simp
  refine HFI1.mono ?_
  rintro e W2 ⟨vf,R,rfl,hR,hsr,hb2⟩
  have B2:Below w0.heap.size w0 W2:=below_then B1 hb2 B1.size
  have hS2:=HSI.out _ B2
  refine hK.out _ _ (fun _=>hS2) ?_
  clear hK HFI1
  obtain ⟨fa,fc,rfl,_⟩:=id hsr
  have HSR:Hid (SlR R (.slice fa R.length fc) W2):=hsr
  have HRR:Hid (GivesR (FstP f) f.n R):=hR
  have HSE2:Hid (SlB Le (.slice ea Le.length ec) W2):=HSE.out.next hb2
  clear hsr hR hb2 HSE
  refine tk 5 ⟨some 10,.build 133 #[(0,.tmp 5),(1,.tmp 7),(2,.tmp 9)],133, "view.go:18",#[⟨0,.data⟩,⟨2,.data⟩,⟨4,.data⟩],none⟩ hS2 ?_;simp only [Act.put,sA,s0,sS]
  refine wpAnyL_one' (i:=6) (o:=⟨some 11,.box 133 (.tmp 10),99, "view.go:18",#[⟨5,.data⟩],none⟩) (by kernel_rfl) rfl rfl (fun K hK=>?_)
  go_simp
  have B3:Below w0.heap.size w0 (W2.alloc (Obj.cells #[.slice ta f.terms.length tc,.slice na f.nons.length nc,.slice pa f.prods.length pc,.slice ea Le.length ec,.slice fa R.length fc,.slice none 0 0] 133)):=B2.alloc B2.size _
  refine hK.out _ _ (fun _=>HSI.out _ B3) ?_
  clear hK
  refine wpAnyL_take' (i:=7) (v:=?_) (oi:=⟨some 3,.assign (.tmp 11),99, "view.go:18",#[⟨6,.data⟩,⟨4,.chain⟩,⟨0,.phase⟩,⟨1,.phase⟩,⟨2,.phase⟩,⟨3,.phase⟩,⟨4,.phase⟩,⟨5,.phase⟩,⟨6,.phase⟩],none⟩) rfl (by kernel_rfl) (by kernel_rfl) (by kernel_rfl) (by kernel_rfl) rfl (fun _ _ _ h=>h) (Or.inl ⟨by rfl,?_⟩) (HSI.out _ B3) ?_
  rotate_left
  · intro W hSW
    go_simp
    try with_reducible rfl
  simp only [Act.put,sA,s0,sS]
  refine wpAnyL_done (by kernel_rfl) ?_ _
  have HVC:Hid (W2.heap.size<(W2.alloc (Obj.cells #[.slice ta f.terms.length tc,.slice na f.nons.length nc,.slice pa f.prods.length pc,.slice ea Le.length ec,.slice fa R.length fc,.slice none 0 0] 133)).heap.size∧((W2.alloc (Obj.cells #[.slice ta f.terms.length tc,.slice na f.nons.length nc,.slice pa f.prods.length pc,.slice ea Le.length ec,.slice fa R.length fc,.slice none 0 0] 133)).cell? ⟨W2.heap.size,0,none⟩=some (.slice ta f.terms.length tc)∧(W2.alloc (Obj.cells #[.slice ta f.terms.length tc,.slice na f.nons.length nc,.slice pa f.prods.length pc,.slice ea Le.length ec,.slice fa R.length fc,.slice none 0 0] 133)).cell? ⟨W2.heap.size,1,none⟩=some (.slice na f.nons.length nc)∧(W2.alloc (Obj.cells #[.slice ta f.terms.length tc,.slice na f.nons.length nc,.slice pa f.prods.length pc,.slice ea Le.length ec,.slice fa R.length fc,.slice none 0 0] 133)).cell? ⟨W2.heap.size,2,none⟩=some (.slice pa f.prods.length pc)∧(W2.alloc (Obj.cells #[.slice ta f.terms.length tc,.slice na f.nons.length nc,.slice pa f.prods.length pc,.slice ea Le.length ec,.slice fa R.length fc,.slice none 0 0] 133)).cell? ⟨W2.heap.size,3,none⟩=some (.slice ea Le.length ec)∧(W2.alloc (Obj.cells #[.slice ta f.terms.length tc,.slice na f.nons.length nc,.slice pa f.prods.length pc,.slice ea Le.length ec,.slice fa R.length fc,.slice none 0 0] 133)).cell? ⟨W2.heap.size,4,none⟩=some (.slice fa R.length fc))∧(W2.alloc (Obj.cells #[.slice ta f.terms.length tc,.slice na f.nons.length nc,.slice pa f.prods.length pc,.slice ea Le.length ec,.slice fa R.length fc,.slice none 0 0] 133)).cell? ⟨W2.heap.size,5,none⟩=some (.slice none 0 0)∧(W2.alloc (Obj.cells #[.slice ta f.terms.length tc,.slice na f.nons.length nc,.slice pa f.prods.length pc,.slice ea Le.length ec,.slice fa R.length fc,.slice none 0 0] 133)).frozen? ⟨W2.heap.size,5,none⟩=false):=by
    refine ⟨?_,⟨?_,?_,?_,?_,?_⟩,?_,?_⟩ <;> simp
  have BV:Below W2.heap.size W2 (W2.alloc (Obj.cells #[.slice ta f.terms.length tc,.slice na f.nons.length nc,.slice pa f.prods.length pc,.slice ea Le.length ec,.slice fa R.length fc,.slice none 0 0] 133)):=(Below.refl _ _).alloc (Nat.le_refl _) _
  clear HS0 hS1 hS2 HEM HFI B1
  have hsz2:=B2.size
  have HST:Hid (∃ vp,(W2.alloc (Obj.cells #[.slice ta f.terms.length tc,.slice na f.nons.length nc,.slice pa f.prods.length pc,.slice ea Le.length ec,.slice fa R.length fc,.slice none 0 0] 133)).cell? ⟨W2.heap.size,5,none⟩=some vp∧(W2.alloc (Obj.cells #[.slice ta f.terms.length tc,.slice na f.nons.length nc,.slice pa f.prods.length pc,.slice ea Le.length ec,.slice fa R.length fc,.slice none 0 0] 133)).frozen? ⟨W2.heap.size,5,none⟩=false∧((W2.alloc (Obj.cells #[.slice ta f.terms.length tc,.slice na f.nons.length nc,.slice pa f.prods.length pc,.slice ea Le.length ec,.slice fa R.length fc,.slice none 0 0] 133)).cell? ⟨W2.heap.size,0,none⟩=some (.slice ta f.terms.length tc)∧(W2.alloc (Obj.cells #[.slice ta f.terms.length tc,.slice na f.nons.length nc,.slice pa f.prods.length pc,.slice ea Le.length ec,.slice fa R.length fc,.slice none 0 0] 133)).cell? ⟨W2.heap.size,1,none⟩=some (.slice na f.nons.length nc)∧(W2.alloc (Obj.cells #[.slice ta f.terms.length tc,.slice na f.nons.length nc,.slice pa f.prods.length pc,.slice ea Le.length ec,.slice fa R.length fc,.slice none 0 0] 133)).cell? ⟨W2.heap.size,2,none⟩=some (.slice pa f.prods.length pc)∧(W2.alloc (Obj.cells #[.slice ta f.terms.length tc,.slice na f.nons.length nc,.slice pa f.prods.length pc,.slice ea Le.length ec,.slice fa R.length fc,.slice none 0 0] 133)).cell? ⟨W2.heap.size,3,none⟩=some (.slice ea Le.length ec)∧(W2.alloc (Obj.cells #[.slice ta f.terms.length tc,.slice na f.nons.length nc,.slice pa f.prods.length pc,.slice ea Le.length ec,.slice fa R.length fc,.slice none 0 0] 133)).cell? ⟨W2.heap.size,4,none⟩=some (.slice fa R.length fc))∧W2.heap.size<(W2.alloc (Obj.cells #[.slice ta f.terms.length tc,.slice na f.nons.length nc,.slice pa f.prods.length pc,.slice ea Le.length ec,.slice fa R.length fc,.slice none 0 0] 133)).heap.size∧OwnLI (W2.heap.size+1) (ofsL f 0) vp (W2.alloc (Obj.cells #[.slice ta f.terms.length tc,.slice na f.nons.length nc,.slice pa f.prods.length pc,.slice ea Le.length ec,.slice fa R.length fc,.slice none 0 0] 133))∧Below W2.heap.size W2 (W2.alloc (Obj.cells #[.slice ta f.terms.length tc,.slice na f.nons.length nc,.slice pa f.prods.length pc,.slice ea Le.length ec,.slice fa R.length fc,.slice none 0 0] 133))):=⟨_,HVC.out.2.2.1,HVC.out.2.2.2,HVC.out.2.1,HVC.out.1,OwnLI.nil _ _,BV⟩
  have B4:Below w0.heap.size w0 (W2.alloc (Obj.cells #[.slice ta f.terms.length tc,.slice na f.nons.length nc,.slice pa f.prods.length pc,.slice ea Le.length ec,.slice fa R.length fc,.slice none 0 0] 133)):=below_then B2 BV hsz2
  obtain ⟨_,k0,k1,k2⟩:=HX.out _ B4
  simp only at k0 k1 k2
  clear HVC BV B4
  generalize (W2.alloc (Obj.cells #[.slice ta f.terms.length tc,.slice na f.nons.length nc,.slice pa f.prods.length pc,.slice ea Le.length ec,.slice fa R.length fc,.slice none 0 0] 133))=W4 at *
  obtain ⟨V,hV⟩:∃ V,W2.heap.size=V:=⟨_,rfl⟩
  have HV:Hid (W2.heap.size=V):=hV
  rw [hV] at HST hsz2 ⊢
  clear hV
  have hwV:w.heap.size<V:=by omega
  have HBW:Hid (∀ W,Below V W2 W→Below w0.heap.size w0 W):=fun W hb=>by rw [← HV.out] at hb; exact below_then B2 hb B2.size
  clear B3 B2
  go_wp2_with fail
  go_loopw [19] (fun i wr=>∃ (j:Nat) (vp:Value),i=.int .i64 j∧j≤f.n∧wr.cell? ⟨V,5,none⟩=some vp∧wr.frozen? ⟨V,5,none⟩=false∧(wr.cell? ⟨V,0,none⟩=some (.slice ta f.terms.length tc)∧wr.cell? ⟨V,1,none⟩=some (.slice na f.nons.length nc)∧wr.cell? ⟨V,2,none⟩=some (.slice pa f.prods.length pc)∧wr.cell? ⟨V,3,none⟩=some (.slice ea Le.length ec)∧wr.cell? ⟨V,4,none⟩=some (.slice fa R.length fc))∧V<wr.heap.size∧OwnLI (V+1) (ofsL f j) vp wr∧Below V W2 wr) (fun i _=>f.n - (intOf i).toNat)
  case atStart =>
    obtain ⟨vp,h⟩:=HST.out
    exact ⟨0,vp,rfl,Nat.zero_le _,h⟩
  case round =>
  clear HST k0 k1 k2
  obtain ⟨j,vp,rfl,hj,c5,fz,hVC,hVl,hO,B1⟩:=hrel
  obtain ⟨va,vc,rfl⟩:=hO.shape
  rw [ofsL_len] at c5 hO
  have hBw:=HBW.out _ B1
  obtain ⟨_,k0,k1,k2⟩:=HX.out _ hBw
  simp only at k0 k1 k2
  by_cases hlt:j<f.n
  case neg =>
    obtain rfl:j=f.n:=by omega
    have hnk:¬ ((f.n:Int)<(f.terms.length:Int)+f.nons.length):=by have:=HN.out; omega
    have HF:Hid (w.heap.size≤V∧GivesB NoP f.gr f.n Le∧GivesR (FstP f) f.n R∧VwAt f ⟨ta,tc,na,nc,pa,pc⟩ V Le R wr∧Below w.heap.size w wr) :=
      ⟨by omega,HLE.out,HRR.out,⟨⟨hVl,hVC.1,hVC.2.1,hVC.2.2.1⟩,_,_,_,hVC.2.2.2.1,hVC.2.2.2.2,c5,HSE2.out.next (by rw [HV.out]; exact B1),HSR.out.next (by rw [HV.out]; exact B1),by simpa [ofsL_len] using hO.sl⟩,HB.out _ hBw⟩
    clear hVC hO c5 k0 k1 k2
    go_wp2_with fail
    go_ret
    exact ⟨V,Le,R,rfl,HF.out⟩
  have hkn:(j:Int)<(f.terms.length:Int)+f.nons.length:=by have:=HN.out; omega
  have HVC:Hid (wr.cell? ⟨V,0,none⟩=some (.slice ta f.terms.length tc)∧wr.cell? ⟨V,1,none⟩=some (.slice na f.nons.length nc)∧wr.cell? ⟨V,2,none⟩=some (.slice pa f.prods.length pc)∧wr.cell? ⟨V,3,none⟩=some (.slice ea Le.length ec)∧wr.cell? ⟨V,4,none⟩=some (.slice fa R.length fc)):=hVC
  have HO:Hid (OwnLI (V+1) (ofsL f j) (.slice va j vc) wr):=hO
  have HSJ:Hid (∀ W,But (fun k=>V+1≤k) wr W→(W.cell? ⟨w.heap.size,0,none⟩=some (.slice ta f.terms.length tc)∧W.cell? ⟨w.heap.size,1,none⟩=some (.slice na f.nons.length nc)∧W.cell? ⟨w.heap.size,2,none⟩=some (.slice pa f.prods.length pc)∧W.cell? ⟨V,5,none⟩=some (.slice va j vc))):=fun W hb=>⟨(hb.cell (p:=⟨w.heap.size,0,none⟩) (by simp only; omega) (by simp only; omega)).trans k0,(hb.cell (p:=⟨w.heap.size,1,none⟩) (by simp only; omega) (by simp only; omega)).trans k1,(hb.cell (p:=⟨w.heap.size,2,none⟩) (by simp only; omega) (by simp only; omega)).trans k2,(hb.cell (p:=⟨V,5,none⟩) (by simp only; omega) (by simp only; omega)).trans c5⟩
  have HS0:=HSJ.out wr.drew (But.refl _ _).drew
  have HO1:=HOF.out (j:Int) wr.drew (HB.out _ hBw.drew)
  clear hVC hO
  go_wp2_with fail
  refine wp_region_L (fun W=>W.cell? ⟨w.heap.size,0,none⟩=some (.slice ta f.terms.length tc)∧W.cell? ⟨w.heap.size,1,none⟩=some (.slice na f.nons.length nc)∧W.cell? ⟨w.heap.size,2,none⟩=some (.slice pa f.prods.length pc)∧W.cell? ⟨V,5,none⟩=some (.slice va j vc)) 12 (by kernel_rfl) 13 rfl ?_
  refine tk 0 ⟨some 22,.move (.tmp 3),99, "view.go:20",#[],none⟩ HS0 ?_;simp only [Act.put,sA,s0,sS]
  refine tk 1 ⟨some 23,.move (.tmp 3),99, "view.go:20",#[],none⟩ HS0 ?_;simp only [Act.put,sA,s0,sS]
  refine tk 2 ⟨some 24,.nilCheck (.tmp 23),0, "view.go:20",#[⟨1,.data⟩],none⟩ HS0 ?_;simp only [Act.put,sA,s0,sS]
  refine tk 3 ⟨some 25,.fieldAddr 133 (.tmp 24) 3,0, "view.go:20",#[⟨2,.data⟩],none⟩ HS0 ?_;simp only [Act.put,sA,s0,sS]
  refine tk 4 ⟨some 26,.load 130 (.tmp 25),130, "view.go:20",#[⟨3,.data⟩],none⟩ HS0 ?_;simp only [Act.put,sA,s0,sS]
  refine tk 5 ⟨some 27,.load 50 (.tmp 1),50, "view.go:20",#[],none⟩ HS0 ?_;simp only [Act.put,sA,s0,sS]
  refine tk 6 ⟨some 28,.move (.tmp 4),3, "view.go:20",#[],none⟩ HS0 ?_;simp only [Act.put,sA,s0,sS]
  refine wpAnyL_one' (i:=7) (o:=⟨some 29,.call ⟨.value (.func 57),#[.tmp 27,.tmp 28],#[50,3]⟩,39, "view.go:20",#[⟨5,.data⟩,⟨6,.data⟩],none⟩) (by kernel_rfl) rfl rfl (fun K hK=>?_)
  go_simp
  refine HO1.mono ?_
  rintro e W5 ⟨uv,rfl,hu,hap,hb5⟩
  have Bw5:Below wr.heap.size wr W5:=below_then (Below.refl _ _).drew hb5 (Nat.le_refl _)
  have hS5:=HSJ.out _ (But.of_next Bw5)
  refine hK.out _ _ (fun _=>hS5) ?_
  clear hK HO1
  obtain ⟨ua,uc,rfl,_⟩:=id hu
  have hsz5:=Bw5.size
  have Bn:Below W5.heap.size W5 (W5.alloc (Obj.cells #[.slice ua (ofA f j).length uc] 39)):=(Below.refl _ _).alloc (Nat.le_refl _) _
  have Bw6:Below wr.heap.size wr (W5.alloc (Obj.cells #[.slice ua (ofA f j).length uc] 39)):=below_then Bw5 Bn hsz5
  have HO6:OwnLI (V+1) (ofsL f j) (.slice va j vc) (W5.alloc (Obj.cells #[.slice ua (ofA f j).length uc] 39)):=HO.out.next Bw6
  obtain ⟨hv,D,hQ,hD,hDB,hgrow⟩:=HO6.grow (by have:=Bw6.size; omega) (hu.next Bn) (fun ad n c e=>⟨by have h1:wr.heap.size≤ad.block:=hap ad n c e; omega,fun hne hin=>by have h1:wr.heap.size≤ad.block:=hap ad n c e; have h2:=HO.out.inLt hin; omega⟩)
  rw [ofsL_len] at hQ hgrow
  rw [← ofsL_succ] at hgrow
  have HQ:Hid (QRow D 1 (.slice va j vc) j hv (W5.alloc (Obj.cells #[.slice ua (ofA f j).length uc] 39))):=hQ
  have HD:Hid (∀ k,(W5.alloc (Obj.cells #[.slice ua (ofA f j).length uc] 39)).heap.size≤k→D k):=hD
  have HDB:Hid (∀ k,D k→V+1≤k):=hDB
  have HGR:Hid (∀ v' W',QRow D 1 v' (j+1) (hv++[.slice ua (ofA f j).length uc]) W'→But D (W5.alloc (Obj.cells #[.slice ua (ofA f j).length uc] 39)) W'→OwnLI (V+1) (ofsL f (j+1)) v' W'):=hgrow
  have HNW:Hid (∀ (q:Nat) (u:Value),[Value.slice ua (ofA f j).length uc][q]?=some u→(W5.alloc (Obj.cells #[.slice ua (ofA f j).length uc] 39)).cell? ((⟨W5.heap.size,0,none⟩:Addr).add q)=some u):=by
    intro q u hq
    rcases q with _ | q
    · simp at hq; subst hq; simp [Addr.add]
    · simp at hq
  clear hQ hD hDB hgrow HO6 hu hap hb5
  refine wpAnyL_one' (i:=8) (o:=⟨some 30,.buildSlice 130 1 #[(0,.tmp 29)],130, "view.go:20",#[⟨7,.data⟩],none⟩) (by kernel_rfl) rfl rfl (fun K hK=>?_)
  go_simp
  refine hK.out _ _ (fun _=>HSJ.out _ (But.of_next Bw6)) ?_
  clear hK
  refine wpAnyL_one' (i:=9) (o:=⟨some 31,.call ⟨.builtin .append,#[.tmp 26,.tmp 30],#[130,130]⟩,130, "view.go:20",#[⟨4,.data⟩,⟨8,.data⟩,⟨7,.chain⟩],none⟩) (by kernel_rfl) rfl rfl (fun K hK=>?_)
  rw [if_pos (by rfl)]
  refine wp_append_q (.tmp 26) (.tmp 30) 130 rfl 39 i0 _ 1 24 Tryz.underlying130 hi0 hz0 hz1 hz2 rfl (by decide) rfl HQ.out HD.out ⟨W5.heap.size,0,none⟩ 1 [.slice ua (ofA f j).length uc] rfl rfl HNW.out (by simp [Value.oneCell']) (by unfold maxLen; omega) (by omega) ?_
  intro v7 w7 hq7 hb7
  obtain ⟨qa7,qc7,rfl⟩:=hq7.shape
  have BT:But (fun k=>V+1≤k) wr w7:=(But.of_next Bw6).trans (hb7.mono (fun k _ h=>HDB.out k h))
  have hS7:=HSJ.out _ BT
  have fz7:w7.frozen? ⟨V,5,none⟩=false:=(BT.frozen (p:=⟨V,5,none⟩) hVl (by simp only; omega)).trans fz
  refine hK.out _ _ (fun _=>hS7) ?_
  clear hK
  simp only [Act.put,sA,s0,sS]
  refine wpAnyL_one' (i:=10) (o:=⟨some 32,.nilCheck (.tmp 22),0, "view.go:20",#[⟨0,.data⟩,⟨0,.phase⟩,⟨1,.phase⟩,⟨2,.phase⟩,⟨3,.phase⟩,⟨4,.phase⟩,⟨5,.phase⟩,⟨6,.phase⟩,⟨7,.phase⟩,⟨8,.phase⟩,⟨9,.phase⟩],none⟩) (by kernel_rfl) rfl rfl (fun K hK=>?_)
  go_simp
  refine hK.out _ _ (fun _=>hS7) ?_
  clear hK
  refine wpAnyL_one' (i:=11) (o:=⟨some 33,.fieldAddr 133 (.tmp 32) 3,0, "view.go:20",#[⟨10,.data⟩,⟨0,.phase⟩,⟨1,.phase⟩,⟨2,.phase⟩,⟨3,.phase⟩,⟨4,.phase⟩,⟨5,.phase⟩,⟨6,.phase⟩,⟨7,.phase⟩,⟨8,.phase⟩,⟨9,.phase⟩],none⟩) (by kernel_rfl) rfl rfl (fun K hK=>?_)
  go_simp
  refine hK.out _ _ (fun _=>hS7) ?_
  clear hK
  refine wpAnyL_one' (i:=12) (o:=⟨none,.store 130 (.tmp 33) (.tmp 31),0, "view.go:20",#[⟨11,.data⟩,⟨9,.data⟩,⟨9,.chain⟩,⟨0,.phase⟩,⟨1,.phase⟩,⟨2,.phase⟩,⟨3,.phase⟩,⟨4,.phase⟩,⟨5,.phase⟩,⟨6,.phase⟩,⟨7,.phase⟩,⟨8,.phase⟩,⟨9,.phase⟩],none⟩) (by kernel_rfl) rfl rfl (fun K hK=>?_)
  go_simp
  refine hK.out _ _ (fun h=>absurd h (by decide)) ?_
  clear hK
  refine wpAnyL_done (by kernel_rfl) ?_ _
  have BV7:Below V W2 w7:=(B1.trans (Bw6.mono (by omega))).trans (hb7.below (by have:=Bw6.size; omega) (fun k hk=>by have:=HDB.out k hk; omega))
  have hV7:V<w7.heap.size:=Nat.lt_of_lt_of_le hVl BT.size
  have HE:Hid ((w7.setCell ⟨V,5,none⟩ (.slice qa7 (j+1) qc7)).cell? ⟨V,5,none⟩=some (.slice qa7 (j+1) qc7)∧(w7.setCell ⟨V,5,none⟩ (.slice qa7 (j+1) qc7)).frozen? ⟨V,5,none⟩=false∧((w7.setCell ⟨V,5,none⟩ (.slice qa7 (j+1) qc7)).cell? ⟨V,0,none⟩=some (.slice ta f.terms.length tc)∧(w7.setCell ⟨V,5,none⟩ (.slice qa7 (j+1) qc7)).cell? ⟨V,1,none⟩=some (.slice na f.nons.length nc)∧(w7.setCell ⟨V,5,none⟩ (.slice qa7 (j+1) qc7)).cell? ⟨V,2,none⟩=some (.slice pa f.prods.length pc)∧(w7.setCell ⟨V,5,none⟩ (.slice qa7 (j+1) qc7)).cell? ⟨V,3,none⟩=some (.slice ea Le.length ec)∧(w7.setCell ⟨V,5,none⟩ (.slice qa7 (j+1) qc7)).cell? ⟨V,4,none⟩=some (.slice fa R.length fc))∧V<(w7.setCell ⟨V,5,none⟩ (.slice qa7 (j+1) qc7)).heap.size∧OwnLI (V+1) (ofsL f (j+1)) (.slice qa7 (j+1) qc7) (w7.setCell ⟨V,5,none⟩ (.slice qa7 (j+1) qc7))∧Below V W2 (w7.setCell ⟨V,5,none⟩ (.slice qa7 (j+1) qc7))):=by
    have oc:∀ {o:Nat} {v:Value},o≠5→wr.cell? ⟨V,o,none⟩=some v→(w7.setCell ⟨V,5,none⟩ (.slice qa7 (j+1) qc7)).cell? ⟨V,o,none⟩=some v:=fun {o v} ho hv=>by
      rw [World.cell?_setCell_other _ _ _ _ (fun e=>ho (by cases e; rfl)),BT.cell (p:=⟨V,o,none⟩) hVl (by simp only; omega)]
      exact hv
    have hc:=HVC.out
    refine ⟨World.cell?_setCell_same _ _ _ hS7.2.2.2,by rw [World.frozen?_setCell]; exact fz7,⟨oc (by omega) hc.1,oc (by omega) hc.2.1,oc (by omega) hc.2.2.1,oc (by omega) hc.2.2.2.1,oc (by omega) hc.2.2.2.2⟩,by simpa [World.setCell] using hV7,(HGR.out _ _ hq7 hb7).but (D:=fun k=>k=V) ((But.refl _ _).setCell _ _ (.inr rfl)) (fun k hk _=>by omega),BV7.setCell (Nat.le_refl _) _⟩
  clear HVC HO HSJ HQ HD HDB HGR HNW hq7 hb7 BT hS7 fz7 BV7 hV7 Bw6 Bw5 Bn hS5 HS0 k0 k1 k2 c5 fz
  generalize (w7.setCell ⟨V,5,none⟩ (.slice qa7 (j+1) qc7))=w8 at *
  go_wp2_with fail
  exact ⟨⟨j+1,_,by go_num,by omega,HE.out⟩,by simp [intOf]; omega⟩
def rowsM (f:Fl) (l:List Ir) (j:Nat):List (List Ir):=(List.range f.n).map fun (s:Nat)=>movedL f (l.take j) (s:Int)
theorem rowsM_len (f:Fl) (l:List Ir) (j:Nat):(rowsM f l j).length=f.n:=by simp [rowsM]
theorem rowsM_get {f:Fl} {l:List Ir} {j s:Nat} (h:s<f.n):(rowsM f l j)[s]?=some (movedL f (l.take j) (s:Int)):=by simp [rowsM,h]
theorem rowsM_zero (f:Fl) (l:List Ir):rowsM f l 0=List.replicate f.n []:=by
  unfold rowsM
  apply List.ext_getElem
  · simp
  · intro i h1 h2
    simp [movedL]
theorem rowsM_none {f:Fl} {l:List Ir} {j:Nat} (h:j<l.length) (hn:nextI f l[j]=none):rowsM f l (j+1)=rowsM f l j:=by
  unfold rowsM
  refine List.map_congr_left (fun s _=>?_)
  rw [movedL_take h,if_neg (by rw [hn]; simp),List.append_nil]
theorem rowsM_some {f:Fl} {l:List Ir} {j s:Nat} (h:j<l.length) (hs:s<f.n) (hn:nextI f l[j]=some (s:Int)):rowsM f l (j+1)=(rowsM f l j).set s (movedL f (l.take j) (s:Int)++[(l[j].1,l[j].2.1+1,l[j].2.2)]):=by
  apply List.ext_getElem?
  intro i
  rw [List.getElem?_set,rowsM_len]
  rcases Nat.lt_or_ge i f.n with hi | hi
  · rw [rowsM_get hi,movedL_take h]
    by_cases e:s=i
    · subst e
      rw [if_pos rfl,if_pos hs,if_pos hn]
    · rw [if_neg e,rowsM_get hi,if_neg (by rw [hn]; simp; omega),List.append_nil]
  · rw [if_neg (by omega),List.getElem?_eq_none (by rw [rowsM_len]; omega),List.getElem?_eq_none (by rw [rowsM_len]; omega)]
theorem rowsM_all (f:Fl) (l:List Ir):(rowsM f l l.length).filter (fun K=>!K.isEmpty)=kernsL f l:=by
  unfold rowsM kernsL kernsFrom
  rw [List.take_of_length_le (Nat.le_refl _),List.range_eq_range']
def ByAt (G:Nat) (Rs:List (List Ir)) (W:World):Prop :=
  G<W.heap.size∧∃ hv:List Value,hv.length=Rs.length∧(∀ (s:Nat) (u:Value),hv[s]?=some u→W.cell? ⟨G,s,none⟩=some u∧W.frozen? ⟨G,s,none⟩=false) ∧
    (∀ (s:Nat) (l:List Ir) (u:Value),Rs[s]?=some l→hv[s]?=some u→QRow (fun k=>G<k∧inB u k) 3 u l.length (l.flatMap encR) W) ∧
    (∀ (s s':Nat) (u u':Value) (k:Nat),hv[s]?=some u→hv[s']?=some u'→inB u k→inB u' k→s=s')
theorem ByAt.next {G:Nat} {Rs:List (List Ir)} {W W':World} (h:ByAt G Rs W) (hb:Below W.heap.size W W'):ByAt G Rs W':=by
  obtain ⟨h0,hv,h1,h2,h3,h4⟩:=h
  exact ⟨Nat.lt_of_lt_of_le h0 hb.size,hv,h1,fun s u hu=>⟨(hb.cell (p:=⟨G,s,none⟩) h0).trans (h2 s u hu).1,(World.frozen?_of_block (hb.block _ h0)).trans (h2 s u hu).2⟩,fun s l u hl hu=>(h3 s l u hl hu).next hb,h4⟩
theorem not_inB_nil (k:Nat):¬ inB (.slice none 0 0) k:=by
  rintro ⟨o,n,c,e,_⟩; cases e
theorem ByAt.made {W W1:World} {N:Nat} (h:W1.ownsRow W.heap.size 84 1 (.slice (some ⟨W.heap.size,0,none⟩) N N) N (madeCells #[Value.slice none 0 0] N).toList) (hlt:W.heap.size<W1.heap.size):ByAt W.heap.size (List.replicate N []) W1:=by
  rw [toList_madeCells_one] at h
  refine ⟨hlt,List.replicate N (.slice none 0 0),by simp,fun s u hu=>?_,fun s l u hl hu=>?_,fun s s' u u' k hu hu' hk=>?_⟩
  · have:=World.ownsRow.cells h (g:=W.heap.size) rfl s u hu
    rw [add_plain,Nat.zero_add] at this
    exact ⟨this,World.ownsRow.frozenAt h _⟩
  · rw [List.getElem?_replicate] at hl hu
    split at hl
    · cases hl
      rw [if_pos (by assumption)] at hu
      cases hu
      exact QRow.nil _ _ _
    · cases hl
  · rw [List.getElem?_replicate] at hu
    split at hu
    · cases hu; exact absurd hk (not_inB_nil k)
    · cases hu
theorem QRow.inb {D:Nat→Prop} {size:Nat} {v:Value} {n:Nat} {xs:List Value} {W:World} (h:QRow D size v n xs W) {k:Nat} (hk:inB v k):D k∧k<W.heap.size:=by
  obtain ⟨ao,b,off,cap,e,hc,hD⟩:=h
  obtain ⟨off',n',c',e',hcp⟩:=hk
  rw [e] at e'
  cases e'
  have:=hc.addr hcp
  cases this
  exact ⟨hD hcp,hc.lt hcp⟩
theorem ByAt.grow {G:Nat} {Rs:List (List Ir)} {W:World} {s:Nat} {l:List Ir} (h:ByAt G Rs W) (hl:Rs[s]?=some l) :
    ∃ u,W.cell? ⟨G,s,none⟩=some u∧W.frozen? ⟨G,s,none⟩=false∧(∃ ua uc,u=.slice ua l.length uc)∧QRow (fun k=>(G<k∧inB u k)∨W.heap.size≤k) 3 u l.length (l.flatMap encR) W ∧
      ∀ (x:Ir) (W1:World) (v':Value) (W':World),Below W.heap.size W W1→QRow (fun k=>(G<k∧inB u k)∨W.heap.size≤k) 3 v' (l.length+1) (l.flatMap encR++encR x) W'→But (fun k=>(G<k∧inB u k)∨W.heap.size≤k) W1 W' →
        W'.cell? ⟨G,s,none⟩=some u∧W'.frozen? ⟨G,s,none⟩=false∧ByAt G (Rs.set s (l++[x])) (W'.setCell ⟨G,s,none⟩ v')∧Below G W (W'.setCell ⟨G,s,none⟩ v'):=by
  obtain ⟨h0,hv,h1,h2,h3,h4⟩:=h
  have hs:=(List.getElem?_eq_some_iff.1 hl).1
  obtain ⟨u,hu⟩:∃ u,hv[s]?=some u:=⟨_,List.getElem?_eq_getElem (by omega)⟩
  have hq:=h3 s l u hl hu
  refine ⟨u,(h2 s u hu).1,(h2 s u hu).2,?_,hq.mono (fun k _ hk=>.inl hk),fun x W1 v' W' hb hq' hbt=>?_⟩
  · obtain ⟨ao,b,off,cap,e,_⟩:=hq
    exact ⟨ao,cap,e⟩
  have hb':But (fun k=>(G<k∧inB u k)∨W.heap.size≤k) W W':=(But.of_next hb).trans hbt
  have nG:¬ ((G<G∧inB u G)∨W.heap.size≤G):=by omega
  have hc:∀ s' u',hv[s']?=some u'→W'.cell? ⟨G,s',none⟩=some u'∧W'.frozen? ⟨G,s',none⟩=false:=fun s' u' hu'=>⟨(hb'.cell (p:=⟨G,s',none⟩) h0 nG).trans (h2 s' u' hu').1,(hb'.frozen (p:=⟨G,s',none⟩) h0 nG).trans (h2 s' u' hu').2⟩
  have hin:∀ k,inB v' k→(G<k∧inB u k)∨W.heap.size≤k:=fun k hk=>(hq'.inb hk).1
  have hGk:∀ k,inB v' k→G<k:=fun k hk=>by
    rcases hin k hk with h | h <;> omega
  have BS:But (fun k=>k=G) W' (W'.setCell ⟨G,s,none⟩ v'):=(But.refl _ _).setCell _ _ (.inr rfl)
  have hset:∀ s' u',(hv.set s v')[s']?=some u'→(s'=s∧u'=v')∨(s'≠s∧hv[s']?=some u'):=fun s' u' hu'=>by
    rw [List.getElem?_set] at hu'
    by_cases e:s=s'
    · rw [if_pos e,if_pos (by omega)] at hu'
      cases hu'; exact .inl ⟨e.symm,rfl⟩
    · rw [if_neg e] at hu'; exact .inr ⟨fun h=>e h.symm,hu'⟩
  refine ⟨(hc s u hu).1,(hc s u hu).2,⟨Nat.lt_of_lt_of_le h0 (Nat.le_trans hb'.size BS.size),hv.set s v',by simp [h1],fun s' u' hu'=>?_,fun s' l' u' hl' hu'=>?_,fun s' s'' u' u'' k hu' hu'' hk hk'=>?_⟩,(hb'.below (by omega) (fun k hk=>by omega)).trans (BS.below (by have:=hb'.size; omega) (fun k hk=>by omega))⟩
  · rw [World.frozen?_setCell]
    rcases hset s' u' hu' with ⟨rfl,rfl⟩ | ⟨hne,hu'⟩
    · exact ⟨World.cell?_setCell_same _ _ _ (hc s' u hu).1,(hc s' u hu).2⟩
    · exact ⟨(World.cell?_setCell_other _ _ _ _ (fun e=>hne (by cases e; rfl))).trans (hc s' u' hu').1,(hc s' u' hu').2⟩
  · rw [List.getElem?_set] at hl'
    rcases hset s' u' hu' with ⟨rfl,rfl⟩ | ⟨hne,hu'⟩
    · rw [if_pos rfl,if_pos hs] at hl'
      cases hl'
      have hq2:QRow (fun k=>(G<k∧inB u k)∨W.heap.size≤k) 3 u' (l++[x]).length ((l++[x]).flatMap encR) W':=by
        simpa using hq'
      exact (hq2.exact.mono (E:=fun k=>G<k∧inB u' k) (fun k _ hk=>⟨hGk k hk.2.1,hk.2.1⟩)).but BS (fun k hk e=>by omega)
    · rw [if_neg (fun e=>hne e.symm)] at hl'
      refine ((h3 s' l' u' hl' hu').exact.but hb' (fun k hk hd=>?_)).mono (fun k _ hk=>hk.1) |>.but BS (fun k hk e=>by omega)
      rcases hd with hd | hd
      · exact hne (h4 s' s u' u k hu' hu hk.1.2 hd.2)
      · omega
  · have key:∀ s' u' k,s'≠s→hv[s']?=some u'→inB u' k→¬ inB v' k:=fun s' u' k hne hu' hk hk'=>by
      have hl2:∃ l',Rs[s']?=some l':=⟨_,List.getElem?_eq_getElem (by have:=(List.getElem?_eq_some_iff.1 hu').1; omega)⟩
      obtain ⟨l',hl2⟩:=hl2
      have h5:=(h3 s' l' u' hl2 hu').inb hk
      rcases hin k hk' with hd | hd
      · exact hne (h4 s' s u' u k hu' hu hk hd.2)
      · omega
    rcases hset s' u' hu' with ⟨e1,e2⟩ | ⟨hne1,hw1⟩
    · rcases hset s'' u'' hu'' with ⟨e3,e4⟩ | ⟨hne2,hw2⟩
      · rw [e1,e3]
      · exact absurd (e2 ▸ hk) (key s'' u'' k hne2 hw2 hk')
    · rcases hset s'' u'' hu'' with ⟨e3,e4⟩ | ⟨hne2,hw2⟩
      · exact absurd (e4 ▸ hk') (key s' u' k hne1 hw1 hk)
      · exact h4 s' s'' u' u'' k hw1 hw2 hk hk'
theorem ByAt.row {G:Nat} {Rs:List (List Ir)} {W:World} {s:Nat} {l:List Ir} (h:ByAt G Rs W) (hl:Rs[s]?=some l) (hok:∀ x∈l,okR x):∃ ua uc,W.cell? ⟨G,s,none⟩=some (.slice ua l.length uc)∧SlL l (.slice ua l.length uc) W∧∀ ad,ua=some ad→l≠[]→G<ad.block∧ad.block<W.heap.size:=by
  obtain ⟨u,hc,_,⟨ua,uc,rfl⟩,hq,_⟩:=h.grow hl
  have hsl:SlL l (.slice ua l.length uc) W:=hq.irs hok
  refine ⟨ua,uc,hc,hsl,fun ad e hne=>?_⟩
  subst e
  have h1:=hsl.lt hne
  refine ⟨?_,h1⟩
  obtain ⟨ao,b,off,cap,e,hcm,hD⟩:=hq
  cases e
  have hcp:0<uc:=by
    have:=hcm.le
    have:=List.length_pos_iff.2 hne
    omega
  have:=hcm.addr hcp
  cases this
  have h0:=h.1
  rcases hD hcp with ⟨hd,_⟩ | hd
  · exact hd
  · exact Nat.lt_of_lt_of_le h0 hd
end Go.Proofs.YtiamjafecbpfpaaGreatDoor
namespace Go.Proofs.YtiamjafecbpfpaaGreatDoor
open Go.RowKit
end Go.Proofs.YtiamjafecbpfpaaGreatDoor
namespace Go.Proofs.YtiamjafecbpfpaaGreatDoor
open Go.RowKit
end Go.Proofs.YtiamjafecbpfpaaGreatDoor
namespace Go.Proofs.YtiamjafecbpfpaaGreatDoor
open Go.RowKit
end Go.Proofs.YtiamjafecbpfpaaGreatDoor
namespace Go.Proofs.YtiamjafecbpfpaaGreatDoor
open Go.RowKit
theorem infoSL:(Tryz.prog.info? 84).map (fun i=>(i.zero,i.size,i.bytes))=some (some (.slice none 0 0),1,24):=by kernel_rfl
theorem inB_own {v:Value} {k:Nat} (h:inB v k):v.ownBlock=some k:=by
  obtain ⟨off,n,c,rfl,_⟩:=h
  rfl
theorem run_append_ownq {P:Program} {w:World} (base:Nat) (t ty e:TypeId) (i:TypeInfo) (z:Value) (size bytes:Nat) (ht:P.underlying t=some (.slice e)) (hi:P.info? e=some i) (hz:i.zero=some z)
    (hsize:i.size=size) (hby:i.bytes=bytes) (hzs:z.cells.size=size) (hsz:0<size)
    (v:Value) (n:Nat) (xs:List Value) (hown:w.ownsRow base e size v n xs)
    (a:Addr) (c:Nat) (news:List Value) (hl:news.length=size) (hnews:∀ j u,news[j]?=some u→w.cell? (a.add j)=some u) (h1:∀ u∈news,u.oneCell'=true)
    (h63:n+1≤maxLen) (hbytes:(n+1) * bytes≤140737488355328) (hbase:base≤w.heap.size) :
    ∃ v' w',(Builtin.append_ #[t,t] ty #[v,.slice (some a) 1 c]).run P w=.ok v' w'∧w'.ownsRow base e size v' (n+1) (xs++news)∧w.grownBy w' v.ownBlock ∧
      ∀ k,v'.ownBlock=some k→v.ownBlock=some k∨w.heap.size≤k:=by
  obtain ⟨v',w',r1,o1,g1,_⟩:=run_append_own (P:=P) w base t ty e i z size bytes ht hi hz hsize hby hzs hsz v n xs hown a 1 c news (by omega) hnews h1 h63 hbytes hbase
  have hq:QRow (fun k=>v.ownBlock=some k∨w.heap.size≤k) size v n xs w:=((QRow.of_own (D:=fun k=>base≤k) hown (fun _ h=>h)).exact).mono (fun k _ h=>.inl (inB_own h.2.1))
  obtain ⟨v2,w2,r2,q2,_⟩:=run_append_q (P:=P) (w:=w) t ty e i z size bytes ht hi hz hsize hby hzs hsz hq (fun k hk=>.inr hk) a c news hl hnews h1 h63 hbytes
  rw [r1] at r2
  cases r2
  refine ⟨v',w',r1,o1,g1,fun k hk=>?_⟩
  obtain ⟨ao,b,off,cap,rfl,hc,hD⟩:=q2
  have hcp:0<cap:=by have:=hc.le; omega
  obtain rfl:=hc.addr hcp
  cases hk
  exact hD hcp
theorem wp_append_ownq {P:Program} {w:World} {o:Oper} {a:Act} {K:Act→World→Prop} {Q:Exit→Act→World→Prop} (s x:Operand) (t:TypeId)
    (ho:o.op=.call { callee:=.builtin .append,args:=#[s,x],argTypes:=#[t,t] })
    (base:Nat) (e:TypeId) (i:TypeInfo) (z:Value) (size bytes:Nat) (ht:P.underlying t=some (.slice e)) (hi:P.info? e=some i) (hz:i.zero=some z)
    (hsize:i.size=size) (hby:i.bytes=bytes) (hzs:z.cells.size=size) (hsz:0<size)
    (v:Value) (n:Nat) (xs:List Value) (hs:a.eval s=v) (hown:w.ownsRow base e size v n xs)
    (ad:Addr) (c:Nat) (news:List Value) (hx:a.eval x=.slice (some ad) 1 c) (hl:news.length=size) (hnews:∀ j u,news[j]?=some u→w.cell? (ad.add j)=some u) (h1:∀ u∈news,u.oneCell'=true)
    (h63:n+1≤maxLen) (hbytes:(n+1) * bytes≤140737488355328) (hbase:base≤w.heap.size)
    (h:∀ v' w',w'.ownsRow base e size v' (n+1) (xs++news)→w.grownBy w' v.ownBlock→(∀ k,v'.ownBlock=some k→v.ownBlock=some k∨w.heap.size≤k)→K (a.put o.dst v') w'):o.wp P a w K Q:=by
  obtain ⟨v',w',hr,h2,h3,h4⟩:=run_append_ownq (P:=P) (w:=w) base t o.type e i z size bytes ht hi hz hsize hby hzs hsz v n xs hown ad c news hl hnews h1 h63 hbytes hbase
  unfold Oper.wp execOp
  simp only [ho,resolve,invoke,builtin,Sem.run_bind,Sem.run_pure,Result.andThen_ok,List.map_toArray,List.map_cons,List.map_nil,hs,hx,hr]
  exact h v' w' h2 h3 h4
end Go.Proofs.YtiamjafecbpfpaaGreatDoor
