import Derived.Test.YtiamjafecbpfpaaGreatDoorJ01
import Derived.Test.YtiamjafecbpfpaaGreatDoorJ02
import Derived.Test.YtiamjafecbpfpaaGreatDoorJ03
import Derived.Test.YtiamjafecbpfpaaGreatDoorJ05
import Derived.Test.YtiamjafecbpfpaaGreatDoorJ07
import Derived.Carry
import Derived.Sort.LoopGhostIn

namespace Go.Proofs.YtiamjafecbpfpaaGreatDoor
open Go.RowKit
structure GS (Bi Bc Bb G V:Nat) (lv:Value) (L:List Ir) (C S:List (Int × Int)) (W:World):Prop where
  o1:Bi<Bc
  o2:Bc<Bb
  o3:Bb<G
  lt:G<W.heap.size
  g0:W.cell? ⟨G,0,none⟩=some (.pointer (some ⟨V,0,none⟩))
  g1:W.cell? ⟨G,1,none⟩=some (.map (some Bi))
  g2:W.cell? ⟨G,2,none⟩=some lv
  g3:W.cell? ⟨G,3,none⟩=some (.map (some Bc))
  g4:W.cell? ⟨G,4,none⟩=some (.map (some Bb))
  fz:W.frozen? ⟨G,2,none⟩=false
  mi:MapSet 110 valR Bi L W
  mc:MapSet 209 val2 Bc C W
  mb:MapSet 190 val2 Bb S W
  own:OwnL (G+1) L lv W
theorem ownsRow_but {W W':World} {B n k:Nat} {e:TypeId} {v:Value} {xs:List Value} {D:Nat→Prop} (h:W.ownsRow B e k v n xs) (hb:But D W W') (hd:∀ j,D j→j<W.heap.size→j<B):W'.ownsRow B e k v n xs:=by
  obtain ⟨h1,h2⟩:=h
  refine ⟨h1,?_⟩
  rcases h2 with ⟨rfl,hn⟩ | ⟨g,cap,cur,rfl,hB,hg,h3⟩
  · exact .inl ⟨rfl,hn⟩
  · have hlt:g<W.heap.size:=(Array.getElem?_eq_some_iff.1 hg).1
    exact .inr ⟨g,cap,cur,rfl,hB,(hb.block g hlt (fun h=>by have:=hd g h hlt; omega)).trans hg,h3⟩
theorem GS.but {Bi Bc Bb G V:Nat} {lv:Value} {L:List Ir} {C S:List (Int × Int)} {W W':World} {D:Nat→Prop} (h:GS Bi Bc Bb G V lv L C S W) (hb:But D W W') (hd:∀ k,D k→k<W.heap.size→k<Bi):GS Bi Bc Bb G V lv L C S W':=by
  have hl:=h.lt
  have h1:=h.o1
  have h2:=h.o2
  have h3:=h.o3
  have nd:∀ k,Bi≤k→k<W.heap.size→¬ D k:=fun k hk hlt hdk=>by have:=hd k hdk hlt; omega
  have c:∀ {o v},W.cell? ⟨G,o,none⟩=some v→W'.cell? ⟨G,o,none⟩=some v:=fun {o v} hv=>(hb.cell (p:=⟨G,o,none⟩) hl (nd G (by omega) hl)).trans hv
  exact ⟨h.o1,h.o2,h.o3,Nat.lt_of_lt_of_le hl hb.size,c h.g0,c h.g1,c h.g2,c h.g3,c h.g4,(hb.frozen (p:=⟨G,2,none⟩) hl (nd G (by omega) hl)).trans h.fz,h.mi.but hb (nd _ (by omega) (by omega)),h.mc.but hb (nd _ (by omega) (by omega)),h.mb.but hb (nd _ (by omega) (by omega)),ownsRow_but h.own hb (fun j hj hlt=>by have:=hd j hj hlt; omega)⟩
theorem GS.next {Bi Bc Bb G V:Nat} {lv:Value} {L:List Ir} {C S:List (Int × Int)} {W W':World} (h:GS Bi Bc Bb G V lv L C S W) (hb:Below W.heap.size W W'):GS Bi Bc Bb G V lv L C S W' :=
  h.but (D:=fun _=>False) (But.of_next hb) (fun _ h=>h.elim)
def addI (L:List Ir) (x:Ir):List Ir:=if x∈L then L else L++[x]
def Apt (P:Nat→Prop) (Bi Bc Bb G:Nat) (lv:Value) (w:World):Prop:=(∀ k,P k→k<w.heap.size∧k≠Bi∧k≠Bc∧k≠Bb∧k≠G)∧∀ k,lv.ownBlock=some k→¬ P k
def Grown (P:Nat→Prop) (Bi Bc Bb G V:Nat) (L:List Ir) (C S:List (Int × Int)) (w:World) (e:Ending) (w':World):Prop:=e=.returned (.tuple #[])∧∃ lv',GS Bi Bc Bb G V lv' L C S w'∧Apt P Bi Bc Bb G lv' w'∧But (fun k=>¬ P k) w w'
theorem Apt.next {P:Nat→Prop} {Bi Bc Bb G:Nat} {lv:Value} {w w':World} (h:Apt P Bi Bc Bb G lv w) (hs:w.heap.size≤w'.heap.size):Apt P Bi Bc Bb G lv w':=⟨fun k hk=>⟨Nat.lt_of_lt_of_le (h.1 k hk).1 hs,(h.1 k hk).2⟩,h.2⟩
set_option maxRecDepth 100000 in
set_option maxHeartbeats 2000000 in
theorem gput_any (P:Nat→Prop) (Bi Bc Bb G V:Nat) (lv:Value) (L:List Ir) (C S:List (Int × Int)) (x:Ir) (w:World) (h:GS Bi Bc Bb G V lv L C S w) (hx:okR x) (hP:Apt P Bi Bc Bb G lv w) (hl:L.length<100000000) :
    Calls Tryz.prog 79 #[.pointer (some ⟨G,0,none⟩),valR x] w fun e w'=>Grown P Bi Bc Bb G V (addI L x) C S w e w':=by
  obtain ⟨i0,hi0,hz0,hz1,hz2⟩:=info_parts infoLr
  obtain ⟨la,lc,rfl⟩:=slice_of_ownK h.own
  have Bx:Below w.heap.size w (w.alloc (Obj.cells #[.int .i64 x.1,.int .i64 x.2.1,.int .i64 x.2.2] 110)):=(Below.refl _ _).alloc (Nat.le_refl _) _
  have X0:=RBox.new x 110 w
  have hG:=h.lt
  have hBi:Bi<G:=by have:=h.o1; have:=h.o2; have:=h.o3; omega
  have hdst:=And.intro h.o1 (And.intro h.o2 h.o3)
  have HH:Hid (GS Bi Bc Bb G V (.slice la L.length lc) L C S (w.alloc (Obj.cells #[.int .i64 x.1,.int .i64 x.2.1,.int .i64 x.2.2] 110))):=h.next Bx
  have HX:Hid (okR x):=hx
  have HOL:Hid (∀ k,(Value.slice la L.length lc).ownBlock=some k→G+1≤k∧k<w.heap.size):=fun k e=>World.ownsRow.lt h.own k e
  have HAP:Hid (Apt P Bi Bc Bb G (.slice la L.length lc) w):=hP
  clear h hx hP
  obtain ⟨x0,x1,x2⟩:=x
  unfold valR
  simp only at *
  go_enter Tryz.func79,Tryz.ntmps79
  go_wp2_with fail
  generalize w.alloc (Obj.cells #[.int .i64 x0,.int .i64 x1,.int .i64 x2] 110)=w0 at *
  obtain ⟨hwl,y0,y1,y2⟩:=X0
  simp only at y0 y1 y2
  have HS0:(w0.drew.cell? ⟨G,1,none⟩=some (.map (some Bi))∧w0.drew.cell? ⟨w.heap.size,0,none⟩=some (.int .i64 x0)∧w0.drew.cell? ⟨w.heap.size,1,none⟩=some (.int .i64 x1)∧w0.drew.cell? ⟨w.heap.size,2,none⟩=some (.int .i64 x2)):=⟨HH.out.g1,y0,y1,y2⟩
  have hg2:=HH.out.g2
  have hfz:=HH.out.fz
  have HN:=isNewR_any Bi L (x0,x1,x2) w0.drew (HH.out.next (Below.refl _ _).drew).mi HX.out hl
  unfold valR at HN
  simp only at HN
  have hsz:=Bx.size
  refine wp_region_L (fun W=>W.cell? ⟨G,1,none⟩=some (.map (some Bi))∧W.cell? ⟨w.heap.size,0,none⟩=some (.int .i64 x0)∧W.cell? ⟨w.heap.size,1,none⟩=some (.int .i64 x1)∧W.cell? ⟨w.heap.size,2,none⟩=some (.int .i64 x2)) 6 (by kernel_rfl) 6 rfl ?_
  refine tk 0 ⟨some 4,.move (.tmp 0),158, "grower.go:37",#[],none⟩ HS0 ?_;simp only [Act.put,sA,s0,sS]
  refine tk 1 ⟨some 5,.nilCheck (.tmp 4),0, "grower.go:37",#[⟨0,.data⟩],none⟩ HS0 ?_;simp only [Act.put,sA,s0,sS]
  refine tk 2 ⟨some 6,.fieldAddr 185 (.tmp 5) 1,0, "grower.go:37",#[⟨1,.data⟩],none⟩ HS0 ?_;simp only [Act.put,sA,s0,sS]
  refine tk 3 ⟨some 7,.load 181 (.tmp 6),181, "grower.go:37",#[⟨2,.data⟩],none⟩ HS0 ?_;simp only [Act.put,sA,s0,sS]
  refine tk 4 ⟨some 8,.load 110 (.tmp 3),110, "grower.go:37",#[],none⟩ HS0 ?_;simp only [Act.put,sA,s0,sS]
  refine wpAnyL_one' (i:=5) (o:=⟨some 9,.call ⟨.value (.func 101),#[.tmp 7,.tmp 8],#[181,110]⟩,4, "grower.go:37",#[⟨3,.data⟩,⟨4,.data⟩],none⟩) (by kernel_rfl) rfl rfl (fun K hK=>?_)
  go_simp
  refine HN.mono ?_
  rintro e W1 ⟨rfl,hM1,hb1⟩
  have hb1':But (fun k=>k=Bi) w0 W1:=(But.refl _ _).drew.trans hb1
  have cw:∀ {b o:Nat} {v:Value},b≠Bi→w0.cell? ⟨b,o,none⟩=some v→W1.cell? ⟨b,o,none⟩=some v:=fun {b o v} hbn hv=>(hb1'.cell (p:=⟨b,o,none⟩) (World.block_lt_of_cell? _ _ hv) hbn).trans hv
  have hS1:(W1.cell? ⟨G,1,none⟩=some (.map (some Bi))∧W1.cell? ⟨w.heap.size,0,none⟩=some (.int .i64 x0)∧W1.cell? ⟨w.heap.size,1,none⟩=some (.int .i64 x1)∧W1.cell? ⟨w.heap.size,2,none⟩=some (.int .i64 x2)):=⟨cw (by omega) HH.out.g1,cw (by omega) y0,cw (by omega) y1,cw (by omega) y2⟩
  refine hK.out _ _ (fun _=>hS1) ?_
  clear hK HN
  refine wpAnyL_done (by kernel_rfl) ?_ _
  have GS1:∀ L',MapSet 110 valR Bi L' W1→OwnL (G+1) L (.slice la L.length lc) W1∧(OwnL (G+1) L' (.slice la L.length lc) W1→GS Bi Bc Bb G V (.slice la L.length lc) L' C S W1):=fun L' hm=>by
    have h:=HH.out
    have nd:∀ k,k≠Bi→¬ (fun k=>k=Bi) k:=fun k hk e=>hk e
    refine ⟨?_,fun ho=>⟨h.o1,h.o2,h.o3,Nat.lt_of_lt_of_le h.lt hb1'.size,cw (by omega) h.g0,cw (by omega) h.g1,cw (by omega) h.g2,cw (by omega) h.g3,cw (by omega) h.g4,(hb1'.frozen (p:=⟨G,2,none⟩) h.lt (by simp only; omega)).trans h.fz,hm,h.mc.but hb1' (by omega),h.mb.but hb1' (by omega),ho⟩⟩
    exact ownsRow_but h.own hb1' (fun j hj _=>by omega)
  have HB1:Hid (But (fun k=>¬ P k) w W1):=(But.of_next Bx).trans (hb1'.mono (fun k _ hk hp=>(HAP.out.1 k hp).2.1 hk))
  by_cases hin:(x0,x1,x2)∈L
  · rw [if_pos hin] at hM1
    have hadd:addI L (x0,x1,x2)=L:=by unfold addI; rw [if_pos hin]
    have HF:Hid (GS Bi Bc Bb G V (.slice la L.length lc) L C S W1):=(GS1 L hM1).2 (GS1 L hM1).1
    have hdc:decide ((x0,x1,x2)∈L)=true:=by simpa using hin
    rw [hdc]
    clear GS1 hS1 cw hM1 HH HS0 hdc hin hb1 hb1' hg2 hfz
    go_wp2_with fail
    go_end0
    exact ⟨rfl,_,by rw [hadd]; exact HF.out,HAP.out.next HB1.out.size,HB1.out⟩
  rw [if_neg hin] at hM1
  have hadd:addI L (x0,x1,x2)=L++[(x0,x1,x2)]:=by unfold addI; rw [if_neg hin]
  have hdc:decide ((x0,x1,x2)∈L)=false:=by simpa using hin
  rw [hdc]
  have HM1:Hid (MapSet 110 valR Bi (L++[(x0,x1,x2)]) W1):=hM1
  have HO1:Hid (OwnL (G+1) L (.slice la L.length lc) W1):=(GS1 _ hM1).1
  have HG1:Hid (∀ {o:Nat} {v:Value},w0.cell? ⟨G,o,none⟩=some v→W1.cell? ⟨G,o,none⟩=some v):=fun {o v} hv=>cw (by omega) hv
  have hfz1:W1.frozen? ⟨G,2,none⟩=false:=(hb1'.frozen (p:=⟨G,2,none⟩) HH.out.lt (by simp only; omega)).trans hfz
  have hg21:W1.cell? ⟨G,2,none⟩=some (.slice la L.length lc):=cw (by omega) hg2
  have HMC:Hid (MapSet 209 val2 Bc C W1):=HH.out.mc.but hb1' (by omega)
  have HMB:Hid (MapSet 190 val2 Bb S W1):=HH.out.mb.but hb1' (by omega)
  have hG1:G<W1.heap.size:=Nat.lt_of_lt_of_le HH.out.lt hb1'.size
  have hw1:w.heap.size<W1.heap.size:=Nat.lt_of_lt_of_le hwl hb1'.size
  have z0:=hS1.2.1
  have z1:=hS1.2.2.1
  have z2:=hS1.2.2.2
  have HS2:Hid (∀ W,But (fun k=>(Value.slice la L.length lc).ownBlock=some k) W1 W→(W.cell? ⟨G,2,none⟩=some (.slice la L.length lc)∧W.cell? ⟨w.heap.size,0,none⟩=some (.int .i64 x0)∧W.cell? ⟨w.heap.size,1,none⟩=some (.int .i64 x1)∧W.cell? ⟨w.heap.size,2,none⟩=some (.int .i64 x2))):=fun W hb=>⟨(hb.cell (p:=⟨G,2,none⟩) hG1 (fun e=>by have:=HOL.out _ e; simp only at this; omega)).trans hg21,(hb.cell (p:=⟨w.heap.size,0,none⟩) hw1 (fun e=>by have:=HOL.out _ e; simp only at this; omega)).trans z0,(hb.cell (p:=⟨w.heap.size,1,none⟩) hw1 (fun e=>by have:=HOL.out _ e; simp only at this; omega)).trans z1,(hb.cell (p:=⟨w.heap.size,2,none⟩) hw1 (fun e=>by have:=HOL.out _ e; simp only at this; omega)).trans z2⟩
  have HSD:=HS2.out W1.drew (But.refl _ _).drew
  have Bn:Below W1.heap.size W1 (W1.drew.alloc (Obj.cells #[.int .i64 x0,.int .i64 x1,.int .i64 x2] 110)):=(Below.refl _ _).drew.alloc (Nat.le_refl _) _
  have HSN:=HS2.out (W1.drew.alloc (Obj.cells #[.int .i64 x0,.int .i64 x1,.int .i64 x2] 110)) (But.of_next Bn)
  have HON:Hid ((W1.drew.alloc (Obj.cells #[.int .i64 x0,.int .i64 x1,.int .i64 x2] 110)).ownsRow (G+1) 110 3 (.slice la L.length lc) L.length (L.flatMap encR)):=ownsRow_next (show W1.ownsRow (G+1) 110 3 (.slice la L.length lc) L.length (L.flatMap encR) from HO1.out) Bn
  have hszn:G+1≤(W1.drew.alloc (Obj.cells #[.int .i64 x0,.int .i64 x1,.int .i64 x2] 110)).heap.size:=Nat.le_trans hG1 Bn.size
  have HGG:Hid (w0.cell? ⟨G,0,none⟩=some (.pointer (some ⟨V,0,none⟩))∧w0.cell? ⟨G,1,none⟩=some (.map (some Bi))∧w0.cell? ⟨G,3,none⟩=some (.map (some Bc))∧w0.cell? ⟨G,4,none⟩=some (.map (some Bb))):=⟨HH.out.g0,HH.out.g1,HH.out.g3,HH.out.g4⟩
  clear GS1 hM1 HS0 hdc hb1 hg2 hfz hS1 cw HH hin hb1'
  go_wp2_with fail
  refine wp_region_L (fun W=>W.cell? ⟨G,2,none⟩=some (.slice la L.length lc)∧W.cell? ⟨w.heap.size,0,none⟩=some (.int .i64 x0)∧W.cell? ⟨w.heap.size,1,none⟩=some (.int .i64 x1)∧W.cell? ⟨w.heap.size,2,none⟩=some (.int .i64 x2)) 10 (by kernel_rfl) 11 rfl ?_
  refine tk 0 ⟨some 10,.move (.tmp 0),158, "grower.go:38",#[],none⟩ HSD ?_;simp only [Act.put,sA,s0,sS]
  refine tk 1 ⟨some 11,.move (.tmp 0),158, "grower.go:38",#[],none⟩ HSD ?_;simp only [Act.put,sA,s0,sS]
  refine tk 2 ⟨some 12,.nilCheck (.tmp 11),0, "grower.go:38",#[⟨1,.data⟩],none⟩ HSD ?_;simp only [Act.put,sA,s0,sS]
  refine tk 3 ⟨some 13,.fieldAddr 185 (.tmp 12) 2,0, "grower.go:38",#[⟨2,.data⟩],none⟩ HSD ?_;simp only [Act.put,sA,s0,sS]
  refine tk 4 ⟨some 14,.load 84 (.tmp 13),84, "grower.go:38",#[⟨3,.data⟩],none⟩ HSD ?_;simp only [Act.put,sA,s0,sS]
  refine tk 5 ⟨some 15,.load 110 (.tmp 3),110, "grower.go:38",#[],none⟩ HSD ?_;simp only [Act.put,sA,s0,sS]
  refine wpAnyL_one' (i:=6) (o:=⟨some 16,.buildSlice 84 1 #[(0,.tmp 15)],84, "grower.go:38",#[⟨5,.data⟩],none⟩) (by kernel_rfl) rfl rfl (fun K hK=>?_)
  go_simp
  refine hK.out _ _ (fun _=>HSN) ?_
  clear hK
  refine wpAnyL_one' (i:=7) (o:=⟨some 17,.call ⟨.builtin .append,#[.tmp 14,.tmp 16],#[84,84]⟩,84, "grower.go:38",#[⟨4,.data⟩,⟨6,.data⟩],none⟩) (by kernel_rfl) rfl rfl (fun K hK=>?_)
  rw [if_pos (by rfl)]
  refine wp_append_ownq (.tmp 14) (.tmp 16) 84 rfl (G+1) 110 i0 _ 3 24 Tryz.underlying84 hi0 hz0 hz1 hz2 rfl (by decide) _ L.length _ rfl HON.out ⟨W1.heap.size,0,none⟩ 1 (encR (x0,x1,x2)) rfl rfl (new_cellR W1.drew (x0,x1,x2) _) (one_encR _) (by unfold maxLen; omega) (by omega) hszn ?_
  intro v5 w5 hown5 hg5 hv5
  obtain ⟨a5,c5,rfl⟩:=slice_of_ownK hown5
  have hg5':(W1.drew.alloc (Obj.cells #[.int .i64 x0,.int .i64 x1,.int .i64 x2] 110)).grownBy w5 (Value.slice la L.length lc).ownBlock:=hg5
  have BT:But (fun k=>(Value.slice la L.length lc).ownBlock=some k) W1 w5:=(But.of_next Bn).trans ⟨hg5'.os,hg5'.tape,hg5'.output,hg5'.size,fun k hk hd=>hg5'.block k hk (fun e=>hd e.symm)⟩
  have HV5:Hid (∀ k,(Value.slice a5 (L.length+1) c5).ownBlock=some k→(Value.slice la L.length lc).ownBlock=some k∨W1.heap.size≤k):=fun k e=>(hv5 k e).imp id (fun h=>Nat.le_trans (Bn.size) h)
  clear hv5
  have HO5:Hid (OwnL (G+1) (L++[(x0,x1,x2)]) (.slice a5 (L.length+1) c5) w5):=OwnL.more hown5
  have hS5:=HS2.out _ BT
  have fz5:w5.frozen? ⟨G,2,none⟩=false:=(BT.frozen (p:=⟨G,2,none⟩) hG1 (fun e=>by have:=HOL.out _ e; simp only at this; omega)).trans hfz1
  refine hK.out _ _ (fun _=>hS5) ?_
  clear hK hown5 hg5
  simp only [Act.put,sA,s0,sS]
  refine wpAnyL_one' (i:=8) (o:=⟨some 18,.nilCheck (.tmp 10),0, "grower.go:38",#[⟨0,.data⟩,⟨0,.phase⟩,⟨1,.phase⟩,⟨2,.phase⟩,⟨3,.phase⟩,⟨4,.phase⟩,⟨5,.phase⟩,⟨6,.phase⟩,⟨7,.phase⟩],none⟩) (by kernel_rfl) rfl rfl (fun K hK=>?_)
  go_simp
  refine hK.out _ _ (fun _=>hS5) ?_
  clear hK
  refine wpAnyL_one' (i:=9) (o:=⟨some 19,.fieldAddr 185 (.tmp 18) 2,0, "grower.go:38",#[⟨8,.data⟩,⟨0,.phase⟩,⟨1,.phase⟩,⟨2,.phase⟩,⟨3,.phase⟩,⟨4,.phase⟩,⟨5,.phase⟩,⟨6,.phase⟩,⟨7,.phase⟩],none⟩) (by kernel_rfl) rfl rfl (fun K hK=>?_)
  go_simp
  refine hK.out _ _ (fun _=>hS5) ?_
  clear hK
  refine wpAnyL_one' (i:=10) (o:=⟨none,.store 84 (.tmp 19) (.tmp 17),0, "grower.go:38",#[⟨9,.data⟩,⟨7,.data⟩,⟨7,.chain⟩,⟨0,.phase⟩,⟨1,.phase⟩,⟨2,.phase⟩,⟨3,.phase⟩,⟨4,.phase⟩,⟨5,.phase⟩,⟨6,.phase⟩,⟨7,.phase⟩],none⟩) (by kernel_rfl) rfl rfl (fun K hK=>?_)
  go_simp
  refine hK.out _ _ (fun h=>absurd h (by decide)) ?_
  clear hK
  refine wpAnyL_done (by kernel_rfl) ?_ _
  have hw5:w5.heap.size≤(w5.setCell ⟨G,2,none⟩ (.slice a5 (L.length+1) c5)).heap.size:=by simp [World.setCell]
  have BS:But (fun k=>k=G) w5 (w5.setCell ⟨G,2,none⟩ (.slice a5 (L.length+1) c5)):=(But.refl _ _).setCell _ _ (.inr rfl)
  have HF:Hid (GS Bi Bc Bb G V (.slice a5 (L.length+1) c5) (L++[(x0,x1,x2)]) C S (w5.setCell ⟨G,2,none⟩ (.slice a5 (L.length+1) c5))∧Apt P Bi Bc Bb G (.slice a5 (L.length+1) c5) (w5.setCell ⟨G,2,none⟩ (.slice a5 (L.length+1) c5))∧But (fun k=>¬ P k) w (w5.setCell ⟨G,2,none⟩ (.slice a5 (L.length+1) c5))):=by
    have oc:∀ {o:Nat} {v:Value},o≠2→w0.cell? ⟨G,o,none⟩=some v→(w5.setCell ⟨G,2,none⟩ (.slice a5 (L.length+1) c5)).cell? ⟨G,o,none⟩=some v:=fun {o v} ho hv=>by
      rw [World.cell?_setCell_other _ _ _ _ (fun e=>ho (by cases e; rfl)),BT.cell (p:=⟨G,o,none⟩) hG1 (fun e=>by have:=HOL.out _ e; simp only at this; omega)]
      exact HG1.out hv
    have hg:=HGG.out
    exact ⟨⟨hdst.1,hdst.2.1,hdst.2.2,Nat.lt_of_lt_of_le (Nat.lt_of_lt_of_le hG1 BT.size) hw5,oc (by omega) hg.1,oc (by omega) hg.2.1,World.cell?_setCell_same _ _ _ hS5.1,oc (by omega) hg.2.2.1,oc (by omega) hg.2.2.2,by rw [World.frozen?_setCell]; exact fz5,(HM1.out.but BT (fun e=>by have:=HOL.out _ e; omega)).but BS (by omega),(HMC.out.but BT (fun e=>by have:=HOL.out _ e; omega)).but BS (by omega),(HMB.out.but BT (fun e=>by have:=HOL.out _ e; omega)).but BS (by omega),ownsRow_but HO5.out BS (fun j hj _=>by omega)⟩,⟨fun k hk=>⟨Nat.lt_of_lt_of_le (HAP.out.1 k hk).1 (Nat.le_trans HB1.out.size (Nat.le_trans BT.size hw5)),(HAP.out.1 k hk).2⟩,fun k e hp=>(HV5.out k e).elim (fun h=>HAP.out.2 k h hp) (fun h=>by have:=(HAP.out.1 k hp).1; have:=HB1.out.size; omega)⟩,(HB1.out.trans (BT.mono (fun k _ hk hp=>HAP.out.2 k hk hp))).trans (BS.mono (fun k _ hk hp=>(HAP.out.1 k hp).2.2.2.2 hk))⟩
  clear HS2 HON HGG HMC HMB HM1 HO1 HG1 HO5 BT BS hS5 fz5 HSN HSD hg5' hg21 hfz1 z0 z1 z2 Bn
  go_wp2_with fail
  go_end0
  exact ⟨rfl,_,by rw [hadd]; exact HF.out.1,HF.out.2⟩
def NewG (V:Nat) (w:World) (e:Ending) (w':World):Prop:=∃ Bi Bc Bb G,e=.returned (.pointer (some ⟨G,0,none⟩))∧w.heap.size≤Bi∧GS Bi Bc Bb G V (.slice none 0 0) [] [] [] w'∧Below w.heap.size w w'
theorem cells5 (W:World) (n:Nat) (a0 a1 a2 a3 a4:Value) (ty:TypeId) (h:W.heap.size=n) :
    (W.alloc (Obj.cells #[a0,a1,a2,a3,a4] ty)).cell? ⟨n,0,none⟩=some a0∧(W.alloc (Obj.cells #[a0,a1,a2,a3,a4] ty)).cell? ⟨n,1,none⟩=some a1∧(W.alloc (Obj.cells #[a0,a1,a2,a3,a4] ty)).cell? ⟨n,2,none⟩=some a2∧(W.alloc (Obj.cells #[a0,a1,a2,a3,a4] ty)).cell? ⟨n,3,none⟩=some a3∧(W.alloc (Obj.cells #[a0,a1,a2,a3,a4] ty)).cell? ⟨n,4,none⟩=some a4∧(W.alloc (Obj.cells #[a0,a1,a2,a3,a4] ty)).frozen? ⟨n,2,none⟩=false:=by
  subst h
  refine ⟨?_,?_,?_,?_,?_,?_⟩ <;> simp
set_option maxRecDepth 100000 in
set_option maxHeartbeats 1000000 in
theorem newGrower_any (V:Nat) (w:World):Calls Tryz.prog 78 #[.pointer (some ⟨V,0,none⟩)] w fun e w'=>NewG V w e w':=by
  go_enter Tryz.func78,Tryz.ntmps78
  go_wp2_with fail
  simp only [run_makeMap,Result.andThen]
  go_wp2_with fail
  simp only [run_makeMap,Result.andThen]
  go_wp2_with fail
  simp only [run_makeMap,Result.andThen]
  go_wp2_with fail
  go_ret
  have hs1:(w.alloc (Obj.map #[] 0)).heap.size=w.heap.size+1:=by simp
  have hs2:((w.alloc (Obj.map #[] 0)).alloc (Obj.map #[] 0)).heap.size=w.heap.size+1+1:=by simp
  have hs3:(((w.alloc (Obj.map #[] 0)).alloc (Obj.map #[] 0)).alloc (Obj.map #[] 0)).heap.size=w.heap.size+1+1+1:=by simp
  have m1:=MapSet.made 110 valR w
  have m2:=MapSet.made 209 val2 (w.alloc (Obj.map #[] 0))
  have m3:=MapSet.made 190 val2 ((w.alloc (Obj.map #[] 0)).alloc (Obj.map #[] 0))
  rw [hs1] at m2
  rw [hs2] at m3
  have al:∀ (W:World) (o:Obj),But (fun _=>False) W (W.alloc o):=fun W o=>But.of_next ((Below.refl _ _).alloc (Nat.le_refl _) _)
  have bl:∀ (W:World) (o:Obj),w.heap.size≤W.heap.size→Below w.heap.size w W→Below w.heap.size w (W.alloc o):=fun W o hs hb=>hb.alloc hs _
  have hc:=cells5 (((w.alloc (Obj.map #[] 0)).alloc (Obj.map #[] 0)).alloc (Obj.map #[] 0)) _ (.pointer (some ⟨V,0,none⟩)) (.map (some w.heap.size)) (.slice none 0 0) (.map (some (w.heap.size+1))) (.map (some (w.heap.size+1+1))) 185 hs3
  refine ⟨w.heap.size,w.heap.size+1,w.heap.size+1+1,w.heap.size+1+1+1,rfl,Nat.le_refl _,⟨by omega,by omega,by omega,by simp,hc.1,hc.2.1,hc.2.2.1,hc.2.2.2.1,hc.2.2.2.2.1,hc.2.2.2.2.2,((m1.but (al _ _) id).but (al _ _) id).but (al _ _) id,(m2.but (al _ _) id).but (al _ _) id,m3.but (al _ _) id,OwnL.nil _ _⟩,?_⟩
  exact bl _ _ (by simp; omega) (bl _ _ (by simp; omega) (bl _ _ (by simp) (bl _ _ (Nat.le_refl _) (Below.refl _ _))))
def begI (f:Fl) (L:List Ir) (sy:Nat) (t:Int):List Ir:=(ofA f (sy:Int)).foldl (fun (L:List Ir) (q:Int)=>addI L (q,0,t)) L
def begL1 (f:Fl) (L:List Ir) (S:List (Int × Int)) (sy:Nat) (t:Int):List Ir:=if ((sy:Int),t)∈S then L else begI f L sy t
def begS (S:List (Int × Int)) (sy:Nat) (t:Int):List (Int × Int):=if ((sy:Int),t)∈S then S else S++[((sy:Int),t)]
theorem addI_len (L:List Ir) (x:Ir):(addI L x).length≤L.length+1:=by unfold addI; split <;> simp
theorem foldI_len (t:Int):∀ (Q:List Int) (L:List Ir),(Q.foldl (fun (L:List Ir) (q:Int)=>addI L (q,0,t)) L).length≤L.length+Q.length
  | [],L=>by simp
  | q :: Q,L=>by
    rw [List.foldl_cons]
    have h1:=foldI_len t Q (addI L (q,0,t))
    have h2:=addI_len L (q,0,t)
    simp only [List.length_cons]
    omega
theorem foldI_take {Q:List Int} {t:Int} {L:List Ir} {j:Nat} (h:j<Q.length):(Q.take (j+1)).foldl (fun (L:List Ir) (q:Int)=>addI L (q,0,t)) L=addI ((Q.take j).foldl (fun (L:List Ir) (q:Int)=>addI L (q,0,t)) L) (Q[j],0,t):=by
  rw [List.take_succ_eq_append_getElem h,List.foldl_append]
  rfl
theorem SBox (x y:Int) (ty:TypeId) (w:World):w.heap.size<(w.alloc (Obj.cells #[.int .i64 x,.int .i64 y] ty)).heap.size∧(w.alloc (Obj.cells #[.int .i64 x,.int .i64 y] ty)).cell? ⟨w.heap.size,0,none⟩=some (.int .i64 x)∧(w.alloc (Obj.cells #[.int .i64 x,.int .i64 y] ty)).cell? ⟨w.heap.size,1,none⟩=some (.int .i64 y):=by
  refine ⟨?_,?_,?_⟩ <;> simp
theorem mem_ofA_ok {f:Fl} {s q:Int} (h:q∈ofA f s) (hf:f.prods.length≤1000):i64B q:=by
  obtain ⟨k,p,rfl,hk,_⟩:=mem_ofA.1 h
  have:=(List.getElem?_eq_some_iff.1 hk).1
  unfold i64B; omega
theorem ofsL_get {f:Fl} {s n:Nat} (h:s<n):(ofsL f n)[s]?=some (ofA f (s:Int)):=by unfold ofsL; simp [h]
theorem ofA_short (f:Fl) (s:Int):(ofA f s).length≤f.prods.length:=by
  unfold ofA ofL
  rw [List.length_map]
  refine Nat.le_trans (List.length_filter_le _ _) ?_
  simp
set_option maxRecDepth 100000 in
set_option maxHeartbeats 2000000 in
theorem gbegin_any (P:Nat→Prop) (f:Fl) (a:FlA) (Le:List Bool) (R:List (List Int)) (wv:World) (Bi Bc Bb G V:Nat) (lv:Value) (L:List Ir) (C S:List (Int × Int)) (sy:Nat) (t:Int) (w:World)
    (h:GS Bi Bc Bb G V lv L C S w) (hv:VwAt f a V Le R wv) (hwv:wv.heap.size≤Bi) (hB:Below wv.heap.size wv w) (hPB:∀ k,k<Bi→P k) (hP:Apt P Bi Bc Bb G lv w) (hsy:sy<f.n) (ht:i64B t) (hf:f.prods.length≤1000) (hn:f.n≤600) (hl:L.length+1000<100000000) (hS:S.length<100000000) :
    Calls Tryz.prog 103 #[.pointer (some ⟨G,0,none⟩),.agg #[.int .i64 sy,.int .i64 t]] w fun e w'=>Grown P Bi Bc Bb G V (begL1 f L S sy t) C (begS S sy t) w e w':=by
  have Bx:Below w.heap.size w (w.alloc (Obj.cells #[.int .i64 sy,.int .i64 t] 190)):=(Below.refl _ _).alloc (Nat.le_refl _) _
  have X0:=SBox (sy:Int) t 190 w
  have hG:=h.lt
  have hdst:=And.intro h.o1 (And.intro h.o2 h.o3)
  have HH:Hid (GS Bi Bc Bb G V lv L C S (w.alloc (Obj.cells #[.int .i64 sy,.int .i64 t] 190))):=h.next Bx
  have hok:ok2 ((sy:Int),t):=⟨by unfold i64B; omega,ht⟩
  have HAP:Hid (Apt P Bi Bc Bb G lv w):=hP
  have HOL:Hid (∀ k,lv.ownBlock=some k→k<w.heap.size):=fun k e=>(World.ownsRow.lt h.own k e).2
  have HPB:Hid (∀ k,k<Bi→P k):=hPB
  obtain ⟨hvb,ve,vf,vp,v3,v4,v5,_,_,v6⟩:=hv
  have hVl:=hvb.1
  obtain ⟨pa',pc,rfl,hrows,_⟩:=v6
  rw [ofsL_len] at v5
  obtain ⟨pb,po,u,rfl,hpb,hrc,hru⟩:=hrows sy _ (ofsL_get hsy)
  obtain ⟨PL,hPL⟩:∃ PL,ofA f (sy:Int)=PL:=⟨_,rfl⟩
  have HLE:Hid (PL.length≤1000):=by rw [← hPL]; exact Nat.le_trans (ofA_short _ _) hf
  have HOK:Hid (∀ q∈PL,i64B q):=by rw [← hPL]; exact fun q hq=>mem_ofA_ok hq hf
  rw [hPL] at hru
  obtain ⟨ra,rc,rfl,hrow,_⟩:=hru
  have HBG:Hid (begI f L sy t=PL.foldl (fun (L:List Ir) (q:Int)=>addI L (q,0,t)) L):=by rw [← hPL]; rfl
  clear hPL h hP hPB hvb hrows v3 v4
  -- what the view has,in each world that leaves its blocks
  have HVW:Hid (∀ W,Below Bi w W→W.cell? ⟨V,5,none⟩=some (.slice (some ⟨pb,po,none⟩) f.n pc)∧W.cell? ⟨pb,po+sy,none⟩=some (.slice ra PL.length rc)∧RowAt encI PL ra W∧V<Bi∧pb<Bi):=fun W hb=>by
    have hb':Below wv.heap.size wv W:=hB.trans (hb.mono hwv)
    exact ⟨(hb'.cell (p:=⟨V,5,none⟩) hVl).trans v5,(hb'.cell (p:=⟨pb,po+sy,none⟩) hpb).trans hrc,hrow.next hb',by omega,by omega⟩
  clear hrow hrc v5 hpb hVl hB
  go_enter Tryz.func103,Tryz.ntmps103
  go_wp2_with fail
  generalize w.alloc (Obj.cells #[.int .i64 sy,.int .i64 t] 190)=w0 at *
  obtain ⟨hwl,y0,y1⟩:=X0
  have HS0:(w0.drew.cell? ⟨G,4,none⟩=some (.map (some Bb))∧w0.drew.cell? ⟨w.heap.size,0,none⟩=some (.int .i64 sy)∧w0.drew.cell? ⟨w.heap.size,1,none⟩=some (.int .i64 t)):=⟨HH.out.g4,y0,y1⟩
  have HN:=isNewS_any Bb S ((sy:Int),t) w0.drew (HH.out.next (Below.refl _ _).drew).mb hok hS
  unfold val2 at HN
  simp only at HN
  have hsz:=Bx.size
  refine wp_region_L (fun W=>W.cell? ⟨G,4,none⟩=some (.map (some Bb))∧W.cell? ⟨w.heap.size,0,none⟩=some (.int .i64 sy)∧W.cell? ⟨w.heap.size,1,none⟩=some (.int .i64 t)) 7 (by kernel_rfl) 7 rfl ?_
  refine tk 0 ⟨some 6,.move (.tmp 0),158, "grower.go:60",#[],none⟩ HS0 ?_;simp only [Act.put,sA,s0,sS]
  refine tk 1 ⟨some 7,.nilCheck (.tmp 6),0, "grower.go:60",#[⟨0,.data⟩],none⟩ HS0 ?_;simp only [Act.put,sA,s0,sS]
  refine tk 2 ⟨some 8,.fieldAddr 185 (.tmp 7) 4,0, "grower.go:60",#[⟨1,.data⟩],none⟩ HS0 ?_;simp only [Act.put,sA,s0,sS]
  refine tk 3 ⟨some 9,.load 183 (.tmp 8),183, "grower.go:60",#[⟨2,.data⟩],none⟩ HS0 ?_;simp only [Act.put,sA,s0,sS]
  refine tk 4 ⟨some 10,.load 190 (.tmp 3),190, "grower.go:60",#[],none⟩ HS0 ?_;simp only [Act.put,sA,s0,sS]
  refine wpAnyL_one' (i:=5) (o:=⟨some 11,.call ⟨.value (.func 122),#[.tmp 9,.tmp 10],#[183,190]⟩,4, "grower.go:60",#[⟨3,.data⟩,⟨4,.data⟩],none⟩) (by kernel_rfl) rfl rfl (fun K hK=>?_)
  go_simp
  refine HN.mono ?_
  rintro e W1 ⟨rfl,hM1,hb1⟩
  have hb1':But (fun k=>k=Bb) w0 W1:=(But.refl _ _).drew.trans hb1
  have cw:∀ {b o:Nat} {v:Value},b≠Bb→w0.cell? ⟨b,o,none⟩=some v→W1.cell? ⟨b,o,none⟩=some v:=fun {b o v} hbn hv=>(hb1'.cell (p:=⟨b,o,none⟩) (World.block_lt_of_cell? _ _ hv) hbn).trans hv
  have hS1:(W1.cell? ⟨G,4,none⟩=some (.map (some Bb))∧W1.cell? ⟨w.heap.size,0,none⟩=some (.int .i64 sy)∧W1.cell? ⟨w.heap.size,1,none⟩=some (.int .i64 t)):=⟨cw (by omega) HH.out.g4,cw (by omega) y0,cw (by omega) y1⟩
  refine hK.out _ _ (fun _=>hS1) ?_
  clear hK HN
  refine tk 6 ⟨some 12,.unOp .not 4 (.tmp 11),4, "grower.go:60",#[⟨5,.data⟩],none⟩ hS1 ?_;simp only [Act.put,sA,s0,sS]
  refine wpAnyL_done (by kernel_rfl) ?_ _
  have HG1:Hid (GS Bi Bc Bb G V lv L C (begS S sy t) W1):=by
    have h:=HH.out
    have hm:MapSet 190 val2 Bb (begS S sy t) W1:=hM1
    exact ⟨h.o1,h.o2,h.o3,Nat.lt_of_lt_of_le h.lt hb1'.size,cw (by omega) h.g0,cw (by omega) h.g1,cw (by omega) h.g2,cw (by omega) h.g3,cw (by omega) h.g4,(hb1'.frozen (p:=⟨G,2,none⟩) h.lt (by simp only; omega)).trans h.fz,h.mi.but hb1' (by omega),h.mc.but hb1' (by omega),hm,ownsRow_but h.own hb1' (fun j hj _=>by omega)⟩
  have HB1:Hid (But (fun k=>¬ P k) w W1):=(But.of_next Bx).trans (hb1'.mono (fun k _ hk hp=>(HAP.out.1 k hp).2.2.2.1 hk))
  have HBW1:Below Bi w W1:=(Bx.mono (by omega)).trans (hb1'.below (by omega) (fun k hk=>by omega))
  have hs1:w.heap.size<W1.heap.size:=Nat.lt_of_lt_of_le hwl hb1'.size
  by_cases hin:((sy:Int),t)∈S
  · have hdc:decide (((sy:Int),t)∈S)=true:=by simpa using hin
    have e1:begS S sy t=S:=by unfold begS; rw [if_pos hin]
    have e2:begL1 f L S sy t=L:=by unfold begL1; rw [if_pos hin]
    have HF:Hid (GS Bi Bc Bb G V lv L C S W1∧Apt P Bi Bc Bb G lv W1∧But (fun k=>¬ P k) w W1):=⟨by have:=HG1.out; rwa [e1] at this,HAP.out.next HB1.out.size,HB1.out⟩
    rw [hdc]
    clear HG1 hS1 cw hM1 HH HS0 hdc hin hb1 hb1' HVW HBW1 HBG
    go_wp2_with fail
    refine bodyPost_ret (results_none rfl _ _ _) rfl ?_
    exact ⟨rfl,lv,by rw [e1,e2]; exact HF.out.1,HF.out.2.1,HF.out.2.2⟩
  have hdc:decide (((sy:Int),t)∈S)=false:=by simpa using hin
  have e2:Hid (begL1 f L S sy t=PL.foldl (fun (L:List Ir) (q:Int)=>addI L (q,0,t)) L):=by show begL1 f L S sy t=_; unfold begL1; rw [if_neg hin]; exact HBG.out
  rw [hdc]
  simp only [Bool.not_false]
  obtain ⟨k5,kr,_,hVB,hpB⟩:=HVW.out _ HBW1
  have z0:=hS1.2.1
  have z1:=hS1.2.2
  have hg0:=HG1.out.g0
  have hS2:(W1.drew.cell? ⟨G,0,none⟩=some (.pointer (some ⟨V,0,none⟩))∧W1.drew.cell? ⟨V,5,none⟩=some (.slice (some ⟨pb,po,none⟩) f.n pc)∧W1.drew.cell? ⟨pb,po+sy,none⟩=some (.slice ra PL.length rc)∧W1.drew.cell? ⟨w.heap.size,0,none⟩=some (.int .i64 sy)∧W1.drew.cell? ⟨w.heap.size,1,none⟩=some (.int .i64 t)):=⟨hg0,k5,kr,z0,z1⟩
  have hsyn:(sy:Int)<f.n:=by omega
  obtain ⟨S',hS'⟩:∃ S',begS S sy t=S':=⟨_,rfl⟩
  have HSE:Hid (begS S sy t=S'):=hS'
  rw [hS'] at HG1
  clear hS' hS1 cw hM1 HH HS0 hdc hin hb1 hb1' HBG
  have HAP1:Hid (Apt (fun k=>P k∨k=w.heap.size) Bi Bc Bb G lv W1):=⟨fun k hk=>by
      rcases hk with hk | hk
      · exact ⟨Nat.lt_of_lt_of_le (HAP.out.1 k hk).1 (by omega),(HAP.out.1 k hk).2⟩
      · subst hk; exact ⟨hs1,by omega,by omega,by omega,by omega⟩,fun k e hk=>by
      rcases hk with hk | hk
      · exact HAP.out.2 k e hk
      · have:=HOL.out k e; omega⟩
  go_wp2_with fail
  refine wp_region_L (fun W=>W.cell? ⟨G,0,none⟩=some (.pointer (some ⟨V,0,none⟩))∧W.cell? ⟨V,5,none⟩=some (.slice (some ⟨pb,po,none⟩) f.n pc)∧W.cell? ⟨pb,po+sy,none⟩=some (.slice ra PL.length rc)∧W.cell? ⟨w.heap.size,0,none⟩=some (.int .i64 sy)∧W.cell? ⟨w.heap.size,1,none⟩=some (.int .i64 t)) 13 (by kernel_rfl) 13 rfl ?_
  refine tk 0 ⟨some 13,.move (.tmp 0),158, "grower.go:63",#[],none⟩ hS2 ?_;simp only [Act.put,sA,s0,sS]
  refine tk 1 ⟨some 14,.nilCheck (.tmp 13),0, "grower.go:63",#[⟨0,.data⟩],none⟩ hS2 ?_;simp only [Act.put,sA,s0,sS]
  refine tk 2 ⟨some 15,.fieldAddr 185 (.tmp 14) 0,0, "grower.go:63",#[⟨1,.data⟩],none⟩ hS2 ?_;simp only [Act.put,sA,s0,sS]
  refine tk 3 ⟨some 16,.load 99 (.tmp 15),99, "grower.go:63",#[⟨2,.data⟩],none⟩ hS2 ?_;simp only [Act.put,sA,s0,sS]
  refine tk 4 ⟨some 17,.nilCheck (.tmp 16),0, "grower.go:63",#[⟨3,.data⟩],none⟩ hS2 ?_;simp only [Act.put,sA,s0,sS]
  refine tk 5 ⟨some 18,.fieldAddr 133 (.tmp 17) 3,0, "grower.go:63",#[⟨4,.data⟩],none⟩ hS2 ?_;simp only [Act.put,sA,s0,sS]
  refine tk 6 ⟨some 19,.load 130 (.tmp 18),130, "grower.go:63",#[⟨5,.data⟩],none⟩ hS2 ?_;simp only [Act.put,sA,s0,sS]
  refine tk 7 ⟨some 20,.fieldAddr 190 (.tmp 3) 0,0, "grower.go:63",#[],none⟩ hS2 ?_;simp only [Act.put,sA,s0,sS]
  refine tk 8 ⟨some 21,.load 3 (.tmp 20),3, "grower.go:63",#[⟨7,.data⟩],none⟩ hS2 ?_;simp only [Act.put,sA,s0,sS]
  refine tk 9 ⟨some 22,.indexAddr 130 (.tmp 19) (.tmp 21),0, "grower.go:63",#[⟨6,.data⟩,⟨8,.data⟩],none⟩ hS2 ?_;simp only [Act.put,sA,s0,sS]
  refine tk 10 ⟨some 23,.load 39 (.tmp 22),39, "grower.go:63",#[⟨9,.data⟩],none⟩ hS2 ?_;simp only [Act.put,sA,s0,sS]
  refine tk 11 ⟨some 24,.call ⟨.builtin .len,#[.tmp 23],#[39]⟩,3, "grower.go:63",#[⟨10,.data⟩],none⟩ hS2 ?_;simp only [Act.put,sA,s0,sS]
  refine tk 12 ⟨some 25,.move (.const (.int .i64 0)),3, "grower.go:63",#[],none⟩ hS2 ?_;simp only [Act.put,sA,s0,sS]
  refine wpAnyL_done (by kernel_rfl) ?_ _
  clear hS2 k5 kr hg0
  go_wp2_with fail
  go_loopw [25] (fun i wr=>∃ (j:Nat) (lv':Value),i=.int .i64 j∧j≤PL.length∧GS Bi Bc Bb G V lv' ((PL.take j).foldl (fun (L:List Ir) (q:Int)=>addI L (q,0,t)) L) C S' wr∧Apt (fun k=>P k∨k=w.heap.size) Bi Bc Bb G lv' wr∧But (fun k=>¬ (P k∨k=w.heap.size)) W1 wr) (fun i _=>PL.length - (intOf i).toNat)
  case atStart=>exact ⟨0,lv,rfl,Nat.zero_le _,HG1.out.next (Below.refl _ _).drew,HAP1.out,(But.refl _ _).drew⟩
  case round =>
  obtain ⟨j,lv',rfl,hj,hGS,hAp,hBt⟩:=hrel
  have hBw:Below Bi w wr:=HBW1.trans (hBt.below (by omega) (fun k hk=>Nat.le_of_not_lt (fun h=>hk (.inl (HPB.out k h)))))
  have x1:wr.cell? ⟨w.heap.size,1,none⟩=some (.int .i64 t):=(hBt.cell (p:=⟨w.heap.size,1,none⟩) hs1 (fun h=>h (.inr rfl))).trans z1
  have hle:=HLE.out
  by_cases hlt:j<PL.length
  · obtain ⟨_,_,hrow,_,_⟩:=HVW.out _ hBw
    obtain ⟨rb,ro,rfl,hrb,hc⟩:=hrow j PL[j] (by simp [hlt])
    have hT:=foldI_take (t:=t) (L:=L) hlt
    have hLn:=foldI_len t (PL.take j) L
    have hok:=HOK.out PL[j] (by simp)
    generalize PL[j]=q at *
    have HT:Hid ((PL.take (j+1)).foldl (fun (L:List Ir) (q:Int)=>addI L (q,0,t)) L=addI ((PL.take j).foldl (fun (L:List Ir) (q:Int)=>addI L (q,0,t)) L) (q,0,t)):=hT
    have hP1:=gput_any _ Bi Bc Bb G V lv' _ C S' (q,0,t) wr hGS ⟨hok,(show i64B 0 by unfold i64B; omega),ht⟩ hAp (by have h1:=HLE.out; have h2:(PL.take j).length≤PL.length:=(by rw [List.length_take]; exact Nat.min_le_right _ _); omega)
    unfold valR at hP1
    simp only at hP1
    rw [← hT] at hP1
    clear hT hrow hLn hGS hAp HG1 HAP1
    simp only [encI] at hc
    go_wp2_with fail
    refine hP1.mono ?_
    rintro e W3 ⟨rfl,lv2,g2,a2,b2⟩
    have HF:Hid (GS Bi Bc Bb G V lv2 ((PL.take (j+1)).foldl (fun (L:List Ir) (q:Int)=>addI L (q,0,t)) L) C S' W3∧Apt (fun k=>P k∨k=w.heap.size) Bi Bc Bb G lv2 W3∧But (fun k=>¬ (P k∨k=w.heap.size)) W1 W3):=⟨g2,a2,hBt.trans b2⟩
    clear g2 a2 b2 hP1 hc
    go_wp2_with fail
    exact ⟨⟨j+1,lv2,by go_num,by omega,HF.out⟩,by simp [intOf]; omega⟩
  · obtain rfl:j=PL.length:=by omega
    rw [List.take_of_length_le (Nat.le_refl _)] at hGS
    have HF:Hid (GS Bi Bc Bb G V lv' (PL.foldl (fun (L:List Ir) (q:Int)=>addI L (q,0,t)) L) C S' wr∧Apt P Bi Bc Bb G lv' wr∧But (fun k=>¬ P k) w wr):=⟨hGS,⟨fun k hk=>hAp.1 k (.inl hk),fun k e hk=>hAp.2 k e (.inl hk)⟩,HB1.out.trans (hBt.mono (fun k _ hk hp=>hk (.inl hp)))⟩
    clear hGS hAp HG1 HAP1
    go_wp2_with fail
    go_end0
    exact ⟨rfl,lv',by rw [e2.out,HSE.out]; exact HF.out.1,HF.out.2.1,HF.out.2.2⟩
end Go.Proofs.YtiamjafecbpfpaaGreatDoor
namespace Go.Proofs.YtiamjafecbpfpaaGreatDoor
open Go.RowKit Go.Shelf
attribute [local go_sem] Oper.semAt_some
set_option maxRecDepth 100000 in
set_option maxHeartbeats 1000000 in
theorem yieldAll_in (n:Nat) (hn:1≤n) (l N:Nat) (xs:List Int) (xa:Option Addr) (xc:Nat) (Ok:Int→Prop) (Fx:World→Prop) (J:(Nat→Prop)→List Int→World→Prop) (hF:Feeds (n - 1) Tryz.prog l (fun x=>#[.int .i64 x]) N Ok Fx J) (A:Nat→Prop) (pre:List Int) (W:World)
    (hJ:J A pre W) (hlen:pre.length+xs.length≤N) (hm:xs.length≤1000000) (hOk:∀ q∈xs,Ok q) (hx:∀ j,j<xs.length→∃ b off,xa=some ⟨b,off,none⟩∧A b∧∃ q,xs[j]?=some q∧W.cell? ⟨b,off+j,none⟩=some (.int .i64 q)) :
    CallsIn Fence.wide n Tryz.prog 121 #[.slice xa xs.length xc,.func (.yield l) #[] #[]] W fun e W'=>e=.returned (.bool true)∧J A (pre++xs) W'∧But (fun k=>¬ A k) W W':=by
  refine callsIn_of_wp Tryz.func121 rfl trivial ?_ rfl
  simp only [Tryz.ntmps121,List.size_toArray,List.length_cons,List.length_nil,Nat.reduceAdd,Nat.reduceSub,Array.replicate_succ,Array.replicate_zero,List.push_toArray,List.append_toArray,List.nil_append,List.cons_append]
  have HF:Hid (Feeds (n - 1) Tryz.prog l (fun x=>#[.int .i64 x]) N Ok Fx J):=hF
  have HX:Hid (∀ j,j<xs.length→∃ b off,xa=some ⟨b,off,none⟩∧A b∧∃ q,xs[j]?=some q∧W.cell? ⟨b,off+j,none⟩=some (.int .i64 q)):=hx
  have HJ:Hid (J A pre W):=hJ
  clear hF hx hJ
  gi_wp2
  gi_loopw [9] (fun i wr=>∃ (j:Nat),i=.int .i64 j∧j≤xs.length∧J A (pre++xs.take j) wr∧But (fun k=>¬ A k) W wr) (fun i _=>xs.length - (intOf i).toNat)
  case atStart=>exact ⟨0,rfl,Nat.zero_le _,by simpa using HJ.out,But.refl _ _⟩
  case round =>
    obtain ⟨j,rfl,hj,hJ,hB⟩:=hrel
    by_cases hlt:j<xs.length
    · obtain ⟨b,off,rfl,hA,q,hq,hc⟩:=HX.out j hlt
      have hbl:=World.block_lt_of_cell? _ _ hc
      have hc2:wr.cell? ⟨b,off+j,none⟩=some (.int .i64 q):=(hB.cell (p:=⟨b,off+j,none⟩) hbl (fun h=>h hA)).trans hc
      have hT:pre++xs.take (j+1)=(pre++xs.take j)++[q]:=by
        rw [List.take_add_one,hq]
        simp
      have HT:Hid (pre++xs.take (j+1)=(pre++xs.take j)++[q]):=hT
      obtain ⟨fn,tmps,assign,body,hy,hR⟩:=HF.out.yield A (pre++xs.take j) q wr hJ (hOk q (List.mem_of_getElem? hq)) (by simp; omega)
      clear hT hc hq hJ HJ
      gi_wp2
      refine hR.mono ?_
      rintro e W3 ⟨rfl,hJ3,hB3⟩
      have HF3:Hid (J A (pre++xs.take (j+1)) W3∧But (fun k=>¬ A k) W W3):=⟨by rw [HT.out]; exact hJ3,hB.trans hB3⟩
      clear hJ3 hB3 hR hy hc2
      gi_wp2
      go_roundw
      case rel=>exact ⟨j+1,by go_num,by omega,HF3.out.1,HF3.out.2⟩
      case measure=>simp [intOf]; omega
    · obtain rfl:j=xs.length:=by omega
      rw [List.take_of_length_le (Nat.le_refl _)] at hJ
      have HF3:Hid (J A (pre++xs) wr∧But (fun k=>¬ A k) W wr):=⟨hJ,hB⟩
      clear hJ HJ HX HF
      gi_wp2
      go_ret
      exact ⟨rfl,HF3.out.1,HF3.out.2⟩
end Go.Proofs.YtiamjafecbpfpaaGreatDoor
namespace Go.Proofs.YtiamjafecbpfpaaGreatDoor
open Go.RowKit
theorem SlT.lt {l:List It} {ad:Addr} {n c:Nat} {W:World} (h:SlT l (.slice (some ad) n c) W) (hl:l≠[]):ad.block<W.heap.size:=by
  obtain ⟨ao,cap,h0,h1,_⟩:=h
  cases h0
  obtain ⟨x,l',rfl⟩:=List.exists_cons_of_ne_nil hl
  obtain ⟨b,off,e,hb,_⟩:=h1 0 x rfl
  cases e; exact hb
set_option maxRecDepth 100000 in
set_option maxHeartbeats 1000000 in
theorem right2_any (f:Fl) (a:FlA) (p:Int) (wv w:World) (hf:FlAt f a wv) (hbv:Below wv.heap.size wv w) (hn:f.n≤600) (h1:-1≤p) (h2:p<f.prods.length) :
    Calls Tryz.prog 64 #[a.val f,.int .i64 p] w fun e w'=>∃ v,e=.returned v∧SlT (rightI f p) v w'∧(∀ ad n c,v=.slice (some ad) n c→rightI f p≠[]→ad.block<wv.heap.size∨w.heap.size≤ad.block)∧Below w.heap.size w w':=by
  obtain ⟨ta,tc,na,nc,pa,pc⟩:=a
  have X0:=FBox.new f ⟨ta,tc,na,nc,pa,pc⟩ 50 w
  have B0:Below w.heap.size w (w.alloc (fobj f ⟨ta,tc,na,nc,pa,pc⟩ 50)):=(Below.refl _ _).alloc (Nat.le_refl _) _
  have hP:=hf.2.2.1
  clear hf
  unfold fobj at X0 B0
  unfold FlA.val
  simp only at *
  by_cases hw:p=-1
  · subst hw
    have HW:=slT_whole f hn 44 (w.alloc (Obj.cells #[Value.slice ta f.terms.length tc,Value.slice na f.nons.length nc,Value.slice pa f.prods.length pc] 50)) (w.heap.size+1) (by simp)
    have HR:Hid (SlT (rightI f (-1)) (.slice (some ⟨w.heap.size+1,0,none⟩) 1 1) ((w.alloc (Obj.cells #[Value.slice ta f.terms.length tc,Value.slice na f.nons.length nc,Value.slice pa f.prods.length pc] 50)).alloc (Obj.cells #[.int .i64 f.terms.length,.string ⟨#[]⟩,.string ⟨#[]⟩] 44))):=by
      rw [rightI_neg (by omega)]; exact HW
    clear HW hP
    go_enter Tryz.func64,Tryz.ntmps64
    go_wp2_with fail
    go_ret
    exact ⟨_,rfl,HR.out,fun ad n c e _=>by cases e; exact .inr (by simp only; omega),B0.alloc B0.size _⟩
  · obtain ⟨k,rfl⟩:∃ k:Nat,p=k:=⟨p.toNat,by omega⟩
    have hk:k<f.prods.length:=by omega
    obtain ⟨b,off,v,rfl,hb,d0,d1,d2,hvv,_⟩:=hP.at (Below.refl _ _) hk
    have BV:=hbv.trans (B0.mono hbv.size)
    have c0:=(BV.cell (p:=⟨b,off+k * 3,none⟩) hb).trans d0
    have c1:=(BV.cell (p:=⟨b,off+k * 3+1,none⟩) hb).trans d1
    have c2:=(BV.cell (p:=⟨b,off+k * 3+2,none⟩) hb).trans d2
    have hv:=hvv.next BV
    have HLT:Hid (∀ ad n c,v=.slice (some ad) n c→rightI f k≠[]→ad.block<wv.heap.size∨w.heap.size≤ad.block):=fun ad n c e hne'=>by
      subst e
      rw [rightI_nat (List.getElem?_eq_getElem hk)] at hne'
      exact .inl (hvv.lt hne')
    clear hvv d0 d1 d2 BV
    have HR:Hid (SlT (rightI f k) v (w.alloc (Obj.cells #[Value.slice ta f.terms.length tc,Value.slice na f.nons.length nc,Value.slice (some ⟨b,off,none⟩) f.prods.length pc] 50))):=by
      rw [rightI_nat (List.getElem?_eq_getElem hk)]; exact hv
    have hw':((k:Int) == -1)=false:=by simp
    obtain ⟨va,vc,rfl,_⟩:=hv
    generalize f.prods[k]=q at *
    clear hP
    go_enter Tryz.func64,Tryz.ntmps64
    go_wp2_with fail
    go_ret
    exact ⟨_,rfl,HR.out,HLT.out,B0⟩
def outL (R:List (List Int)) (Le:List Bool) (fresh:Bool):List Nat→Int→List Int
  | [],k=>[k]
  | s :: r,k=>(if fresh=true then rowAt R s else [])++(if onb Le s=true then outL R Le fresh r k else [])
def coreS (C:List (Int × Int)) (x:Ir):List (Int × Int):=if (x.1,x.2.1)∈C then C else C++[(x.1,x.2.1)]
set_option maxHeartbeats 400000 in
theorem looks_any (G:Nat) (x:Ir) (w:World) :
    Calls Tryz.prog 102 #[.pointer (some ⟨G,0,none⟩),valR x] w fun e w'=>e=.returned (.func (.func 119) #[] #[.pointer (some ⟨w.heap.size,0,none⟩),.pointer (some ⟨w.heap.size+1,0,none⟩)])∧∃ ty,w'=(w.alloc (Obj.cells #[.pointer (some ⟨G,0,none⟩)] ty)).alloc (Obj.cells #[.int .i64 x.1,.int .i64 x.2.1,.int .i64 x.2.2] 110):=by
  unfold valR
  go_enter Tryz.func102,Tryz.ntmps102
  go_wp2_with fail
  go_ret
  exact ⟨rfl,_,rfl⟩
end Go.Proofs.YtiamjafecbpfpaaGreatDoor
namespace Go.Proofs.YtiamjafecbpfpaaGreatDoor
open Go.RowKit Go.Shelf
attribute [local go_sem] Oper.semAt_some
set_option maxRecDepth 100000 in
set_option maxHeartbeats 4000000 in
theorem looks1_gives (n:Nat) (hn:1≤n) (f:Fl) (a:FlA) (Le:List Bool) (R:List (List Int)) (wv:World) (Bi Bc Bb G V:Nat) (lv:Value) (L:List Ir) (C S:List (Int × Int)) (x:Ir) (K1 K2 N:Nat) (Ok:Int→Prop) (A0:Nat→Prop) (W:World)
    (h:GS Bi Bc Bb G V lv L C S W) (hv:VwAt f a V Le R wv) (hf:FlAt f a wv) (hwv:wv.heap.size≤Bi) (hB:Below wv.heap.size wv W) (hp:FitP f) (hLe:Le.length=f.n) (hR:R.length=f.n) (hR6:∀ q,(rowAt R q).length≤601)
    (hk1:W.cell? ⟨K1,0,none⟩=some (.pointer (some ⟨G,0,none⟩))) (hk2:RBox x K2 W) (hK1:A0 K1) (hK2:A0 K2) (hK1c:K1≠Bc) (hK2c:K2≠Bc) (hA0:∀ k,k<Bi→A0 k) (hx:fitI f x=true) (hd:x.2.1.toNat<(rightI f x.1).length)
    (hN:(outL R Le (!decide ((x.1,x.2.1)∈C)) (behI f x) x.2.2).length≤N) (hC:C.length<100000000) (hOk:∀ t∈outL R Le (!decide ((x.1,x.2.1)∈C)) (behI f x) x.2.2,Ok t) :
    GivesAt n Tryz.prog 119 #[.pointer (some ⟨K1,0,none⟩),.pointer (some ⟨K2,0,none⟩)] (fun q=>#[.int .i64 q]) (fun W W'=>GS Bi Bc Bb G V lv L (coreS C x) S W'∧But (fun k=>k=Bc) W W')
      (fun xs=>xs=outL R Le (!decide ((x.1,x.2.1)∈C)) (behI f x) x.2.2) N Ok A0 (fun W=>W.cell? ⟨G,0,none⟩=some (.pointer (some ⟨V,0,none⟩))) W:=by
  intro l J hF hPre
  show CallsIn Fence.wide n Tryz.prog 119 #[.func (.yield l) #[] #[],.pointer (some ⟨K1,0,none⟩),.pointer (some ⟨K2,0,none⟩)] W _
  have HF:Hid (Feeds (n - 1) Tryz.prog l (fun q=>#[.int .i64 q]) N Ok (fun W=>W.cell? ⟨G,0,none⟩=some (.pointer (some ⟨V,0,none⟩))) J):=hF
  have HPRE:Hid (∀ W',(GS Bi Bc Bb G V lv L (coreS C x) S W'∧But (fun k=>k=Bc) W W')→J A0 [] W'):=hPre
  have HG:Hid (GS Bi Bc Bb G V lv L C S W):=h
  have HFP:Hid (FitP f):=hp
  have HA0:Hid (∀ k,k<Bi→A0 k):=hA0
  have hdst:=And.intro h.o1 (And.intro h.o2 h.o3)
  have hGl:=h.lt
  have hn6:f.n≤600:=hp.size
  have hxf:=fitI_iff.1 hx
  have hr64:=rightI_le hp x.1
  have HSYM:Hid (∀ y∈rightI f x.1,0≤y.sym∧y.sym<(f.n:Int)):=fun y hy=>rightI_sym hp hy
  have HRI:Hid (∀ W',Below wv.heap.size wv W'→Calls Tryz.prog 64 #[a.val f,.int .i64 x.1] W' fun e w'=>∃ v,e=.returned v∧SlT (rightI f x.1) v w'∧(∀ ad n c,v=.slice (some ad) n c→rightI f x.1≠[]→ad.block<wv.heap.size∨W'.heap.size≤ad.block)∧Below W'.heap.size W' w'):=fun W' hb=>right2_any f a x.1 wv W' hf hb hn6 hxf.1 hxf.2.1
  obtain ⟨hvb,ve,vf,vp,v3,v4,_,v6,v7,_⟩:=hv
  obtain ⟨hVl,u0,u1,u2⟩:=hvb
  obtain ⟨hk2l,y0,y1,y2⟩:=hk2
  obtain ⟨ta,tc,na,nc,pa,pc⟩:=a
  obtain ⟨x0,x1,x2⟩:=x
  unfold FlA.val at HRI
  simp only at *
  obtain ⟨d,rfl⟩:∃ d:Nat,x1=d:=⟨x1.toNat,by omega⟩
  rw [Int.toNat_natCast] at hd
  have HVW:Hid (∀ W',Below wv.heap.size wv W'→W'.cell? ⟨V,0,none⟩=some (.slice ta f.terms.length tc)∧W'.cell? ⟨V,1,none⟩=some (.slice na f.nons.length nc)∧W'.cell? ⟨V,2,none⟩=some (.slice pa f.prods.length pc)∧W'.cell? ⟨V,3,none⟩=some ve∧W'.cell? ⟨V,4,none⟩=some vf∧SlB Le ve W'∧SlR R vf W'):=fun W' hb=>⟨(hb.cell (p:=⟨V,0,none⟩) hVl).trans u0,(hb.cell (p:=⟨V,1,none⟩) hVl).trans u1,(hb.cell (p:=⟨V,2,none⟩) hVl).trans u2,(hb.cell (p:=⟨V,3,none⟩) hVl).trans v3,(hb.cell (p:=⟨V,4,none⟩) hVl).trans v4,v6.next hb,v7.next hb⟩
  have hVB:V<Bi:=by omega
  have hok:ok2 (x0,(d:Int)):=⟨by unfold i64B; have:=HFP.out.prods; omega,by unfold i64B; omega⟩
  have HN:=isNewC_any Bc C (x0,(d:Int)) W.drew (h.next (Below.refl _ _).drew).mc hok hC
  unfold val2 at HN
  simp only at HN
  have hS0:(W.drew.cell? ⟨K1,0,none⟩=some (.pointer (some ⟨G,0,none⟩))∧W.drew.cell? ⟨G,3,none⟩=some (.map (some Bc))∧W.drew.cell? ⟨K2,0,none⟩=some (.int .i64 x0)∧W.drew.cell? ⟨K2,1,none⟩=some (.int .i64 d)):=⟨hk1,h.g3,y0,y1⟩
  clear hF hPre h hp hA0 u0 u1 u2 v3 v4 v6 v7 hf hok
  refine callsIn_of_wp Tryz.func119 rfl trivial ?_ rfl
  simp only [Tryz.ntmps119,List.size_toArray,List.length_cons,List.length_nil,Nat.reduceAdd,Nat.reduceSub,Array.replicate_succ,Array.replicate_zero,List.push_toArray,List.append_toArray,List.nil_append,List.cons_append]
  gi_wp2
  refine wpIn_wide.2 ?_
  refine wp_region_L (fun W=>W.cell? ⟨K1,0,none⟩=some (.pointer (some ⟨G,0,none⟩))∧W.cell? ⟨G,3,none⟩=some (.map (some Bc))∧W.cell? ⟨K2,0,none⟩=some (.int .i64 x0)∧W.cell? ⟨K2,1,none⟩=some (.int .i64 d)) 11 (by kernel_rfl) 11 rfl ?_
  refine tk 0 ⟨some 7,.load 158 (.tmp 1),158, "grower.go:71",#[],none⟩ hS0 ?_;simp only [Act.put,sA,s0,sS]
  refine tk 1 ⟨some 8,.nilCheck (.tmp 7),0, "grower.go:71",#[⟨0,.data⟩],none⟩ hS0 ?_;simp only [Act.put,sA,s0,sS]
  refine tk 2 ⟨some 9,.fieldAddr 185 (.tmp 8) 3,0, "grower.go:71",#[⟨1,.data⟩],none⟩ hS0 ?_;simp only [Act.put,sA,s0,sS]
  refine tk 3 ⟨some 10,.load 182 (.tmp 9),182, "grower.go:71",#[⟨2,.data⟩],none⟩ hS0 ?_;simp only [Act.put,sA,s0,sS]
  refine tk 4 ⟨some 11,.fieldAddr 110 (.tmp 2) 0,0, "grower.go:71",#[],none⟩ hS0 ?_;simp only [Act.put,sA,s0,sS]
  refine tk 5 ⟨some 12,.load 3 (.tmp 11),3, "grower.go:71",#[⟨4,.data⟩],none⟩ hS0 ?_;simp only [Act.put,sA,s0,sS]
  refine tk 6 ⟨some 13,.fieldAddr 110 (.tmp 2) 1,0, "grower.go:71",#[],none⟩ hS0 ?_;simp only [Act.put,sA,s0,sS]
  refine tk 7 ⟨some 14,.load 3 (.tmp 13),3, "grower.go:71",#[⟨6,.data⟩],none⟩ hS0 ?_;simp only [Act.put,sA,s0,sS]
  refine tk 8 ⟨some 15,.build 209 #[(0,.tmp 12),(1,.tmp 14)],209, "grower.go:71",#[⟨5,.data⟩,⟨7,.data⟩],none⟩ hS0 ?_;simp only [Act.put,sA,s0,sS]
  refine wpAnyL_one' (i:=9) (o:=⟨some 16,.call ⟨.value (.func 120),#[.tmp 10,.tmp 15],#[182,209]⟩,4, "grower.go:71",#[⟨3,.data⟩,⟨8,.data⟩],none⟩) (by kernel_rfl) rfl rfl (fun K hK=>?_)
  go_simp
  refine HN.mono ?_
  rintro e W1 ⟨rfl,hM1,hb1⟩
  have hb1':But (fun k=>k=Bc) W W1:=(But.refl _ _).drew.trans hb1
  have cw:∀ {b o:Nat} {v:Value},b≠Bc→W.cell? ⟨b,o,none⟩=some v→W1.cell? ⟨b,o,none⟩=some v:=fun {b o v} hbn hv=>(hb1'.cell (p:=⟨b,o,none⟩) (World.block_lt_of_cell? _ _ hv) hbn).trans hv
  have hS1:(W1.cell? ⟨K1,0,none⟩=some (.pointer (some ⟨G,0,none⟩))∧W1.cell? ⟨G,3,none⟩=some (.map (some Bc))∧W1.cell? ⟨K2,0,none⟩=some (.int .i64 x0)∧W1.cell? ⟨K2,1,none⟩=some (.int .i64 d)):=⟨cw hK1c hk1,cw (by omega) HG.out.g3,cw hK2c y0,cw hK2c y1⟩
  refine hK.out _ _ (fun _=>hS1) ?_
  clear hK HN
  refine tk 10 ⟨some 4,.assign (.tmp 16),4, "grower.go:71",#[⟨9,.data⟩,⟨9,.chain⟩,⟨0,.phase⟩,⟨1,.phase⟩,⟨2,.phase⟩,⟨3,.phase⟩,⟨4,.phase⟩,⟨5,.phase⟩,⟨6,.phase⟩,⟨7,.phase⟩,⟨8,.phase⟩,⟨9,.phase⟩],none⟩ hS1 ?_;simp only [Act.put,sA,s0,sS]
  refine wpAnyL_done (by kernel_rfl) ?_ _
  have HG1:Hid (GS Bi Bc Bb G V lv L (coreS C (x0,(d:Int),x2)) S W1):=by
    have h:=HG.out
    have hm:MapSet 209 val2 Bc (coreS C (x0,(d:Int),x2)) W1:=hM1
    exact ⟨h.o1,h.o2,h.o3,Nat.lt_of_lt_of_le h.lt hb1'.size,cw (by omega) h.g0,cw (by omega) h.g1,cw (by omega) h.g2,cw (by omega) h.g3,cw (by omega) h.g4,(hb1'.frozen (p:=⟨G,2,none⟩) h.lt (by simp only; omega)).trans h.fz,h.mi.but hb1' (by omega),hm,h.mb.but hb1' (by omega),ownsRow_but h.own hb1' (fun j hj _=>by omega)⟩
  have HJ1:Hid (J A0 [] W1):=HPRE.out _ ⟨HG1.out,hb1'⟩
  have hB1:Below wv.heap.size wv W1:=hB.trans (hb1'.below (by omega) (fun k hk=>by omega))
  have j1:=cw hK1c hk1
  have j2:=HG1.out.g0
  have z0:=cw hK2c y0
  have z1:=cw hK2c y1
  have z2:=cw hK2c y2
  have hk1l:K1<W1.heap.size:=World.block_lt_of_cell? _ _ j1
  have hk2l':K2<W1.heap.size:=World.block_lt_of_cell? _ _ z0
  have hG1l:G<W1.heap.size:=HG1.out.lt
  clear hS0 hS1 hM1 hb1 HG1 HPRE HG cw y0 y1 y2 hk1 hb1' hk2l
  obtain ⟨fr,hfr⟩:∃ fr,(!decide ((x0,(d:Int))∈C))=fr:=⟨_,rfl⟩
  have HFR:Hid ((!decide ((x0,(d:Int))∈C))=fr):=hfr
  rw [hfr] at hN hOk ⊢
  clear hfr
  have HSI:Hid (∀ W',Below W1.heap.size W1 W'→(W'.cell? ⟨K1,0,none⟩=some (.pointer (some ⟨G,0,none⟩))∧W'.cell? ⟨G,0,none⟩=some (.pointer (some ⟨V,0,none⟩))∧W'.cell? ⟨V,0,none⟩=some (.slice ta f.terms.length tc)∧W'.cell? ⟨V,1,none⟩=some (.slice na f.nons.length nc)∧W'.cell? ⟨V,2,none⟩=some (.slice pa f.prods.length pc)∧W'.cell? ⟨K2,0,none⟩=some (.int .i64 x0)∧W'.cell? ⟨K2,1,none⟩=some (.int .i64 d))):=fun W' hb=>by
    obtain ⟨q0,q1,q2,_⟩:=HVW.out _ (hB1.trans (hb.mono hB1.size))
    exact ⟨(hb.cell (p:=⟨K1,0,none⟩) hk1l).trans j1,(hb.cell (p:=⟨G,0,none⟩) hG1l).trans j2,q0,q1,q2,(hb.cell (p:=⟨K2,0,none⟩) hk2l').trans z0,(hb.cell (p:=⟨K2,1,none⟩) hk2l').trans z1⟩
  have hS1:=HSI.out _ (Below.refl _ _).drew
  have HRC:=HRI.out W1.drew hB1.drew
  obtain ⟨r,hr⟩:∃ r,rightI f x0=r:=⟨_,rfl⟩
  have HBEH:Hid (behI f (x0,(d:Int),x2)=(r.drop (d+1)).map (fun y=>y.sym.toNat)):=by show _=_; unfold behI; simp only [Int.toNat_natCast]; rw [hr]
  rw [hr] at HRC HSYM hd hr64
  clear hr HRI
  have hwr:IntKind.i64.wrap ((d:Int)+1)=(d:Int)+1:=IntWalk.i64_in _ (by omega)
  have hd0:0≤(d:Int)+1:=by omega
  gi_wp2
  refine wpIn_wide.2 ?_
  refine wp_region_L (fun W=>W.cell? ⟨K1,0,none⟩=some (.pointer (some ⟨G,0,none⟩))∧W.cell? ⟨G,0,none⟩=some (.pointer (some ⟨V,0,none⟩))∧W.cell? ⟨V,0,none⟩=some (.slice ta f.terms.length tc)∧W.cell? ⟨V,1,none⟩=some (.slice na f.nons.length nc)∧W.cell? ⟨V,2,none⟩=some (.slice pa f.prods.length pc)∧W.cell? ⟨K2,0,none⟩=some (.int .i64 x0)∧W.cell? ⟨K2,1,none⟩=some (.int .i64 d)) 16 (by kernel_rfl) 16 rfl ?_
  refine tk 0 ⟨some 17,.load 158 (.tmp 1),158, "grower.go:72",#[],none⟩ hS1 ?_;simp only [Act.put,sA,s0,sS]
  refine tk 1 ⟨some 18,.nilCheck (.tmp 17),0, "grower.go:72",#[⟨0,.data⟩],none⟩ hS1 ?_;simp only [Act.put,sA,s0,sS]
  refine tk 2 ⟨some 19,.fieldAddr 185 (.tmp 18) 0,0, "grower.go:72",#[⟨1,.data⟩],none⟩ hS1 ?_;simp only [Act.put,sA,s0,sS]
  refine tk 3 ⟨some 20,.load 99 (.tmp 19),99, "grower.go:72",#[⟨2,.data⟩],none⟩ hS1 ?_;simp only [Act.put,sA,s0,sS]
  refine tk 4 ⟨some 21,.nilCheck (.tmp 20),0, "grower.go:72",#[⟨3,.data⟩],none⟩ hS1 ?_;simp only [Act.put,sA,s0,sS]
  refine tk 5 ⟨some 22,.fieldAddr 133 (.tmp 21) 0,0, "grower.go:72",#[⟨4,.data⟩],none⟩ hS1 ?_;simp only [Act.put,sA,s0,sS]
  refine tk 6 ⟨some 23,.load 50 (.tmp 22),50, "grower.go:72",#[⟨5,.data⟩],none⟩ hS1 ?_;simp only [Act.put,sA,s0,sS]
  refine tk 7 ⟨some 24,.fieldAddr 110 (.tmp 2) 0,0, "grower.go:72",#[],none⟩ hS1 ?_;simp only [Act.put,sA,s0,sS]
  refine tk 8 ⟨some 25,.load 3 (.tmp 24),3, "grower.go:72",#[⟨7,.data⟩],none⟩ hS1 ?_;simp only [Act.put,sA,s0,sS]
  refine tk 10 ⟨some 27,.fieldAddr 110 (.tmp 2) 1,0, "grower.go:72",#[],none⟩ hS1 ?_;simp only [Act.put,sA,s0,sS]
  refine tk 11 ⟨some 28,.load 3 (.tmp 27),3, "grower.go:72",#[⟨10,.data⟩],none⟩ hS1 ?_;simp only [Act.put,sA,s0,sS]
  refine tk 12 ⟨some 29,.binOp .add 3 (.tmp 28) (.const (.int .i64 1)) 3,3, "grower.go:72",#[⟨11,.data⟩],none⟩ hS1 ?_;simp only [Act.put,sA,s0,sS]
  refine tk 15 ⟨some 32,.move (.const (.int .i64 0)),3, "grower.go:72",#[],none⟩ hS1 ?_;simp only [Act.put,sA,s0,sS]
  refine wpAnyL_one' (i:=9) (o:=⟨some 26,.call ⟨.value (.func 64),#[.tmp 23,.tmp 25],#[50,3]⟩,45, "grower.go:72",#[⟨6,.data⟩,⟨8,.data⟩],none⟩) (by kernel_rfl) rfl rfl (fun K hK=>?_)
  go_simp
  refine HRC.mono ?_
  rintro e W2 ⟨rv,rfl,hrv,hrl,hb2⟩
  have Bw2:Below W1.heap.size W1 W2:=below_then (Below.refl _ _).drew hb2 (Nat.le_refl _)
  have hS2:=HSI.out _ Bw2
  refine hK.out _ _ (fun _=>hS2) ?_
  clear hK HRC
  obtain ⟨ra,vc,rfl,hI,_,hvc,hvm⟩:=hrv
  obtain ⟨rb,ro,rfl,_⟩:=hI.at (Below.refl _ _) hd
  have hrb:=hrl _ _ _ rfl (fun e=>by rw [e] at hd; simp at hd)
  have HIT0:Hid (ItsAt r (some ⟨rb,ro,none⟩) W2):=hI
  clear hI hrl
  have hdv:(d:Int)+1≤vc:=by omega
  have hdv2:(d:Int)+1≤r.length:=by omega
  refine tk 13 ⟨some 30,.slice 45 (.tmp 26) (some (.tmp 29)) none none,45, "grower.go:72",#[⟨9,.data⟩,⟨12,.data⟩],none⟩ hS2 ?_;simp only [Act.put,sA,s0,sS]
  refine tk 14 ⟨some 31,.call ⟨.builtin .len,#[.tmp 30],#[45]⟩,3, "grower.go:72",#[⟨13,.data⟩],none⟩ hS2 ?_;simp only [Act.put,sA,s0,sS]
  refine wpAnyL_done (by kernel_rfl) ?_ _
  have HJ2:Hid (J (fun k=>A0 k∨(W1.heap.size≤k∧k<W2.heap.size)) [] W2):=HF.out.new _ _ _ _ HJ1.out Bw2
  have hB2:Below wv.heap.size wv W2:=hB1.trans (Bw2.mono hB1.size)
  obtain ⟨A1,hA1⟩:∃ A1:Nat→Prop,(fun k=>A0 k∨(W1.heap.size≤k∧k<W2.heap.size))=A1:=⟨_,rfl⟩
  have HA1:Hid (∀ k,A0 k→A1 k):=fun k hk=>by rw [← hA1]; exact .inl hk
  have HA2:Hid (∀ k,W1.heap.size≤k→k<W2.heap.size→A1 k):=fun k h1 h2=>by rw [← hA1]; exact .inr ⟨h1,h2⟩
  rw [hA1] at HJ2
  clear hA1
  obtain ⟨ba,hba⟩:∃ ba,(if vc=d+1 then some (⟨rb,ro,none⟩:Addr) else some ⟨rb,ro+(d+1) * 3,none⟩)=ba:=⟨_,rfl⟩
  have HIT:Hid (∀ i y,(r.drop (d+1))[i]?=some y→∃ b off,ba=some ⟨b,off,none⟩∧A1 b∧b<W2.heap.size∧W2.cell? ⟨b,off+i * 3,none⟩=some (.int .i64 y.sym)∧W2.cell? ⟨b,off+i * 3+1,none⟩=some (.string y.fld)∧W2.cell? ⟨b,off+i * 3+2,none⟩=some (.string y.als)):=by
    intro i y hy
    rw [List.getElem?_drop] at hy
    have hlt:=(List.getElem?_eq_some_iff.1 hy).1
    obtain ⟨b',o',e',h1,h2,h3,h4,h5⟩:=HIT0.out (d+1+i) y hy
    cases e'
    rw [← hba,if_neg (by omega)]
    have e3:ro+(d+1) * 3+i * 3=ro+(d+1+i) * 3:=by omega
    refine ⟨_,_,rfl,?_,h1,by rw [e3]; exact h2,by rw [e3]; exact h3,by rw [e3]; exact h4⟩
    rcases hrb with hrb | hrb
    · exact HA1.out _ (HA0.out _ (by simp only at hrb; omega))
    · exact HA2.out _ hrb h1
  rw [hba]
  obtain ⟨bs,hbs⟩:∃ bs,r.drop (d+1)=bs:=⟨_,rfl⟩
  have hbl:bs.length=r.length - (d+1):=by rw [← hbs]; simp
  have hb64:bs.length≤64:=by omega
  have HSB:Hid (∀ y∈bs,0≤y.sym∧y.sym<(f.n:Int)):=fun y hy=>HSYM.out y (by rw [← hbs] at hy; exact List.mem_of_mem_drop hy)
  rw [hbs] at HIT HBEH
  rw [← hbl]
  obtain ⟨OUT,hOUT⟩:∃ OUT,outL R Le fr (bs.map (fun y=>y.sym.toNat)) x2=OUT:=⟨_,rfl⟩
  have HOUT:Hid (outL R Le (!decide ((x0,(d:Int))∈C)) (behI f (x0,(d:Int),x2)) x2=OUT):=by show _=_; rw [HFR.out,HBEH.out]; exact hOUT
  have HOK:Hid (∀ t∈OUT,Ok t):=by rw [← hOUT,← HBEH.out]; exact hOk
  have HNN:Hid (OUT.length≤N):=by rw [← hOUT,← HBEH.out]; exact hN
  have HO0:Hid (outL R Le fr (bs.map (fun y=>y.sym.toNat)) x2=OUT):=hOUT
  have HRW:Hid (∀ q,(rowAt R q).length≤601):=hR6
  have HLL:Hid (Le.length=f.n∧R.length=f.n):=⟨hLe,hR⟩
  have HAK:Hid (A1 K1∧A1 K2):=⟨HA1.out _ hK1,HA1.out _ hK2⟩
  have HAB:Hid (∀ k,k<Bi→A1 k):=fun k hk=>HA1.out _ (HA0.out k hk)
  obtain ⟨g1,g2,g3,g4⟩:=And.intro ((Bw2.cell (p:=⟨K1,0,none⟩) hk1l).trans j1) (And.intro ((Bw2.cell (p:=⟨K2,2,none⟩) hk2l').trans z2) (And.intro (Nat.lt_of_lt_of_le hk1l Bw2.size) (Nat.lt_of_lt_of_le hk2l' Bw2.size)))
  clear hOk hba hbs hbl HSYM hdst hvc hvm hdv hdv2 hwr hd0 hN hOUT hR6 hS1 hS2 HSI HIT0 hrb HJ1 HBEH hb2 j1 j2 z0 z1 z2
  gi_wp2
  gi_loopw [32] (fun i wr=>∃ (j:Nat) (A:Nat→Prop) (pre:List Int),i=.int .i64 j∧j≤bs.length∧(∀ k,A1 k→A k)∧J A pre wr∧But (fun k=>¬ A1 k) W2 wr∧pre++outL R Le fr ((bs.drop j).map (fun y=>y.sym.toNat)) x2=OUT) (fun i _=>bs.length - (intOf i).toNat)
  case atStart=>exact ⟨0,A1,[],rfl,Nat.zero_le _,fun _ h=>h,HJ2.out,But.refl _ _,by simpa using HO0.out⟩
  case round =>
  clear HJ2 HO0
  obtain ⟨j,A,pre,rfl,hj,hAA,hJ,hBt,hO⟩:=hrel
  have HAA:Hid (∀ k,A1 k→A k):=hAA
  have HJ:Hid (J A pre wr):=hJ
  have HBT:Hid (But (fun k=>¬ A1 k) W2 wr):=hBt
  have hG0:=HF.out.fx _ _ _ hJ
  have q1:wr.cell? ⟨K1,0,none⟩=some (.pointer (some ⟨G,0,none⟩)):=(hBt.cell (p:=⟨K1,0,none⟩) g3 (fun h=>h HAK.out.1)).trans g1
  have q2:wr.cell? ⟨K2,2,none⟩=some (.int .i64 x2):=(hBt.cell (p:=⟨K2,2,none⟩) g4 (fun h=>h HAK.out.2)).trans g2
  have hBw:Below wv.heap.size wv wr:=hB2.trans (hBt.below (by have:=hB2.size; omega) (fun k hk=>Nat.le_of_not_lt (fun h=>hk (HAB.out k (by omega)))))
  clear hAA hJ hBt
  by_cases hlt:j<bs.length
  case neg =>
    obtain rfl:j=bs.length:=by omega
    rw [List.drop_of_length_le (Nat.le_refl _)] at hO
    simp only [List.map_nil,outL] at hO
    obtain ⟨fn,tmps,assign,body,hy,hRd⟩:=HF.out.yield A pre x2 wr HJ.out (HOK.out x2 (by rw [← hO]; simp)) (by have:=HNN.out; rw [← hO] at this; simp at this; omega)
    clear hG0 q1 hBw
    gi_wp2
    refine hRd.mono ?_
    rintro e W4 ⟨rfl,hJ4,_⟩
    have HFN:Hid (J A0 OUT W4):=by rw [← hO]; exact HF.out.less _ _ _ _ hJ4 (fun k hk=>HAA.out k (HA1.out k hk))
    clear hJ4 hRd hy hO q2
    gi_wp2
    go_end0
    exact ⟨⟨_,rfl⟩,OUT,HOUT.out.symm,HFN.out⟩
  obtain ⟨bb,bo,rfl,hAb,hbbl,d0,d1,d2⟩:=HIT.out j bs[j] (by simp [hlt])
  have c0:=(HBT.out.cell (p:=⟨bb,bo+j * 3,none⟩) hbbl (fun h=>h hAb)).trans d0
  have c1:=(HBT.out.cell (p:=⟨bb,bo+j * 3+1,none⟩) hbbl (fun h=>h hAb)).trans d1
  have c2:=(HBT.out.cell (p:=⟨bb,bo+j * 3+2,none⟩) hbbl (fun h=>h hAb)).trans d2
  have hsym:=HSB.out bs[j] (by simp)
  have hdrop:(bs.drop j).map (fun y=>y.sym.toNat)=bs[j].sym.toNat :: (bs.drop (j+1)).map (fun y=>y.sym.toNat):=by rw [List.drop_eq_getElem_cons hlt]; rfl
  rw [hdrop,outL] at hO
  clear hdrop d0 d1 d2
  generalize bs[j]=it at *
  obtain ⟨isym,ifld,iass⟩:=it
  simp only at c0 c1 c2 hsym hO
  obtain ⟨s,rfl⟩:∃ s:Nat,isym=s:=⟨isym.toNat,by omega⟩
  rw [Int.toNat_natCast] at hO
  have hs:s<f.n:=by omega
  obtain ⟨_,_,_,w3,w4,w6,w7⟩:=HVW.out wv (Below.refl _ _)
  obtain ⟨ea,ec,rfl,hE,_⟩:=w6
  obtain ⟨fa,fc,rfl,hRr,_⟩:=w7
  rw [HLL.out.1] at w3
  rw [HLL.out.2] at w4
  obtain ⟨eb,eo,rfl,hebl,hec⟩:=hE s (onb Le s) (by unfold onb; rw [List.getD_eq_getElem?_getD,List.getElem?_eq_getElem (by rw [HLL.out.1]; exact hs)]; rfl)
  obtain ⟨fb,fo,rv,rfl,hfbl,hfc,hrow⟩:=hRr s (rowAt R s) (by unfold rowAt; rw [List.getD_eq_getElem?_getD,List.getElem?_eq_getElem (by rw [HLL.out.2]; exact hs)]; rfl)
  obtain ⟨rwa,rwc,rfl,hrw,_⟩:=hrow
  have hr6:=HRW.out s
  obtain ⟨row,hrow⟩:∃ row,rowAt R s=row:=⟨_,rfl⟩
  rw [hrow] at hfc hrw hO hr6
  obtain ⟨em,hem⟩:∃ em,onb Le s=em:=⟨_,rfl⟩
  rw [hem] at hec hO
  clear hrow hem hE hRr
  have HVX:Hid (∀ W',Below wv.heap.size wv W'→W'.cell? ⟨K1,0,none⟩=some (.pointer (some ⟨G,0,none⟩))→W'.cell? ⟨G,0,none⟩=some (.pointer (some ⟨V,0,none⟩))→W'.cell? ⟨wr.heap.size,0,none⟩=some (.int .i64 s)→(W'.cell? ⟨K1,0,none⟩=some (.pointer (some ⟨G,0,none⟩))∧W'.cell? ⟨G,0,none⟩=some (.pointer (some ⟨V,0,none⟩))∧W'.cell? ⟨V,3,none⟩=some (.slice (some ⟨eb,eo,none⟩) f.n ec)∧W'.cell? ⟨V,4,none⟩=some (.slice (some ⟨fb,fo,none⟩) f.n fc)∧W'.cell? ⟨eb,eo+s,none⟩=some (.bool em)∧W'.cell? ⟨fb,fo+s,none⟩=some (.slice rwa row.length rwc)∧W'.cell? ⟨wr.heap.size,0,none⟩=some (.int .i64 s))):=fun W' hb e1 e2 e3=>⟨e1,e2,(hb.cell (p:=⟨V,3,none⟩) hVl).trans w3,(hb.cell (p:=⟨V,4,none⟩) hVl).trans w4,(hb.cell (p:=⟨eb,eo+s,none⟩) hebl).trans hec,(hb.cell (p:=⟨fb,fo+s,none⟩) hfbl).trans hfc,e3⟩
  have HRWX:Hid (∀ W',Below wv.heap.size wv W'→∀ i,i<row.length→∃ b off,rwa=some ⟨b,off,none⟩∧b<wv.heap.size∧∃ q,row[i]?=some q∧W'.cell? ⟨b,off+i,none⟩=some (.int .i64 q)):=fun W' hb i hi=>by
    obtain ⟨b,off,e,hbl',hc'⟩:=hrw i row[i] (by simp [hi])
    exact ⟨b,off,e,hbl',row[i],by simp [hi],(hb.cell (p:=⟨b,off+i,none⟩) hbl').trans hc'⟩
  clear w3 w4 hec hfc hrw hebl hfbl
  have Bb':Below wr.heap.size wr (wr.alloc (Obj.cells #[.int .i64 s,.string ifld,.string iass] 44)):=(Below.refl _ _).alloc (Nat.le_refl _) _
  have hbox:(wr.alloc (Obj.cells #[.int .i64 s,.string ifld,.string iass] 44)).cell? ⟨wr.heap.size,0,none⟩=some (.int .i64 s):=by simp
  have hszb:(wr.alloc (Obj.cells #[.int .i64 s,.string ifld,.string iass] 44)).heap.size=wr.heap.size+1:=by simp
  have hk1r:=World.block_lt_of_cell? _ _ q1
  have hg0r:=World.block_lt_of_cell? _ _ hG0
  have hBb:Below wv.heap.size wv (wr.alloc (Obj.cells #[.int .i64 s,.string ifld,.string iass] 44)):=hBw.trans (Bb'.mono hBw.size)
  have hS4:((wr.alloc (Obj.cells #[.int .i64 s,.string ifld,.string iass] 44)).drew.cell? ⟨K1,0,none⟩=some (.pointer (some ⟨G,0,none⟩))∧(wr.alloc (Obj.cells #[.int .i64 s,.string ifld,.string iass] 44)).drew.cell? ⟨G,0,none⟩=some (.pointer (some ⟨V,0,none⟩))∧(wr.alloc (Obj.cells #[.int .i64 s,.string ifld,.string iass] 44)).drew.cell? ⟨V,3,none⟩=some (.slice (some ⟨eb,eo,none⟩) f.n ec)∧(wr.alloc (Obj.cells #[.int .i64 s,.string ifld,.string iass] 44)).drew.cell? ⟨V,4,none⟩=some (.slice (some ⟨fb,fo,none⟩) f.n fc)∧(wr.alloc (Obj.cells #[.int .i64 s,.string ifld,.string iass] 44)).drew.cell? ⟨eb,eo+s,none⟩=some (.bool em)∧(wr.alloc (Obj.cells #[.int .i64 s,.string ifld,.string iass] 44)).drew.cell? ⟨fb,fo+s,none⟩=some (.slice rwa row.length rwc)∧(wr.alloc (Obj.cells #[.int .i64 s,.string ifld,.string iass] 44)).drew.cell? ⟨wr.heap.size,0,none⟩=some (.int .i64 s)):=HVX.out _ hBb.drew ((Bb'.cell (p:=⟨K1,0,none⟩) hk1r).trans q1) ((Bb'.cell (p:=⟨G,0,none⟩) hg0r).trans hG0) hbox
  have HJB:Hid (J (fun k=>A k∨k=wr.heap.size) pre (wr.alloc (Obj.cells #[.int .i64 s,.string ifld,.string iass] 44)).drew):=HF.out.less _ _ _ _ (HF.out.new _ _ _ _ HJ.out Bb'.drew) (fun k hk=>hk.imp id (fun e=>by subst e; exact ⟨Nat.le_refl _,by show _<(wr.alloc (Obj.cells #[.int .i64 s,.string ifld,.string iass] 44)).heap.size; omega⟩))
  have hsn:(s:Int)<f.n:=by omega
  have hBT2:But (fun k=>¬ A1 k) W2 (wr.alloc (Obj.cells #[.int .i64 s,.string ifld,.string iass] 44)).drew:=HBT.out.trans (But.of_next Bb'.drew)
  clear q2 HJ
  cases fr with
  | false =>
    simp only [Bool.false_eq_true,if_false,List.nil_append] at hO
    have HO:Hid (pre++(if em=true then outL R Le false ((bs.drop (j+1)).map (fun y=>y.sym.toNat)) x2 else [])=OUT):=hO
    clear hO HRWX Bb' hbox hBb hk1r hg0r hBw HVX q1
    gi_wp2
    generalize wr.alloc (Obj.cells #[.int .i64 s,.string ifld,.string iass] 44)=wb at *
    refine wpIn_wide.2 ?_
    refine wp_region_L (fun W=>W.cell? ⟨K1,0,none⟩=some (.pointer (some ⟨G,0,none⟩))∧W.cell? ⟨G,0,none⟩=some (.pointer (some ⟨V,0,none⟩))∧W.cell? ⟨V,3,none⟩=some (.slice (some ⟨eb,eo,none⟩) f.n ec)∧W.cell? ⟨V,4,none⟩=some (.slice (some ⟨fb,fo,none⟩) f.n fc)∧W.cell? ⟨eb,eo+s,none⟩=some (.bool em)∧W.cell? ⟨fb,fo+s,none⟩=some (.slice rwa row.length rwc)∧W.cell? ⟨wr.heap.size,0,none⟩=some (.int .i64 s)) 31 (by kernel_rfl) 31 rfl ?_
    refine tk 0 ⟨some 36,.move (.tmp 4),4, "grower.go:73",#[],none⟩ hS4 ?_;simp only [Act.put,sA,s0,sS]
    refine tk 1 ⟨some 37,.move (.tmp 36),4, "grower.go:73",#[⟨0,.data⟩],none⟩ hS4 ?_;simp only [Act.put,sA,s0,sS]
    refine tu 2 ⟨some 38,.load 158 (.tmp 1),158, "grower.go:73",#[⟨1,.guard⟩],some (1,true)⟩ hS4 ?_;simp only [Act.put,sA,s0,sS]
    refine tu 3 ⟨some 39,.nilCheck (.tmp 38),0, "grower.go:73",#[⟨2,.data⟩,⟨1,.guard⟩],some (1,true)⟩ hS4 ?_;simp only [Act.put,sA,s0,sS]
    refine tu 4 ⟨some 40,.fieldAddr 185 (.tmp 39) 0,0, "grower.go:73",#[⟨3,.data⟩,⟨1,.guard⟩],some (1,true)⟩ hS4 ?_;simp only [Act.put,sA,s0,sS]
    refine tu 5 ⟨some 41,.load 99 (.tmp 40),99, "grower.go:73",#[⟨4,.data⟩,⟨1,.guard⟩],some (1,true)⟩ hS4 ?_;simp only [Act.put,sA,s0,sS]
    refine tu 6 ⟨some 42,.nilCheck (.tmp 41),0, "grower.go:73",#[⟨5,.data⟩,⟨1,.guard⟩],some (1,true)⟩ hS4 ?_;simp only [Act.put,sA,s0,sS]
    refine tu 7 ⟨some 43,.fieldAddr 133 (.tmp 42) 2,0, "grower.go:73",#[⟨6,.data⟩,⟨1,.guard⟩],some (1,true)⟩ hS4 ?_;simp only [Act.put,sA,s0,sS]
    refine tu 8 ⟨some 44,.load 130 (.tmp 43),130, "grower.go:73",#[⟨7,.data⟩,⟨1,.guard⟩],some (1,true)⟩ hS4 ?_;simp only [Act.put,sA,s0,sS]
    refine tu 9 ⟨some 45,.fieldAddr 44 (.tmp 6) 0,0, "grower.go:73",#[⟨1,.guard⟩],some (1,true)⟩ hS4 ?_;simp only [Act.put,sA,s0,sS]
    refine tu 10 ⟨some 46,.load 3 (.tmp 45),3, "grower.go:73",#[⟨9,.data⟩,⟨1,.guard⟩],some (1,true)⟩ hS4 ?_;simp only [Act.put,sA,s0,sS]
    refine tu 11 ⟨some 47,.indexAddr 130 (.tmp 44) (.tmp 46),0, "grower.go:73",#[⟨8,.data⟩,⟨10,.data⟩,⟨1,.guard⟩],some (1,true)⟩ hS4 ?_;simp only [Act.put,sA,s0,sS]
    refine tu 12 ⟨some 48,.load 39 (.tmp 47),39, "grower.go:73",#[⟨11,.data⟩,⟨1,.guard⟩],some (1,true)⟩ hS4 ?_;simp only [Act.put,sA,s0,sS]
    refine tu 13 ⟨some 49,.move (.tmp 0),166, "grower.go:73",#[⟨1,.guard⟩],some (1,true)⟩ hS4 ?_;simp only [Act.put,sA,s0,sS]
    refine tu 14 ⟨some 50,.call ⟨.value (.func 121),#[.tmp 48,.tmp 49],#[39,166]⟩,4, "grower.go:73",#[⟨12,.data⟩,⟨13,.data⟩,⟨1,.chain⟩,⟨1,.guard⟩],some (1,true)⟩ hS4 ?_;simp only [Act.put,sA,s0,sS]
    refine tu 15 ⟨some 51,.unOp .not 4 (.tmp 50),4, "grower.go:73",#[⟨14,.data⟩,⟨1,.guard⟩],some (1,true)⟩ hS4 ?_;simp only [Act.put,sA,s0,sS]
    refine tk 16 ⟨some 52,.pick (.tmp 37) (.tmp 51) (.const (.bool false)),4, "grower.go:73",#[⟨1,.data⟩,⟨15,.data⟩],none⟩ hS4 ?_;simp only [Act.put,sA,s0,sS]
    refine tk 17 ⟨some 53,.move (.tmp 52),4, "grower.go:73",#[⟨16,.data⟩,⟨14,.chain⟩],none⟩ hS4 ?_;simp only [Act.put,sA,s0,sS]
    refine tk 18 ⟨some 54,.load 158 (.tmp 1),158, "grower.go:73",#[⟨17,.guard⟩],some (17,false)⟩ hS4 ?_;simp only [Act.put,sA,s0,sS]
    refine tk 19 ⟨some 55,.nilCheck (.tmp 54),0, "grower.go:73",#[⟨18,.data⟩,⟨17,.guard⟩],some (17,false)⟩ hS4 ?_;simp only [Act.put,sA,s0,sS]
    refine tk 20 ⟨some 56,.fieldAddr 185 (.tmp 55) 0,0, "grower.go:73",#[⟨19,.data⟩,⟨17,.guard⟩],some (17,false)⟩ hS4 ?_;simp only [Act.put,sA,s0,sS]
    refine tk 21 ⟨some 57,.load 99 (.tmp 56),99, "grower.go:73",#[⟨20,.data⟩,⟨17,.guard⟩],some (17,false)⟩ hS4 ?_;simp only [Act.put,sA,s0,sS]
    refine tk 22 ⟨some 58,.nilCheck (.tmp 57),0, "grower.go:73",#[⟨21,.data⟩,⟨17,.guard⟩],some (17,false)⟩ hS4 ?_;simp only [Act.put,sA,s0,sS]
    refine tk 23 ⟨some 59,.fieldAddr 133 (.tmp 58) 1,0, "grower.go:73",#[⟨22,.data⟩,⟨17,.guard⟩],some (17,false)⟩ hS4 ?_;simp only [Act.put,sA,s0,sS]
    refine tk 24 ⟨some 60,.load 128 (.tmp 59),128, "grower.go:73",#[⟨23,.data⟩,⟨17,.guard⟩],some (17,false)⟩ hS4 ?_;simp only [Act.put,sA,s0,sS]
    refine tk 25 ⟨some 61,.fieldAddr 44 (.tmp 6) 0,0, "grower.go:73",#[⟨17,.guard⟩],some (17,false)⟩ hS4 ?_;simp only [Act.put,sA,s0,sS]
    refine tk 26 ⟨some 62,.load 3 (.tmp 61),3, "grower.go:73",#[⟨25,.data⟩,⟨17,.guard⟩],some (17,false)⟩ hS4 ?_;simp only [Act.put,sA,s0,sS]
    refine tk 27 ⟨some 63,.indexAddr 128 (.tmp 60) (.tmp 62),0, "grower.go:73",#[⟨24,.data⟩,⟨26,.data⟩,⟨17,.guard⟩],some (17,false)⟩ hS4 ?_;simp only [Act.put,sA,s0,sS]
    refine tk 28 ⟨some 64,.load 4 (.tmp 63),4, "grower.go:73",#[⟨27,.data⟩,⟨17,.guard⟩],some (17,false)⟩ hS4 ?_;simp only [Act.put,sA,s0,sS]
    refine tk 29 ⟨some 65,.unOp .not 4 (.tmp 64),4, "grower.go:73",#[⟨28,.data⟩,⟨17,.guard⟩],some (17,false)⟩ hS4 ?_;simp only [Act.put,sA,s0,sS]
    refine tk 30 ⟨some 66,.pick (.tmp 53) (.const (.bool true)) (.tmp 65),4, "grower.go:73",#[⟨17,.data⟩,⟨29,.data⟩],none⟩ hS4 ?_;simp only [Act.put,sA,s0,sS]
    refine wpAnyL_done (by kernel_rfl) ?_ _
    have HJE:Hid (J (fun k=>A k∨k=wr.heap.size) pre wb.drew):=HJB.out
    have HBE:Hid (But (fun k=>¬ A1 k) W2 wb.drew):=hBT2
    clear HJB
    cases em with
    | false =>
      have HFN:Hid (J A0 OUT wb.drew):=by rw [← HO.out]; simp only [Bool.false_eq_true,if_false,List.append_nil]; exact HF.out.less _ _ _ _ HJE.out (fun k hk=>.inl (HAA.out k (HA1.out k hk)))
      clear HO HJE hS4 hBT2
      gi_wp2
      refine bodyPost_ret (results_none rfl _ _ _) rfl ?_
      exact ⟨⟨_,rfl⟩,OUT,HOUT.out.symm,HFN.out⟩
    | true =>
      have HFN:Hid ((∀ k,A1 k→A k∨k=wr.heap.size)∧J (fun k=>A k∨k=wr.heap.size) pre wb.drew∧But (fun k=>¬ A1 k) W2 wb.drew∧pre++outL R Le false ((bs.drop (j+1)).map (fun y=>y.sym.toNat)) x2=OUT):=⟨fun k hk=>.inl (HAA.out k hk),HJE.out,HBE.out,by have:=HO.out; simp only [if_true] at this; exact this⟩
      clear HO HJE hS4 hBT2
      gi_wp2
      go_roundw
      case rel=>exact ⟨j+1,_,_,by go_num,by omega,HFN.out.1,HFN.out.2.1,HFN.out.2.2.1,HFN.out.2.2.2⟩
      case measure=>simp [intOf]; omega
  | true =>
    simp only [if_true] at hO
    have HO:Hid ((pre++row)++(if em=true then outL R Le true ((bs.drop (j+1)).map (fun y=>y.sym.toNat)) x2 else [])=OUT):=by show _=_; rw [← hO,List.append_assoc]
    have hlen:pre.length+row.length≤N:=by have:=HNN.out; rw [← HO.out] at this; simp only [List.length_append] at this; omega
    have hY:=callsIn_wide.1 (yieldAll_in n hn l N row rwa rwc _ _ J HF.out (fun k=>A k∨k=wr.heap.size) pre (wr.alloc (Obj.cells #[.int .i64 s,.string ifld,.string iass] 44)).drew HJB.out hlen (by omega) (fun q hq=>HOK.out q (by rw [← HO.out]; simp [hq])) (fun i hi=>by
      obtain ⟨b,off,e,hb,q,hq,hc⟩:=HRWX.out _ hBb.drew i hi
      exact ⟨b,off,e,.inl (HAA.out _ (HAB.out _ (by omega))),q,hq,hc⟩))
    have HYY:Hid (Calls Tryz.prog 121 #[.slice rwa row.length rwc,.func (.yield l) #[] #[]] (wr.alloc (Obj.cells #[.int .i64 s,.string ifld,.string iass] 44)).drew fun e W'=>e=.returned (.bool true)∧J (fun k=>A k∨k=wr.heap.size) (pre++row) W'∧(W'.cell? ⟨K1,0,none⟩=some (.pointer (some ⟨G,0,none⟩))∧W'.cell? ⟨G,0,none⟩=some (.pointer (some ⟨V,0,none⟩))∧W'.cell? ⟨V,3,none⟩=some (.slice (some ⟨eb,eo,none⟩) f.n ec)∧W'.cell? ⟨V,4,none⟩=some (.slice (some ⟨fb,fo,none⟩) f.n fc)∧W'.cell? ⟨eb,eo+s,none⟩=some (.bool em)∧W'.cell? ⟨fb,fo+s,none⟩=some (.slice rwa row.length rwc)∧W'.cell? ⟨wr.heap.size,0,none⟩=some (.int .i64 s))∧But (fun k=>¬ A1 k) W2 W'):=by
      refine hY.mono ?_
      rintro e W' ⟨rfl,k1,k2⟩
      have hbv:Below wv.heap.size wv W':=hBb.drew.trans (k2.below (by have:=hBb.size; exact this) (fun k hk=>Nat.le_of_not_lt (fun h=>hk (.inl (HAA.out k (HAB.out k (by omega)))))))
      have kc:∀ {b o:Nat} {v:Value},(A b∨b=wr.heap.size)→(wr.alloc (Obj.cells #[.int .i64 s,.string ifld,.string iass] 44)).drew.cell? ⟨b,o,none⟩=some v→W'.cell? ⟨b,o,none⟩=some v:=fun {b o v} hb hv=>(k2.cell (p:=⟨b,o,none⟩) (World.block_lt_of_cell? _ _ hv) (fun h=>h hb)).trans hv
      exact ⟨rfl,k1,HVX.out _ hbv (kc (.inl (HAA.out _ HAK.out.1)) hS4.1) (HF.out.fx _ _ _ k1) (kc (.inr rfl) hbox),hBT2.trans (k2.mono (fun k _ hk hp=>hk (.inl (HAA.out k hp))))⟩
    clear hO HRWX Bb' hbox hBb hk1r hg0r hBw HVX hY hlen HJB q1
    gi_wp2
    generalize wr.alloc (Obj.cells #[.int .i64 s,.string ifld,.string iass] 44)=wb at *
    refine wpIn_wide.2 ?_
    refine wp_region_L (fun W=>W.cell? ⟨K1,0,none⟩=some (.pointer (some ⟨G,0,none⟩))∧W.cell? ⟨G,0,none⟩=some (.pointer (some ⟨V,0,none⟩))∧W.cell? ⟨V,3,none⟩=some (.slice (some ⟨eb,eo,none⟩) f.n ec)∧W.cell? ⟨V,4,none⟩=some (.slice (some ⟨fb,fo,none⟩) f.n fc)∧W.cell? ⟨eb,eo+s,none⟩=some (.bool em)∧W.cell? ⟨fb,fo+s,none⟩=some (.slice rwa row.length rwc)∧W.cell? ⟨wr.heap.size,0,none⟩=some (.int .i64 s)) 31 (by kernel_rfl) 31 rfl ?_
    refine tk 0 ⟨some 36,.move (.tmp 4),4, "grower.go:73",#[],none⟩ hS4 ?_;simp only [Act.put,sA,s0,sS]
    refine tk 1 ⟨some 37,.move (.tmp 36),4, "grower.go:73",#[⟨0,.data⟩],none⟩ hS4 ?_;simp only [Act.put,sA,s0,sS]
    refine tk 2 ⟨some 38,.load 158 (.tmp 1),158, "grower.go:73",#[⟨1,.guard⟩],some (1,true)⟩ hS4 ?_;simp only [Act.put,sA,s0,sS]
    refine tk 3 ⟨some 39,.nilCheck (.tmp 38),0, "grower.go:73",#[⟨2,.data⟩,⟨1,.guard⟩],some (1,true)⟩ hS4 ?_;simp only [Act.put,sA,s0,sS]
    refine tk 4 ⟨some 40,.fieldAddr 185 (.tmp 39) 0,0, "grower.go:73",#[⟨3,.data⟩,⟨1,.guard⟩],some (1,true)⟩ hS4 ?_;simp only [Act.put,sA,s0,sS]
    refine tk 5 ⟨some 41,.load 99 (.tmp 40),99, "grower.go:73",#[⟨4,.data⟩,⟨1,.guard⟩],some (1,true)⟩ hS4 ?_;simp only [Act.put,sA,s0,sS]
    refine tk 6 ⟨some 42,.nilCheck (.tmp 41),0, "grower.go:73",#[⟨5,.data⟩,⟨1,.guard⟩],some (1,true)⟩ hS4 ?_;simp only [Act.put,sA,s0,sS]
    refine tk 7 ⟨some 43,.fieldAddr 133 (.tmp 42) 2,0, "grower.go:73",#[⟨6,.data⟩,⟨1,.guard⟩],some (1,true)⟩ hS4 ?_;simp only [Act.put,sA,s0,sS]
    refine tk 8 ⟨some 44,.load 130 (.tmp 43),130, "grower.go:73",#[⟨7,.data⟩,⟨1,.guard⟩],some (1,true)⟩ hS4 ?_;simp only [Act.put,sA,s0,sS]
    refine tk 9 ⟨some 45,.fieldAddr 44 (.tmp 6) 0,0, "grower.go:73",#[⟨1,.guard⟩],some (1,true)⟩ hS4 ?_;simp only [Act.put,sA,s0,sS]
    refine tk 10 ⟨some 46,.load 3 (.tmp 45),3, "grower.go:73",#[⟨9,.data⟩,⟨1,.guard⟩],some (1,true)⟩ hS4 ?_;simp only [Act.put,sA,s0,sS]
    refine tk 11 ⟨some 47,.indexAddr 130 (.tmp 44) (.tmp 46),0, "grower.go:73",#[⟨8,.data⟩,⟨10,.data⟩,⟨1,.guard⟩],some (1,true)⟩ hS4 ?_;simp only [Act.put,sA,s0,sS]
    refine tk 12 ⟨some 48,.load 39 (.tmp 47),39, "grower.go:73",#[⟨11,.data⟩,⟨1,.guard⟩],some (1,true)⟩ hS4 ?_;simp only [Act.put,sA,s0,sS]
    refine tk 13 ⟨some 49,.move (.tmp 0),166, "grower.go:73",#[⟨1,.guard⟩],some (1,true)⟩ hS4 ?_;simp only [Act.put,sA,s0,sS]
    refine wpAnyL_one' (i:=14) (o:=⟨some 50,.call ⟨.value (.func 121),#[.tmp 48,.tmp 49],#[39,166]⟩,4, "grower.go:73",#[⟨12,.data⟩,⟨13,.data⟩,⟨1,.chain⟩,⟨1,.guard⟩],some (1,true)⟩) (by kernel_rfl) rfl rfl (fun K hK=>?_)
    go_simp
    refine HYY.out.mono ?_
    rintro e W3 ⟨rfl,hJ3,hS5,hB3⟩
    refine hK.out _ _ (fun _=>hS5) ?_
    clear hK HYY
    refine tk 15 ⟨some 51,.unOp .not 4 (.tmp 50),4, "grower.go:73",#[⟨14,.data⟩,⟨1,.guard⟩],some (1,true)⟩ hS5 ?_;simp only [Act.put,sA,s0,sS]
    refine tk 16 ⟨some 52,.pick (.tmp 37) (.tmp 51) (.const (.bool false)),4, "grower.go:73",#[⟨1,.data⟩,⟨15,.data⟩],none⟩ hS5 ?_;simp only [Act.put,sA,s0,sS]
    refine tk 17 ⟨some 53,.move (.tmp 52),4, "grower.go:73",#[⟨16,.data⟩,⟨14,.chain⟩],none⟩ hS5 ?_;simp only [Act.put,sA,s0,sS]
    refine tk 18 ⟨some 54,.load 158 (.tmp 1),158, "grower.go:73",#[⟨17,.guard⟩],some (17,false)⟩ hS5 ?_;simp only [Act.put,sA,s0,sS]
    refine tk 19 ⟨some 55,.nilCheck (.tmp 54),0, "grower.go:73",#[⟨18,.data⟩,⟨17,.guard⟩],some (17,false)⟩ hS5 ?_;simp only [Act.put,sA,s0,sS]
    refine tk 20 ⟨some 56,.fieldAddr 185 (.tmp 55) 0,0, "grower.go:73",#[⟨19,.data⟩,⟨17,.guard⟩],some (17,false)⟩ hS5 ?_;simp only [Act.put,sA,s0,sS]
    refine tk 21 ⟨some 57,.load 99 (.tmp 56),99, "grower.go:73",#[⟨20,.data⟩,⟨17,.guard⟩],some (17,false)⟩ hS5 ?_;simp only [Act.put,sA,s0,sS]
    refine tk 22 ⟨some 58,.nilCheck (.tmp 57),0, "grower.go:73",#[⟨21,.data⟩,⟨17,.guard⟩],some (17,false)⟩ hS5 ?_;simp only [Act.put,sA,s0,sS]
    refine tk 23 ⟨some 59,.fieldAddr 133 (.tmp 58) 1,0, "grower.go:73",#[⟨22,.data⟩,⟨17,.guard⟩],some (17,false)⟩ hS5 ?_;simp only [Act.put,sA,s0,sS]
    refine tk 24 ⟨some 60,.load 128 (.tmp 59),128, "grower.go:73",#[⟨23,.data⟩,⟨17,.guard⟩],some (17,false)⟩ hS5 ?_;simp only [Act.put,sA,s0,sS]
    refine tk 25 ⟨some 61,.fieldAddr 44 (.tmp 6) 0,0, "grower.go:73",#[⟨17,.guard⟩],some (17,false)⟩ hS5 ?_;simp only [Act.put,sA,s0,sS]
    refine tk 26 ⟨some 62,.load 3 (.tmp 61),3, "grower.go:73",#[⟨25,.data⟩,⟨17,.guard⟩],some (17,false)⟩ hS5 ?_;simp only [Act.put,sA,s0,sS]
    refine tk 27 ⟨some 63,.indexAddr 128 (.tmp 60) (.tmp 62),0, "grower.go:73",#[⟨24,.data⟩,⟨26,.data⟩,⟨17,.guard⟩],some (17,false)⟩ hS5 ?_;simp only [Act.put,sA,s0,sS]
    refine tk 28 ⟨some 64,.load 4 (.tmp 63),4, "grower.go:73",#[⟨27,.data⟩,⟨17,.guard⟩],some (17,false)⟩ hS5 ?_;simp only [Act.put,sA,s0,sS]
    refine tk 29 ⟨some 65,.unOp .not 4 (.tmp 64),4, "grower.go:73",#[⟨28,.data⟩,⟨17,.guard⟩],some (17,false)⟩ hS5 ?_;simp only [Act.put,sA,s0,sS]
    refine tk 30 ⟨some 66,.pick (.tmp 53) (.const (.bool true)) (.tmp 65),4, "grower.go:73",#[⟨17,.data⟩,⟨29,.data⟩],none⟩ hS5 ?_;simp only [Act.put,sA,s0,sS]
    refine wpAnyL_done (by kernel_rfl) ?_ _
    have HJE:Hid (J (fun k=>A k∨k=wr.heap.size) (pre++row) W3):=hJ3
    have HBE:Hid (But (fun k=>¬ A1 k) W2 W3):=hB3
    clear hJ3 hB3 hS5
    cases em with
    | false =>
      have HFN:Hid (J A0 OUT W3):=by rw [← HO.out]; simp only [Bool.false_eq_true,if_false,List.append_nil]; exact HF.out.less _ _ _ _ HJE.out (fun k hk=>.inl (HAA.out k (HA1.out k hk)))
      clear HO HJE hS4 hBT2
      gi_wp2
      refine bodyPost_ret (results_none rfl _ _ _) rfl ?_
      exact ⟨⟨_,rfl⟩,OUT,HOUT.out.symm,HFN.out⟩
    | true =>
      have HFN:Hid ((∀ k,A1 k→A k∨k=wr.heap.size)∧J (fun k=>A k∨k=wr.heap.size) (pre++row) W3∧But (fun k=>¬ A1 k) W2 W3∧(pre++row)++outL R Le true ((bs.drop (j+1)).map (fun y=>y.sym.toNat)) x2=OUT):=⟨fun k hk=>.inl (HAA.out k hk),HJE.out,HBE.out,by have:=HO.out; simp only [if_true] at this; exact this⟩
      clear HO HJE hS4 hBT2
      gi_wp2
      go_roundw
      case rel=>exact ⟨j+1,_,_,by go_num,by omega,HFN.out.1,HFN.out.2.1,HFN.out.2.2.1,HFN.out.2.2.2⟩
      case measure=>simp [intOf]; omega
end Go.Proofs.YtiamjafecbpfpaaGreatDoor
namespace Go.Proofs.YtiamjafecbpfpaaGreatDoor
theorem outL_true {R:List (List Int)} {Le:List Bool} {N:Nat} {emp:Nat→Prop} {fst:Nat→Int→Prop} (hR:∀ s,s<N→∀ t,t∈rowAt R s↔fst s t) (hL:∀ s,s<N→(onb Le s=true↔emp s)) {k t:Int} :
    ∀ {sy:List Nat},(∀ s∈sy,s<N)→(t∈outL R Le true sy k↔Beg emp fst (fun t=>t=k) sy t)
  | [],_=>by
    simp only [outL,List.mem_singleton]
    constructor
    · intro h; apply Beg.behind; exact h
    · intro h; cases h with | behind h=>exact h
  | s :: r,hs=>by
    have hsn:=hs s (by simp)
    have ih:=outL_true hR hL (k:=k) (t:=t) (sy:=r) (fun x hx=>hs x (by simp [hx]))
    simp only [outL,if_true,List.mem_append,hR s hsn]
    by_cases ho:onb Le s=true
    · rw [if_pos ho,ih]
      constructor
      · rintro (h | h)
        · exact .here h
        · exact .next ((hL _ hsn).1 ho) h
      · intro h
        cases h with
        | here h=>exact .inl h
        | next _ h=>exact .inr h
    · rw [if_neg ho]
      constructor
      · rintro (h | h)
        · exact .here h
        · cases h
      · intro h
        cases h with
        | here h=>exact .inl h
        | next h _=>exact absurd ((hL _ hsn).2 h) ho
theorem outL_false {R:List (List Int)} {Le:List Bool} {N:Nat} {emp:Nat→Prop} (hL:∀ s,s<N→(onb Le s=true↔emp s)) {k t:Int} :
    ∀ {sy:List Nat},(∀ s∈sy,s<N)→(t∈outL R Le false sy k↔(∀ s∈sy,emp s)∧t=k)
  | [],_=>by simp [outL]
  | s :: r,hs=>by
    have hsn:=hs s (by simp)
    have ih:=outL_false (R:=R) hL (k:=k) (t:=t) (sy:=r) (fun x hx=>hs x (by simp [hx]))
    simp only [outL,Bool.false_eq_true,if_false,List.nil_append]
    by_cases ho:onb Le s=true
    · rw [if_pos ho,ih]
      simp [(hL _ hsn).1 ho]
    · rw [if_neg ho]
      simp only [List.not_mem_nil,List.mem_cons,forall_eq_or_imp,false_iff,not_and]
      rintro ⟨h,_⟩; exact absurd ((hL _ hsn).2 h) ho
theorem outL_len {R:List (List Int)} {Le:List Bool} {fr:Bool} {k:Int} (h:∀ q,(rowAt R q).length≤601):∀ {sy:List Nat},(outL R Le fr sy k).length≤601 * sy.length+1
  | []=>by simp [outL]
  | s :: r=>by
    have ih:=outL_len (Le:=Le) (fr:=fr) (k:=k) h (sy:=r)
    have h1:=h s
    simp only [outL,List.length_append,List.length_cons]
    split <;> split <;> simp <;> omega
theorem mem_addI {L:List Ir} {x y:Ir}:y∈addI L x↔y∈L∨y=x:=by
  unfold addI
  split
  · rename_i h
    constructor
    · exact .inl
    · rintro (h' | rfl)
      · exact h'
      · exact h
  · simp
theorem pre_addI (L:List Ir) (x:Ir):L <+: addI L x:=by
  unfold addI
  split
  · exact List.prefix_refl _
  · exact List.prefix_append _ _
theorem nodup_addI {L:List Ir} {x:Ir} (h:L.Nodup):(addI L x).Nodup:=by
  unfold addI
  split
  · exact h
  · rename_i hx
    rw [List.nodup_append]
    refine ⟨h,by simp,fun a ha b hb=>?_⟩
    simp at hb; subst hb
    rintro rfl; exact hx ha
theorem fold_put {α:Type} (g:α→Ir):∀ (Q:List α) (L:List Ir),(L.Nodup→(Q.foldl (fun L q=>addI L (g q)) L).Nodup)∧L <+: Q.foldl (fun L q=>addI L (g q)) L∧∀ y,y∈Q.foldl (fun L q=>addI L (g q)) L↔y∈L∨∃ q∈Q,y=g q
  | [],L=>⟨id,List.prefix_refl _,by simp⟩
  | q :: Q,L=>by
    obtain ⟨h1,h2,h3⟩:=fold_put g Q (addI L (g q))
    refine ⟨fun h=>h1 (nodup_addI h),(pre_addI L (g q)).trans h2,fun y=>?_⟩
    rw [List.foldl_cons,h3,mem_addI]
    simp only [List.mem_cons,exists_eq_or_imp]
    exact or_assoc
structure GI (f:Fl) (S0:Ir→Prop) (L:List Ir) (C S:List (Int × Int)) (k:Nat):Prop where
  nodup:L.Nodup
  sound:∀ x∈L,Cl f S0 x
  base:∀ x,S0 x→fitI f x=true→x∈L
  begun:∀ (s t:Int) (q:Nat) (p:Pr),(s,t)∈S→f.prods[q]?=some p→p.left=s→((q:Int),(0:Int),t)∈L
  snodup:S.Nodup
  sb:∀ p∈S,0≤p.1∧p.1<f.n∧0≤p.2∧p.2≤f.terms.length
  cnodup:C.Nodup
  cb:∀ c∈C,-1≤c.1∧c.1<f.prods.length∧0≤c.2∧c.2≤64
  cores:∀ (x:Ir) (s t:Int) (q:Nat) (p:Pr),(x.1,x.2.1)∈C→nextI f x=some s→Beg (EmpP f) (FstP f) (fun _=>False) (behI f x) t→f.prods[q]?=some p→p.left=s→((q:Int),(0:Int),t)∈L
  done:∀ (i:Nat) (x:Ir) (s t:Int) (q:Nat) (p:Pr),i<k→L[i]?=some x→nextI f x=some s→f.prods[q]?=some p→p.left=s→LookP f x t→((q:Int),(0:Int),t)∈L
  le:k≤L.length
theorem GI.len {f:Fl} {S0:Ir→Prop} {L:List Ir} {C S:List (Int × Int)} {k:Nat} (hp:FitP f) (h:GI f S0 L C S k):L.length≤maxI:=items_le hp h.nodup (fun x hx=>cl_fit (h.sound x hx))
theorem pairs_le {S:List (Int × Int)} (hn:S.Nodup) (hb:∀ p∈S,-1≤p.1∧p.1≤600∧0≤p.2∧p.2≤600):S.length≤1000000:=by
  have hm:(S.map fun p=>(p.1+1).toNat * 601+p.2.toNat).Nodup:=by
    unfold List.Nodup at hn ⊢
    rw [List.pairwise_map]
    refine hn.imp_of_mem (fun {a b} ha hb' hab e=>hab ?_)
    have h1:=hb a ha
    have h2:=hb b hb'
    exact Prod.ext (by omega) (by omega)
  have:=hm.length_le_of_subset (l₂:=List.range 1000000) (fun y hy=>by
    obtain ⟨x,hx,rfl⟩:=List.mem_map.1 hy
    have h1:=hb x hx
    rw [List.mem_range]
    omega)
  simpa using this
theorem GI.slen {f:Fl} {S0:Ir→Prop} {L:List Ir} {C S:List (Int × Int)} {k:Nat} (hp:FitP f) (h:GI f S0 L C S k):S.length≤1000000:=pairs_le h.snodup (fun p hx=>by
  have h1:=h.sb p hx
  have h2:f.terms.length+f.nons.length≤600:=hp.size
  have h3:f.n=f.terms.length+f.nons.length:=rfl
  omega)
theorem GI.clen {f:Fl} {S0:Ir→Prop} {L:List Ir} {C S:List (Int × Int)} {k:Nat} (hp:FitP f) (h:GI f S0 L C S k):C.length≤1000000:=pairs_le h.cnodup (fun p hx=>by
  have h1:=h.cb p hx
  have h2:=hp.prods
  omega)
theorem pre_get {α:Type} {L M:List α} (h:L <+: M) {i:Nat} (hi:i<L.length):M[i]?=L[i]?:=by
  obtain ⟨r,rfl⟩:=h
  exact List.getElem?_append_left hi
theorem GI.start {f:Fl} {l:List Ir} (hl:∀ x∈l,fitI f x=true):GI f (fun x=>x∈l) (l.foldl (fun L x=>addI L x) []) [] [] 0:=by
  obtain ⟨h1,_,h3⟩:=fold_put (fun x:Ir=>x) l []
  refine ⟨h1 List.nodup_nil,fun x hx=>?_,fun x hx _=>(h3 x).2 (.inr ⟨x,hx,rfl⟩),by simp,List.nodup_nil,by simp,List.nodup_nil,by simp,by simp,fun i x s t q p hi=>by omega,Nat.zero_le _⟩
  rcases (h3 x).1 hx with h | ⟨y,hy,rfl⟩
  · cases h
  · exact .base hy (hl _ hy)
theorem GI.begin {f:Fl} {S0:Ir→Prop} {L:List Ir} {C S:List (Int × Int)} {k:Nat} (hp:FitP f) (h:GI f S0 L C S k) {x:Ir} (hx:Cl f S0 x) {s:Nat} {t:Int} (hn:nextI f x=some (s:Int)) (ht:LookP f x t) :
    GI f S0 (begL1 f L S s t) C (begS S s t) k∧((s:Int),t)∈begS S s t∧L <+: begL1 f L S s t∧∀ y∈S,y∈begS S s t:=by
  by_cases hin:((s:Int),t)∈S
  · have e1:begS S s t=S:=by unfold begS; rw [if_pos hin]
    have e2:begL1 f L S s t=L:=by unfold begL1; rw [if_pos hin]
    rw [e1,e2]
    exact ⟨h,hin,List.prefix_refl _,fun _ h=>h⟩
  have e1:begS S s t=S++[((s:Int),t)]:=by unfold begS; rw [if_neg hin]
  have e2:begL1 f L S s t=(ofA f (s:Int)).foldl (fun L q=>addI L (q,0,t)) L:=by unfold begL1; rw [if_neg hin]; rfl
  rw [e1,e2]
  obtain ⟨h1,h2,h3⟩:=fold_put (fun q:Int=>((q,0,t):Ir)) (ofA f (s:Int)) L
  have hsub:∀ y∈L,y∈(ofA f (s:Int)).foldl (fun L q=>addI L (q,0,t)) L:=fun y hy=>(h3 y).2 (.inl hy)
  refine ⟨⟨h1 h.nodup,fun y hy=>?_,fun y hy hf=>hsub _ (h.base y hy hf),fun s' t' q p hst hq hl=>?_,?_,fun p hpS=>?_,h.cnodup,h.cb,fun y s' t' q p hc hn' hb hq hl=>hsub _ (h.cores y s' t' q p hc hn' hb hq hl),fun i y s' t' q p hi hy hn' hq hl hk=>?_,Nat.le_trans h.le h2.length_le⟩,by simp,h2,fun y hy=>by simp [hy]⟩
  · rcases (h3 y).1 hy with hy | ⟨q',hq',rfl⟩
    · exact h.sound y hy
    · obtain ⟨q,p,rfl,k1,k2⟩:=mem_ofA.1 hq'
      exact .step hx hn k1 k2 ht
  · rcases List.mem_append.1 hst with hst | hst
    · exact hsub _ (h.begun s' t' q p hst hq hl)
    · simp at hst
      obtain ⟨rfl,rfl⟩:=hst
      exact (h3 _).2 (.inr ⟨q,mem_ofA.2 ⟨q,p,rfl,hq,hl⟩,rfl⟩)
  · rw [List.nodup_append]
    refine ⟨h.snodup,by simp,fun a ha b hb=>?_⟩
    simp at hb; subst hb
    rintro rfl; exact hin ha
  · rcases List.mem_append.1 hpS with hpS | hpS
    · exact h.sb p hpS
    · simp at hpS; subst hpS
      have h4:=nextI_lt hp hn
      have h5:=look_le (cl_fit hx) ht
      simp only
      omega
  · rw [pre_get h2 (by have:=h.le; omega)] at hy
    exact hsub _ (h.done i y s' t' q p hi hy hn' hq hl hk)
theorem GI.skip {f:Fl} {S0:Ir→Prop} {L:List Ir} {C S:List (Int × Int)} {k:Nat} (h:GI f S0 L C S k) {x:Ir} (hx:L[k]?=some x) (hs:∀ (s:Int) (q:Nat) (p:Pr),nextI f x=some s→f.prods[q]?=some p→p.left≠s):GI f S0 L C S (k+1):=by
  refine ⟨h.nodup,h.sound,h.base,h.begun,h.snodup,h.sb,h.cnodup,h.cb,h.cores,fun i y s t q p hi hy hn hq hl hk=>?_,(List.getElem?_eq_some_iff.1 hx).1⟩
  rcases Nat.lt_or_ge i k with h' | h'
  · exact h.done i y s t q p h' hy hn hq hl hk
  · obtain rfl:i=k:=by omega
    rw [hx] at hy; cases hy
    exact absurd hl (hs s q p hn hq)
theorem GI.next {f:Fl} {R:List (List Int)} {Le:List Bool} (hfe:FE f R Le) (hp:FitP f) {S0:Ir→Prop} {L:List Ir} {C S:List (Int × Int)} {k:Nat} (h:GI f S0 L C S k) {x:Ir} (hx:L[k]?=some x) {s:Int} (hn:nextI f x=some s)
    (hall:∀ t∈outL R Le (!decide ((x.1,x.2.1)∈C)) (behI f x) x.2.2,(s,t)∈S):GI f S0 L (coreS C x) S (k+1):=by
  have hfit:=nextI_fit hn
  have hxf:=fitI_iff.1 hfit
  have h64:=rightI_le hp x.1
  have hR:∀ s,s<f.n→∀ t,t∈rowAt R s↔FstP f s t:=fun _ hs _=>rowAt_gives hfe.r hs
  have hL:∀ s,s<f.n→(onb Le s=true↔EmpP f s):=fun _ hs=>onb_gives hfe.e hs
  -- all that it begins with is there
  have hlook:∀ (t:Int) (q:Nat) (p:Pr),LookP f x t→f.prods[q]?=some p→p.left=s→((q:Int),(0:Int),t)∈L:=fun t q p ht hq hl=>by
    by_cases hc:(x.1,x.2.1)∈C
    · rcases beg_iff.1 ht with hb | hb
      · exact h.cores x s t q p hc hn hb hq hl
      · refine h.begun s t q p (hall t ?_) hq hl
        rw [decide_eq_true hc]
        exact (outL_false hL (behI_lt hp)).2 hb
    · refine h.begun s t q p (hall t ?_) hq hl
      rw [decide_eq_false hc]
      exact (outL_true hR hL (behI_lt hp)).2 ht
  refine ⟨h.nodup,h.sound,h.base,h.begun,h.snodup,h.sb,?_,fun c hc=>?_,fun y s' t q p hc hn' hb hq hl=>?_,fun i y s' t q p hi hy hn' hq hl hk=>?_,(List.getElem?_eq_some_iff.1 hx).1⟩
  · unfold coreS
    split
    · exact h.cnodup
    · rename_i hc
      rw [List.nodup_append]
      refine ⟨h.cnodup,by simp,fun a ha b hb=>?_⟩
      simp at hb; subst hb
      rintro rfl; exact hc ha
  · unfold coreS at hc
    split at hc
    · exact h.cb c hc
    · rcases List.mem_append.1 hc with hc | hc
      · exact h.cb c hc
      · simp at hc; subst hc
        simp only
        omega
  · have hor:(y.1,y.2.1)∈C∨(y.1,y.2.1)=(x.1,x.2.1):=by
      unfold coreS at hc
      split at hc
      · exact .inl hc
      · rcases List.mem_append.1 hc with hc | hc
        · exact .inl hc
        · simp at hc; exact .inr (Prod.ext hc.1 hc.2)
    rcases hor with hc | hc
    · exact h.cores y s' t q p hc hn' hb hq hl
    · simp only [Prod.mk.injEq] at hc
      obtain ⟨_,z,hz,hzs⟩:=nextI_some hn
      obtain ⟨_,z',hz',hzs'⟩:=nextI_some hn'
      rw [hc.1,hc.2,hz] at hz'
      cases hz'
      rw [hzs] at hzs'
      subst hzs'
      rw [behI_core hc.1 hc.2] at hb
      exact hlook t q p (beg_iff.2 (.inl hb)) hq hl
  · rcases Nat.lt_or_ge i k with h' | h'
    · exact h.done i y s' t q p h' hy hn' hq hl hk
    · obtain rfl:i=k:=by omega
      rw [hx] at hy; cases hy
      rw [hn] at hn'; cases hn'
      exact hlook t q p hk hq hl
theorem out_look {f:Fl} {R:List (List Int)} {Le:List Bool} (hfe:FE f R Le) (hp:FitP f) {x:Ir} {fr:Bool} {t:Int} (h:t∈outL R Le fr (behI f x) x.2.2):LookP f x t:=by
  have hR:∀ s,s<f.n→∀ t,t∈rowAt R s↔FstP f s t:=fun _ hs _=>rowAt_gives hfe.r hs
  have hL:∀ s,s<f.n→(onb Le s=true↔EmpP f s):=fun _ hs=>onb_gives hfe.e hs
  cases fr with
  | true=>exact (outL_true hR hL (behI_lt hp)).1 h
  | false=>exact beg_iff.2 (.inr ((outL_false hL (behI_lt hp)).1 h))
theorem GI.done' {f:Fl} {S0:Ir→Prop} {L:List Ir} {C S:List (Int × Int)} (h:GI f S0 L C S L.length) (x:Ir):x∈L↔Cl f S0 x :=
  ⟨h.sound x,fun hx=>cl_least (A:=fun x=>x∈L) h.base (fun y s t q p hy hn hq hl hk=>by
    obtain ⟨i,hi,rfl⟩:=List.getElem_of_mem hy
    exact h.done i _ s t q p hi (by simp [hi]) hn hq hl hk) hx⟩
end Go.Proofs.YtiamjafecbpfpaaGreatDoor
namespace Go.Proofs.YtiamjafecbpfpaaGreatDoor
open Go.RowKit Go.Shelf
attribute [local go_sem] Oper.semAt_some
def GInv (f:Fl) (S0:Ir→Prop) (Bi Bc Bb G V K0:Nat) (w:World) (Ds:List Nat) (k:Nat) (L:List Ir) (C S:List (Int × Int)) (lv:Value) (W:World):Prop :=
  GS Bi Bc Bb G V lv L C S W∧GI f S0 L C S k∧Apt (fun q=>q<Bi∨q=K0∨q∈Ds) Bi Bc Bb G lv W∧Mk Bi Ds W∧W.cell? ⟨K0,0,none⟩=some (.pointer (some ⟨G,0,none⟩))∧Below Bi w W∧0<L.length
theorem GS.apt {Bi Bc Bb G V:Nat} {lv:Value} {L:List Ir} {C S:List (Int × Int)} {W W':World} {D P:Nat→Prop} (h:GS Bi Bc Bb G V lv L C S W) (ha:Apt P Bi Bc Bb G lv W) (hb:But D W W') (hd:∀ k,D k→P k):GS Bi Bc Bb G V lv L C S W':=by
  have hl:=h.lt
  have nG:¬ D G:=fun hk=>(ha.1 G (hd G hk)).2.2.2.2 rfl
  have c:∀ {o v},W.cell? ⟨G,o,none⟩=some v→W'.cell? ⟨G,o,none⟩=some v:=fun {o v} hv=>(hb.cell (p:=⟨G,o,none⟩) hl nG).trans hv
  refine ⟨h.o1,h.o2,h.o3,Nat.lt_of_lt_of_le hl hb.size,c h.g0,c h.g1,c h.g2,c h.g3,c h.g4,(hb.frozen (p:=⟨G,2,none⟩) hl nG).trans h.fz,h.mi.but hb (fun hk=>(ha.1 _ (hd _ hk)).2.1 rfl),h.mc.but hb (fun hk=>(ha.1 _ (hd _ hk)).2.2.1 rfl),h.mb.but hb (fun hk=>(ha.1 _ (hd _ hk)).2.2.2.1 rfl),?_⟩
  obtain ⟨h1,h2⟩:=h.own
  refine ⟨h1,?_⟩
  rcases h2 with ⟨rfl,hn⟩ | ⟨g,cap,cur,rfl,hB,hg,h3⟩
  · exact .inl ⟨rfl,hn⟩
  · have hlt:g<W.heap.size:=(Array.getElem?_eq_some_iff.1 hg).1
    exact .inr ⟨g,cap,cur,rfl,hB,(hb.block g hlt (fun hk=>ha.2 g (by simp [Value.ownBlock]) (hd g hk))).trans hg,h3⟩
theorem Apt.less {P Q:Nat→Prop} {Bi Bc Bb G:Nat} {lv:Value} {w:World} (h:Apt P Bi Bc Bb G lv w) (hq:∀ k,Q k→P k):Apt Q Bi Bc Bb G lv w:=⟨fun k hk=>h.1 k (hq k hk),fun k e hk=>h.2 k e (hq k hk)⟩
theorem Apt.new {P:Nat→Prop} {Bi Bc Bb G V:Nat} {lv:Value} {L:List Ir} {C S:List (Int × Int)} {W W':World} (h:Apt P Bi Bc Bb G lv W) (hg:GS Bi Bc Bb G V lv L C S W) (hs:W.heap.size≤W'.heap.size):Apt (fun k=>P k∨(W.heap.size≤k∧k<W'.heap.size)) Bi Bc Bb G lv W':=by
  have h1:=hg.o1; have h2:=hg.o2; have h3:=hg.o3; have h4:=hg.lt
  refine ⟨fun k hk=>?_,fun k e hk=>?_⟩
  · rcases hk with hk | hk
    · exact (h.next hs).1 k hk
    · omega
  · rcases hk with hk | hk
    · exact h.2 k e hk
    · have:=World.ownsRow.lt hg.own k e; omega
def RInv (f:Fl) (S0:Ir→Prop) (wv w:World) (Bi Bc Bb G V K0 Y:Nat) (Ds:List Nat) (Az:Nat→Prop) (k:Nat) (L:List Ir) (C:List (Int × Int)) (x:Ir) (s:Nat) (A:Nat→Prop) (pre:List Int) (W:World):Prop :=
  ∃ L' S' lv',GS Bi Bc Bb G V lv' L' (coreS C x) S' W∧GI f S0 L' C S' k∧L <+: L'∧(∀ t∈pre,((s:Int),t)∈S')∧Apt (fun q=>A q∨Az q) Bi Bc Bb G lv' W∧W.cell? ⟨K0,0,none⟩=some (.pointer (some ⟨G,0,none⟩))∧W.cell? ⟨Y,0,none⟩=some (.int .i64 s)∧Below wv.heap.size wv W∧Mk Bi Ds W∧Below Bi w W
set_option maxRecDepth 100000 in
set_option maxHeartbeats 2000000 in
theorem grown_range (n:Nat) (hn:5≤n) (f:Fl) (a:FlA) (Le:List Bool) (R:List (List Int)) (wv:World) (Bi Bc Bb G V K0 K1 K2 Y:Nat) (S0:Ir→Prop) (Ds:List Nat) (k s:Nat) (lv:Value) (L:List Ir) (C S:List (Int × Int)) (x:Ir) (w W:World)
    {t2 t3 t4 t6 t7 t8 t9 t10 t11 t12 t13 t14 t15 t16 t17 t18 t19 t20 t21 t22 t23 t24 t25 t26 t27 t28 t29 t30 t31 t32 t33 t34 t35 t36 t37 t38 t39 t40 t41 t42 t43 t44 t45 t46 t47 t48 t49 t50 t51 t52 t53 t55 t56 t57 t58 t59 t60 t61 t62 t63 t64 t65 t66 t67 t68 t69:Value} {Q:Exit→Act→World→Prop}
    (h:GS Bi Bc Bb G V lv L C S W) (hv:VwAt f a V Le R wv) (hf:FlAt f a wv) (hfe:FE f R Le) (hwv:wv.heap.size≤Bi) (hB:Below wv.heap.size wv W) (hp:FitP f) (hG:GI f S0 L C S k) (hLk:L[k]?=some x) (hCx:Cl f S0 x) (hnx:nextI f x=some (s:Int))
    (hAp:Apt (fun q=>q<Bi∨q=K0∨q∈Ds∨q=Y∨q=K1∨q=K2) Bi Bc Bb G lv W) (hMk:Mk Bi Ds W) (hc0:W.cell? ⟨K0,0,none⟩=some (.pointer (some ⟨G,0,none⟩))) (hcY:W.cell? ⟨Y,0,none⟩=some (.int .i64 s)) (hk1:W.cell? ⟨K1,0,none⟩=some (.pointer (some ⟨G,0,none⟩))) (hk2:RBox x K2 W) (hBw:Below Bi w W)
    (hQ:∀ (D:Nat) (L':List Ir) (C' S':List (Int × Int)) (lv':Value) (W':World),GInv f S0 Bi Bc Bb G V K0 w (D :: Ds) (k+1) L' C' S' lv' W'→Q .normal { tmps:=#[.pointer (some ⟨G,0,none⟩),.pointer (some ⟨K0,0,none⟩),t2,t3,t4,.pointer (some ⟨Y,0,none⟩),t6,t7,t8,t9,t10,t11,t12,t13,t14,t15,t16,t17,t18,t19,t20,t21,t22,t23,t24,t25,t26,t27,t28,t29,t30,t31,t32,t33,t34,t35,t36,t37,t38,t39,t40,t41,t42,t43,t44,t45,t46,t47,t48,t49,t50,t51,t52,t53,.func (.func 119) #[] #[.pointer (some ⟨K1,0,none⟩),.pointer (some ⟨K2,0,none⟩)],t55,t56,t57,t58,t59,t60,t61,t62,t63,t64,t65,t66,t67,t68,t69],defers:=mark D :: Ds.map mark } W') :
    (Code.rangeFunc (Operand.tmp 54) #[55] (Code.region 8 #[⟨some 7,.assign (.tmp 55),3, "grower.go:50",#[],none⟩] false) (Code.block 3 (Code.region 9 #[⟨some 56,.load 158 (.tmp 1),158, "grower.go:51",#[],none⟩,⟨some 57,.load 3 (.tmp 5),3, "grower.go:51",#[],none⟩,⟨some 58,.move (.tmp 7),3, "grower.go:51",#[],none⟩,⟨some 59,.build 190 #[(0,.tmp 57),(1,.tmp 58)],190, "grower.go:51",#[⟨1,.data⟩,⟨2,.data⟩],none⟩,⟨some 60,.call ⟨.value (.func 103),#[.tmp 56,.tmp 59],#[158,190]⟩,0, "grower.go:51",#[⟨0,.data⟩,⟨3,.data⟩],none⟩] false))).wpIn Fence.wide n Tryz.prog Q { tmps:=#[.pointer (some ⟨G,0,none⟩),.pointer (some ⟨K0,0,none⟩),t2,t3,t4,.pointer (some ⟨Y,0,none⟩),t6,t7,t8,t9,t10,t11,t12,t13,t14,t15,t16,t17,t18,t19,t20,t21,t22,t23,t24,t25,t26,t27,t28,t29,t30,t31,t32,t33,t34,t35,t36,t37,t38,t39,t40,t41,t42,t43,t44,t45,t46,t47,t48,t49,t50,t51,t52,t53,.func (.func 119) #[] #[.pointer (some ⟨K1,0,none⟩),.pointer (some ⟨K2,0,none⟩)],t55,t56,t57,t58,t59,t60,t61,t62,t63,t64,t65,t66,t67,t68,t69],defers:=Ds.map mark } W:=by
  have hlt:=h.lt
  have ho1:=h.o1
  have ho2:=h.o2
  have ho3:=h.o3
  have hK0:K0<W.heap.size:=World.block_lt_of_cell? _ _ hc0
  have hY:Y<W.heap.size:=World.block_lt_of_cell? _ _ hcY
  have hDl:=hMk.lt
  have hxf:=nextI_fit hnx
  have hsn:=nextI_lt hp hnx
  have hsn':s<f.n:=by omega
  have hn6:f.n≤600:=hp.size
  have hBi:Bi≤W.heap.size:=by omega
  obtain ⟨_,yy,hyy,_⟩:=nextI_some hnx
  have hdd:x.2.1.toNat<(rightI f x.1).length:=(List.getElem?_eq_some_iff.1 hyy).1
  refine wpIn_range_P (α:=Int) (by omega) (gf:=119) (lb:=#[.pointer (some ⟨K1,0,none⟩),.pointer (some ⟨K2,0,none⟩)]) rfl (enters_of Tryz.func119 (by kernel_rfl) rfl)
    (encs:=fun q=>#[.int .i64 q]) (N:=601 * 64+1) (Ok:=LookP f x) (A0:=(fun q=>q<Bi∨q=K0∨q∈Ds∨q=Y∨q=K1∨q=K2)) (fun _=>rfl)
    (fun W' hb=>looks1_gives (n - 1) (by omega) f a Le R wv Bi Bc Bb G V lv L C S x K1 K2 _ _ _ W' (h.next hb) hv hf hwv (hB.trans (hb.mono hB.size)) hp hfe.e.1 hfe.r.1 (fun q=>first_row_le hn6 hfe.r q)
      ((hb.cell (p:=⟨K1,0,none⟩) (World.block_lt_of_cell? _ _ hk1)).trans hk1) (hk2.next hb) (by simp) (by simp) (hAp.1 K1 (by simp)).2.2.1 (hAp.1 K2 (by simp)).2.2.1 (fun k hk=>.inl hk) hxf hdd ?_ (by have:=hG.clen hp; omega) (fun t ht=>out_look hfe hp ht))
    (RInv f S0 wv w Bi Bc Bb G V K0 Y Ds (fun q=>q<Bi∨q=K0∨q∈Ds∨q=Y∨q=K1∨q=K2) k L C x s) ⟨?_,?_,?_⟩ ?_ ?_ ?_ (fun q a'=>a'={ tmps:=#[.pointer (some ⟨G,0,none⟩),.pointer (some ⟨K0,0,none⟩),t2,t3,t4,.pointer (some ⟨Y,0,none⟩),t6,.int .i64 q,t8,t9,t10,t11,t12,t13,t14,t15,t16,t17,t18,t19,t20,t21,t22,t23,t24,t25,t26,t27,t28,t29,t30,t31,t32,t33,t34,t35,t36,t37,t38,t39,t40,t41,t42,t43,t44,t45,t46,t47,t48,t49,t50,t51,t52,t53,.func (.func 119) #[] #[.pointer (some ⟨K1,0,none⟩),.pointer (some ⟨K2,0,none⟩)],.int .i64 q,t56,t57,t58,t59,t60,t61,t62,t63,t64,t65,t66,t67,t68,t69],defers:=[] }) ?_ ?_ ?_
  · refine Nat.le_trans (outL_len (fun q=>first_row_le hn6 hfe.r q)) ?_
    have h1:(behI f x).length≤64:=by
      unfold behI
      rw [List.length_map,List.length_drop]
      have:=rightI_le hp x.1
      omega
    have:=Nat.mul_le_mul_left 601 h1
    omega
  · rintro A pre W1 W2 ⟨L',S',lv',g1,g2,g3,g4,g5,g6,g7,g8,g9,g10⟩ hb
    refine ⟨L',S',lv',g1.next hb,g2,g3,g4,?_,(hb.cell (p:=⟨K0,0,none⟩) (World.block_lt_of_cell? _ _ g6)).trans g6,(hb.cell (p:=⟨Y,0,none⟩) (World.block_lt_of_cell? _ _ g7)).trans g7,g8.trans (hb.mono g8.size),⟨g9.1,fun d hd=>⟨(g9.2 d hd).1,(hb.block d (g9.lt d hd)).trans (g9.2 d hd).2⟩⟩,g10.trans (hb.mono (by have:=g10.size; have:=g1.lt; have:=g1.o1; have:=g1.o2; have:=g1.o3; omega))⟩
    refine (g5.new g1 hb.size).less (fun k hk=>?_)
    rcases hk with (hk | hk) | hk
    · exact .inl (.inl hk)
    · exact .inr hk
    · exact .inl (.inr hk)
  · rintro A pre W1 k ⟨L',S',lv',g1,g2,g3,g4,g5,_⟩ hk
    exact (g5.1 k (.inl hk)).1
  · rintro A A' pre W1 ⟨L',S',lv',g1,g2,g3,g4,g5,g6⟩ hk
    exact ⟨L',S',lv',g1,g2,g3,g4,g5.less (fun k h=>h.imp (hk k) id),g6⟩
  · rintro A pre W1 ⟨L',S',lv',g1,_⟩
    exact g1.g0
  · rintro A pre W1 W2 ⟨L',S',lv',g1,g2,g3,g4,g5,g6,g7,g8,g9,g10⟩ hb hA
    refine ⟨L',S',lv',g1.apt g5 hb (fun k hk=>.inl (hk ▸ hA)),g2,g3,g4,g5.next hb.size,(hb.cell (p:=⟨K0,0,none⟩) (World.block_lt_of_cell? _ _ g6) (by simp only; omega)).trans g6,(hb.cell (p:=⟨Y,0,none⟩) (World.block_lt_of_cell? _ _ g7) (by simp only; omega)).trans g7,g8.trans (hb.below g8.size (fun k hk=>by have:=hB.size; omega)),⟨g9.1,fun d hd=>⟨(g9.2 d hd).1,hb.same (g9.2 d hd).2 (by have:=hDl d hd; omega)⟩⟩,g10.trans (hb.below (by have:=g10.size; have:=g1.lt; have:=g1.o1; have:=g1.o2; have:=g1.o3; omega) (fun k hk=>by omega))⟩
  · rintro W1 W2 hb hs ⟨g1,hbt⟩
    have hz:=hbt.size
    refine ⟨⟨L,S,lv,g1,hG,List.prefix_refl _,by simp,?_,(hbt.cell (p:=⟨K0,0,none⟩) (by have:=hb.size; simp only; omega) (hAp.1 K0 (by simp)).2.2.1).trans ((hb.cell (p:=⟨K0,0,none⟩) hK0).trans hc0),(hbt.cell (p:=⟨Y,0,none⟩) (by have:=hb.size; simp only; omega) (hAp.1 Y (by simp)).2.2.1).trans ((hb.cell (p:=⟨Y,0,none⟩) hY).trans hcY),(hB.trans (hb.mono hB.size)).trans (hbt.below (by have:=hB.size; have:=hb.size; omega) (fun k hk=>by omega)),⟨hMk.1,fun d hd=>⟨(hMk.2 d hd).1,hbt.same ((hb.block d (hDl d hd)).trans (hMk.2 d hd).2) (hAp.1 d (by simp [hd])).2.2.1⟩⟩,(hBw.trans (hb.mono hBi)).trans (hbt.below (by have:=hb.size; omega) (fun k hk=>by omega))⟩,hbt.block _ (by omega) (by omega),hbt.block _ (by omega) (by omega)⟩
    refine ((hAp.new (W':=W2) h (by omega)).less (fun k hk=>?_))
    rcases hk with (hk | hk | hk) | hk
    · exact .inl hk
    · exact .inr (by omega)
    · exact .inr (by omega)
    · exact .inl hk
  · rintro l q W1 K hK
    have HK:=hK _ rfl
    clear hK
    gi_wp2
    exact HK
  · rintro l A pre q a' W1 ⟨L',S',lv',g1,g2,g3,g4,g5,g6,g7,g8,g9,g10⟩ rfl hOk hlen
    have hq:=look_le hxf hOk
    have hcall:=gbegin_any (fun q=>A q∨(fun q=>q<Bi∨q=K0∨q∈Ds∨q=Y∨q=K1∨q=K2) q) f a Le R wv Bi Bc Bb G V lv' L' (coreS C x) S' s q W1 g1 hv hwv g8 (fun k hk=>.inr (.inl hk)) g5 hsn' (by have:f.terms.length+f.nons.length≤600:=hp.size; unfold i64B; omega) (by have:=hp.prods; omega) hn6 (by have:=g2.len hp; unfold maxI at this; omega) (by have:=g2.slen hp; omega)
    have HC:Hid (Calls Tryz.prog 103 #[.pointer (some ⟨G,0,none⟩),.agg #[.int .i64 s,.int .i64 q]] W1 fun e w'=>Grown (fun q=>A q∨(fun q=>q<Bi∨q=K0∨q∈Ds∨q=Y∨q=K1∨q=K2) q) Bi Bc Bb G V (begL1 f L' S' s q) (coreS C x) (begS S' s q) W1 e w'):=hcall
    have HB:Hid (GI f S0 (begL1 f L' S' s q) C (begS S' s q) k∧((s:Int),q)∈begS S' s q∧L' <+: begL1 f L' S' s q∧∀ y∈S',y∈begS S' s q):=g2.begin hp hCx hnx hOk
    have HF:Hid (∀ W2 lv2,GS Bi Bc Bb G V lv2 (begL1 f L' S' s q) (coreS C x) (begS S' s q) W2→Apt (fun q=>A q∨(fun q=>q<Bi∨q=K0∨q∈Ds∨q=Y∨q=K1∨q=K2) q) Bi Bc Bb G lv2 W2→But (fun k=>¬ (A k∨(fun q=>q<Bi∨q=K0∨q∈Ds∨q=Y∨q=K1∨q=K2) k)) W1 W2→RInv f S0 wv w Bi Bc Bb G V K0 Y Ds (fun q=>q<Bi∨q=K0∨q∈Ds∨q=Y∨q=K1∨q=K2) k L C x s A (pre++[q]) W2∧But (fun k=>¬ A k) W1 W2):=fun W2 lv2 k1 k2 k3=>by
      obtain ⟨b1,b2,b3,b4⟩:=HB.out
      refine ⟨⟨_,_,lv2,k1,b1,g3.trans b3,fun t ht=>?_,k2,(k3.cell (p:=⟨K0,0,none⟩) (World.block_lt_of_cell? _ _ g6) (by simp)).trans g6,(k3.cell (p:=⟨Y,0,none⟩) (World.block_lt_of_cell? _ _ g7) (by simp)).trans g7,g8.trans (k3.below g8.size (fun k hk=>?_)),⟨g9.1,fun d hd=>⟨(g9.2 d hd).1,k3.same (g9.2 d hd).2 (by simp [hd])⟩⟩,g10.trans (k3.below (by have:=g10.size; have:=g1.lt; omega) (fun k hk=>?_))⟩,k3.mono (fun k _ h1 h2=>h1 (.inl h2))⟩
      · rcases List.mem_append.1 ht with ht | ht
        · exact b4 _ (g4 t ht)
        · simp at ht; subst ht; exact b2
      · rcases Nat.lt_or_ge k Bi with h' | h'
        · exact absurd (.inr (.inl h')) hk
        · omega
      · rcases Nat.lt_or_ge k Bi with h' | h'
        · exact absurd (.inr (.inl h')) hk
        · omega
    clear hcall g1 g2 g3 g4 g5 g8 g9 g10 hAp hMk h hG hLk hCx hOk hk1 hk2 hv hf hfe hB hBw HB hQ
    gi_wp2_with fail
    refine ⟨trivial,fun _=>by omega,?_⟩
    refine (CallsIn.inRound l (callsIn_wide.2 HC.out)).mono ?_
    rintro e W2 ⟨rfl,lv2,k1,k2,k3⟩
    gi_wp2
    exact HF.out _ _ k1 k2 k3
  · rintro xs W1 rfl ⟨L',S',lv',g1,g2,g3,g4,g5,g6,g7,g8,g9,g10⟩ hd
    refine hQ _ L' (coreS C x) S' lv' W1 ⟨g1,g2.next hfe hp ((pre_get g3 (List.getElem?_eq_some_iff.1 hLk).1).trans hLk) hnx g4,g5.less (fun q hq=>?_),⟨List.nodup_cons.2 ⟨fun hm=>by have:=hDl _ hm; omega,g9.1⟩,fun d hdm=>?_⟩,g6,g10,Nat.lt_of_lt_of_le (Nat.lt_of_le_of_lt (Nat.zero_le _) (List.getElem?_eq_some_iff.1 hLk).1) g3.length_le⟩
    · rcases hq with hq | hq | hq
      · exact .inr (.inl hq)
      · exact .inr (.inr (.inl hq))
      · rcases List.mem_cons.1 hq with hq | hq
        · exact .inl (.inr (.inl hq))
        · exact .inr (.inr (.inr (.inl hq)))
    · rcases List.mem_cons.1 hdm with rfl | hdm
      · exact ⟨hBi,hd⟩
      · exact g9.2 d hdm
end Go.Proofs.YtiamjafecbpfpaaGreatDoor
