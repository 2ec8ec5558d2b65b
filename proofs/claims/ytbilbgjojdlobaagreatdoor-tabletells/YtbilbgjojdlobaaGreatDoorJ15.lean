import Derived.Test.YtbilbgjojdlobaaGreatDoorRows
import Derived.Test.YtbilbgjojdlobaaGreatDoorTie
import Derived.Test.YtbilbgjojdlobaaGreatDoorCards
import Derived.Test.YtbilbgjojdlobaaGreatDoorJ01
import Derived.Test.YtbilbgjojdlobaaGreatDoorJ03
import Derived.Test.YtbilbgjojdlobaaGreatDoorJ04
import Derived.Test.YtbilbgjojdlobaaGreatDoorJ05
import Derived.Test.YtbilbgjojdlobaaGreatDoorJ08
import Derived.Test.YtbilbgjojdlobaaGreatDoorJ12
import Derived.Test.YtbilbgjojdlobaaGreatDoorJ13
import Derived.Test.YtbilbgjojdlobaaGreatDoorJ14
import Derived.ProofKit
import Derived.OpenShut
import Derived.SizedLaws
import Derived.Lib.SmallJoins
import Derived.Deep.Slices
import Derived.Deep.Strs
import Derived.LaidMore
import Derived.LaidHandle
import Derived.Stop.Joined
import Derived.Stop.LaidErr
import Derived.Lib.LaidTab
import Derived.SevenTiedAt

namespace Go.Proofs.YtbilbgjojdlobaaGreatDoor
open Go.RowKit
set_option maxRecDepth 100000 in
set_option maxHeartbeats 8000000 in
theorem tableTells_any (f:Fl) (a:FlA) (l m:List Rw) (u v:Value) (s t:Int) (w:World) (hf:FlAt f a w) (hl:SlW l u w) (hm:SlW m v w) (hT:Tb w) :
    Calls Tryz.prog 4 #[a.val f,.agg #[u],.agg #[v],.int .i64 s,.int .i64 t] w fun e w'=>e=.returned (.bool true)∧Below w.heap.size w w':=by
  have h1:=fun W (hb:Below w.heap.size w W)=>few11_any f a W (hf.next hb)
  have h2:=fun W (hn:f.terms.length+f.nons.length≤1000000) (hs:SlW l u W)=>fit12_any f a l u W hs hn
  have h3:=fun W (hn:f.terms.length+f.nons.length≤1000000) (hs:SlW l u W)=>rfit12_any f a l u W hs hn
  have HAW:Hid (∀ W,Below w.heap.size w W→Calls Tryz.prog 9 #[] W fun e w'=>e=.returned (.bool true)∧Below W.heap.size W w'):=fun W hb=>awake12_any W (hT.next hb)
  have HS0:Hid (∀ W,Below w.heap.size w W→SlW l u W∧SlW m v W):=fun W hb=>⟨hl.next hb,hm.next hb⟩
  obtain ⟨la,lc,rfl,_⟩:=hl
  obtain ⟨ma,mc,rfl,_⟩:=hm
  obtain ⟨ta,tc,na,nc,pa,pc⟩:=a
  unfold FlA.val at h1 h2 h3 ⊢
  simp only at *
  have H1:Hid (∀ W,Below w.heap.size w W→Calls Tryz.prog 8 #[.agg #[.slice ta f.terms.length tc,.slice na f.nons.length nc,.slice pa f.prods.length pc]] W fun e w'=>Few1 f W e w'):=h1
  have H2:Hid (∀ W,f.terms.length+f.nons.length≤1000000→SlW l (.slice la l.length lc) W→Calls Tryz.prog 16 #[.agg #[.slice ta f.terms.length tc,.slice na f.nons.length nc,.slice pa f.prods.length pc],.agg #[.slice la l.length lc]] W fun e w'=>e=.returned (.bool (fitTB f l))∧Below W.heap.size W w'):=h2
  have H3:Hid (∀ W,f.terms.length+f.nons.length≤1000000→SlW l (.slice la l.length lc) W→Calls Tryz.prog 17 #[.agg #[.slice ta f.terms.length tc,.slice na f.nons.length nc,.slice pa f.prods.length pc],.agg #[.slice la l.length lc]] W fun e w'=>e=.returned (.bool (fitTB f l))∧Below W.heap.size W w'):=h3
  clear h1 h2 h3 hf hT
  have B0:Below w.heap.size w (((w.alloc (Obj.cells #[.slice ta f.terms.length tc,.slice na f.nons.length nc,.slice pa f.prods.length pc] 25)).alloc (Obj.cells #[.slice la l.length lc] 30)).alloc (Obj.cells #[.slice ma m.length mc] 30)):=(((Below.refl _ _).alloc (Nat.le_refl _) _).alloc (by simp) _).alloc (by simp; omega) _
  have hz2s:((w.alloc (Obj.cells #[.slice ta f.terms.length tc,.slice na f.nons.length nc,.slice pa f.prods.length pc] 25)).alloc (Obj.cells #[.slice la l.length lc] 30)).heap.size=w.heap.size+1+1:=by simp
  have b23:Below ((w.alloc (Obj.cells #[.slice ta f.terms.length tc,.slice na f.nons.length nc,.slice pa f.prods.length pc] 25)).alloc (Obj.cells #[.slice la l.length lc] 30)).heap.size ((w.alloc (Obj.cells #[.slice ta f.terms.length tc,.slice na f.nons.length nc,.slice pa f.prods.length pc] 25)).alloc (Obj.cells #[.slice la l.length lc] 30)) (((w.alloc (Obj.cells #[.slice ta f.terms.length tc,.slice na f.nons.length nc,.slice pa f.prods.length pc] 25)).alloc (Obj.cells #[.slice la l.length lc] 30)).alloc (Obj.cells #[.slice ma m.length mc] 30)):=(Below.refl _ _).alloc (Nat.le_refl _) _
  have e0:(((w.alloc (Obj.cells #[.slice ta f.terms.length tc,.slice na f.nons.length nc,.slice pa f.prods.length pc] 25)).alloc (Obj.cells #[.slice la l.length lc] 30)).alloc (Obj.cells #[.slice ma m.length mc] 30)).cell? ⟨w.heap.size,0,none⟩=some (.slice ta f.terms.length tc):=(b23.cell (p:=⟨w.heap.size,0,none⟩) (by show w.heap.size<_; rw [hz2s]; omega)).trans (by simp)
  have e1:(((w.alloc (Obj.cells #[.slice ta f.terms.length tc,.slice na f.nons.length nc,.slice pa f.prods.length pc] 25)).alloc (Obj.cells #[.slice la l.length lc] 30)).alloc (Obj.cells #[.slice ma m.length mc] 30)).cell? ⟨w.heap.size,1,none⟩=some (.slice na f.nons.length nc):=(b23.cell (p:=⟨w.heap.size,1,none⟩) (by show w.heap.size<_; rw [hz2s]; omega)).trans (by simp)
  have e2:(((w.alloc (Obj.cells #[.slice ta f.terms.length tc,.slice na f.nons.length nc,.slice pa f.prods.length pc] 25)).alloc (Obj.cells #[.slice la l.length lc] 30)).alloc (Obj.cells #[.slice ma m.length mc] 30)).cell? ⟨w.heap.size,2,none⟩=some (.slice pa f.prods.length pc):=(b23.cell (p:=⟨w.heap.size,2,none⟩) (by show w.heap.size<_; rw [hz2s]; omega)).trans (by simp)
  have e3:(((w.alloc (Obj.cells #[.slice ta f.terms.length tc,.slice na f.nons.length nc,.slice pa f.prods.length pc] 25)).alloc (Obj.cells #[.slice la l.length lc] 30)).alloc (Obj.cells #[.slice ma m.length mc] 30)).cell? ⟨w.heap.size+1,0,none⟩=some (.slice la l.length lc):=(b23.cell (p:=⟨w.heap.size+1,0,none⟩) (by show w.heap.size+1<_; rw [hz2s]; omega)).trans (by simp)
  have e4:(((w.alloc (Obj.cells #[.slice ta f.terms.length tc,.slice na f.nons.length nc,.slice pa f.prods.length pc] 25)).alloc (Obj.cells #[.slice la l.length lc] 30)).alloc (Obj.cells #[.slice ma m.length mc] 30)).cell? ⟨w.heap.size+1+1,0,none⟩=some (.slice ma m.length mc):=by
    have h:(((w.alloc (Obj.cells #[.slice ta f.terms.length tc,.slice na f.nons.length nc,.slice pa f.prods.length pc] 25)).alloc (Obj.cells #[.slice la l.length lc] 30)).alloc (Obj.cells #[.slice ma m.length mc] 30)).cell? ⟨((w.alloc (Obj.cells #[.slice ta f.terms.length tc,.slice na f.nons.length nc,.slice pa f.prods.length pc] 25)).alloc (Obj.cells #[.slice la l.length lc] 30)).heap.size,0,none⟩=some (.slice ma m.length mc):=by rw [World.cell?_alloc_at _ _ _ _ rfl]; rfl
    rw [hz2s] at h; exact h
  clear b23 hz2s
  have hsz:w.heap.size+1+1<(((w.alloc (Obj.cells #[.slice ta f.terms.length tc,.slice na f.nons.length nc,.slice pa f.prods.length pc] 25)).alloc (Obj.cells #[.slice la l.length lc] 30)).alloc (Obj.cells #[.slice ma m.length mc] 30)).heap.size:=by simp
  go_enter Tryz.func4,Tryz.ntmps4
  go_upto_region 1 with fail
  generalize (((w.alloc (Obj.cells #[.slice ta f.terms.length tc,.slice na f.nons.length nc,.slice pa f.prods.length pc] 25)).alloc (Obj.cells #[.slice la l.length lc] 30)).alloc (Obj.cells #[.slice ma m.length mc] 30))=w0 at *
  have HK:Hid (∀ W,Below w0.heap.size w0 W→(W.cell? ⟨w.heap.size,0,none⟩=some (.slice ta f.terms.length tc)∧W.cell? ⟨w.heap.size,1,none⟩=some (.slice na f.nons.length nc)∧W.cell? ⟨w.heap.size,2,none⟩=some (.slice pa f.prods.length pc)∧W.cell? ⟨w.heap.size+1,0,none⟩=some (.slice la l.length lc)∧W.cell? ⟨w.heap.size+1+1,0,none⟩=some (.slice ma m.length mc))∧SlW l (.slice la l.length lc) W∧SlW m (.slice ma m.length mc) W∧Below w.heap.size w W):=fun W hW=>by
    have c:=B0.trans (hW.mono B0.size)
    exact ⟨⟨(hW.cell (p:=⟨w.heap.size,0,none⟩) (by show w.heap.size<_; omega)).trans e0,(hW.cell (p:=⟨w.heap.size,1,none⟩) (by show w.heap.size<_; omega)).trans e1,(hW.cell (p:=⟨w.heap.size,2,none⟩) (by show w.heap.size<_; omega)).trans e2,(hW.cell (p:=⟨w.heap.size+1,0,none⟩) (by show w.heap.size+1<_; omega)).trans e3,(hW.cell (p:=⟨w.heap.size+1+1,0,none⟩) (by show w.heap.size+1+1<_; omega)).trans e4⟩,(HS0.out W c).1,(HS0.out W c).2,c⟩
  clear HS0 hsz
  have HF1:=H1.out _ B0
  clear H1
  go_wp2_with fail
  refine HF1.mono ?_
  rintro e w1 ⟨b,rfl,hfew,b1⟩
  clear HF1 e0 e1 e2 e3 e4 B0
  obtain ⟨⟨_,_,_,q3,q4⟩,sl,sm,B1⟩:=HK.out w1 b1
  cases b with
  | false =>
    clear hfew H2 H3 sl sm HK
    have HA2:=HAW.out _ (B1)
    go_wp2_with fail
    refine HA2.mono ?_
    rintro e wz ⟨rfl,bz⟩
    have BZ:=below_then (B1) bz (B1).size
    clear HA2 bz
    go_wp2_with fail
    go_ret
    exact ⟨rfl,BZ⟩
  | true =>
  have hn6:f.terms.length+f.nons.length≤16:=(hfew rfl).2.1
  clear hfew
  have HL1:=rlight12_any l _ w1 sl
  clear sl sm
  go_wp2_with fail
  refine HL1.mono ?_
  rintro e w2 ⟨rfl,b2⟩
  have c2:=below_then b1 b2 b1.size
  clear HL1 q3 q4 B1
  obtain ⟨⟨_,_,_,q3,q4⟩,sl,sm,B2⟩:=HK.out w2 c2
  by_cases hz1:sizeTb l≤20000
  case neg =>
    have hd:decide (sizeTb l≤20000)=false:=decide_eq_false hz1
    rw [hd]
    clear H2 H3 sl sm HK
    have HA2:=HAW.out _ (B2)
    go_wp2_with fail
    refine HA2.mono ?_
    rintro e wz ⟨rfl,bz⟩
    have BZ:=below_then (B2) bz (B2).size
    clear HA2 bz
    go_wp2_with fail
    go_ret
    exact ⟨rfl,BZ⟩
  have hd:decide (sizeTb l≤20000)=true:=decide_eq_true hz1
  rw [hd]
  clear hd
  have HL2:=rlight12_any m _ w2 sm
  clear sl sm
  go_wp2_with fail
  refine HL2.mono ?_
  rintro e w3 ⟨rfl,b3⟩
  have c3:=below_then c2 b3 c2.size
  clear HL2 q3 q4 B2
  obtain ⟨⟨_,_,_,q3,q4⟩,sl,sm,B3⟩:=HK.out w3 c3
  by_cases hz2:sizeTb m≤20000
  case neg =>
    have hd:decide (sizeTb m≤20000)=false:=decide_eq_false hz2
    rw [hd]
    clear H2 H3 sl sm HK
    have HA2:=HAW.out _ (B3)
    go_wp2_with fail
    refine HA2.mono ?_
    rintro e wz ⟨rfl,bz⟩
    have BZ:=below_then (B3) bz (B3).size
    clear HA2 bz
    go_wp2_with fail
    go_ret
    exact ⟨rfl,BZ⟩
  have hd:decide (sizeTb m≤20000)=true:=decide_eq_true hz2
  rw [hd]
  clear hd sl sm q3 q4
  go_upto_region 3 with fail
  have BD:Below w0.heap.size w0 w3.drew:=c3.drew
  obtain ⟨⟨_,_,_,q3,_⟩,sl,_,_⟩:=HK.out _ BD
  have HTO:=torn_any l _ w3.drew sl (by omega)
  have hS0:(fun W:World=>(W.cell? ⟨w.heap.size+1,0,none⟩=some (.slice la l.length lc))) w3.drew:=q3
  clear q3 sl
  go_wp2_with fail
  refine wp_region_L (fun W=>W.cell? ⟨w.heap.size+1,0,none⟩=some (.slice la l.length lc)) 6 (by kernel_rfl) 6 rfl ?_
  refine tk 0 ⟨some 28,.load 30 (.tmp 6),30, "law.go:48",#[],none⟩ hS0 ?_;simp only [Act.put,sA,s0,sS]
  refine tk 2 ⟨some 30,.load 30 (.tmp 6),30, "law.go:48",#[],none⟩ hS0 ?_;simp only [Act.put,sA,s0,sS]
  refine wpAnyL_one' (i:=1) (o:=⟨some 29,.call ⟨.value (.func 12),#[.tmp 28],#[30]⟩,36, "law.go:48",#[⟨0,.data⟩],none⟩) (by kernel_rfl) rfl rfl (fun KQ hK=>?_)
  go_simp
  refine HTO.mono ?_
  rintro e w6 ⟨tv,rfl,htv,_,b6⟩
  have c6:Below w0.heap.size w0 w6:=BD.trans (b6.mono BD.size)
  obtain ⟨⟨_,_,_,q3,_⟩,qr,_,_⟩:=HK.out w6 c6
  have hS1:(fun W:World=>(W.cell? ⟨w.heap.size+1,0,none⟩=some (.slice la l.length lc))) w6:=q3
  refine hK.out _ _ (fun _=>hS1) ?_
  clear hK q3 HTO
  have HRT:=rtorn_any l _ w6 qr (by omega)
  clear qr
  refine wpAnyL_one' (i:=3) (o:=⟨some 31,.call ⟨.value (.func 13),#[.tmp 30],#[30]⟩,36, "law.go:48",#[⟨2,.data⟩,⟨1,.chain⟩],none⟩) (by kernel_rfl) rfl rfl (fun KQ hK=>?_)
  go_simp
  refine HRT.mono ?_
  rintro e w7 ⟨rv,rfl,hrv,_,b7⟩
  have c7:Below w0.heap.size w0 w7:=c6.trans (b7.mono c6.size)
  obtain ⟨⟨_,_,_,q3,_⟩,_,_,_⟩:=HK.out w7 c7
  have hS2:(fun W:World=>(W.cell? ⟨w.heap.size+1,0,none⟩=some (.slice la l.length lc))) w7:=q3
  refine hK.out _ _ (fun _=>hS2) ?_
  clear hK q3 HRT
  have HTV:Hid (∀ W,Below w7.heap.size w7 W→SlG (tornL l) tv W∧SlG (tornL l) rv W):=fun W hW=>⟨htv.next (b7.trans (hW.mono b7.size)),hrv.next hW⟩
  obtain ⟨tva,tvc,rfl,_⟩:=htv
  obtain ⟨rva,rvc,rfl,_⟩:=hrv
  refine tk 4 ⟨some 11,.assign (.tmp 29),36, "law.go:48",#[⟨1,.data⟩,⟨3,.chain⟩,⟨0,.phase⟩,⟨1,.phase⟩,⟨2,.textOnly .lateStores⟩,⟨3,.textOnly .lateStoresUnsure⟩],none⟩ hS2 ?_;simp only [Act.put,sA,s0,sS]
  refine tk 5 ⟨some 12,.assign (.tmp 31),36, "law.go:48",#[⟨3,.data⟩,⟨4,.chain⟩,⟨0,.phase⟩,⟨1,.phase⟩,⟨2,.phase⟩,⟨3,.phase⟩,⟨4,.phase⟩],none⟩ hS2 ?_;simp only [Act.put,sA,s0,sS]
  refine wpAnyL_done (by kernel_rfl) ?_ _
  clear hS0 hS1 hS2
  have HLT:Hid ((tornL l).length≤20000):=Nat.le_trans (tornL_len _) hz1
  generalize tornL l=L at *
  go_wp2_with fail
  go_loopw [39] (fun iv wr=>∃ (i:Nat),iv=.int .i64 i∧i≤L.length∧Below w7.heap.size w7 wr) (fun i _=>L.length - (Go.RowKit.intOf i).toNat)
  case atStart=>exact ⟨0,rfl,Nat.zero_le _,Below.refl _ _⟩
  case round =>
  obtain ⟨i,rfl,hi,BR⟩:=hrel
  by_cases hlt:i<L.length
  case pos =>
    obtain ⟨⟨_,_,e0,hrl,_⟩,⟨_,_,e1,hrm,_⟩⟩:=HTV.out wr BR
    cases e0
    cases e1
    have BDR:Below w7.heap.size w7 wr.drew:=BR.drew
    obtain ⟨b2,o2,rfl,hb2,p0,p1',_⟩:=hrl.at (Below.refl _ wr).drew hlt
    obtain ⟨b3,o3,rfl,hb3,q0,q1',_⟩:=hrm.at (Below.refl _ wr).drew hlt
    generalize L[i]=p at *
    obtain ⟨p1,p2⟩:=p
    simp only at *
    have hnq2:=neqA2 p1 p2
    have hS0:(fun W:World=>((W.cell? ⟨b2,o2+i * 2,none⟩=some (.int .i64 p1)∧W.cell? ⟨b2,o2+i * 2+1,none⟩=some (.int .i64 p2))∧(W.cell? ⟨b3,o3+i * 2,none⟩=some (.int .i64 p1)∧W.cell? ⟨b3,o3+i * 2+1,none⟩=some (.int .i64 p2)))) wr.drew:=⟨⟨p0,p1'⟩,q0,q1'⟩
    clear hrl hrm p0 p1' q0 q1' HTV
    go_wp2_with fail
    refine wp_region_L (fun W=>(W.cell? ⟨b2,o2+i * 2,none⟩=some (.int .i64 p1)∧W.cell? ⟨b2,o2+i * 2+1,none⟩=some (.int .i64 p2))∧(W.cell? ⟨b3,o3+i * 2,none⟩=some (.int .i64 p1)∧W.cell? ⟨b3,o3+i * 2+1,none⟩=some (.int .i64 p2))) 9 (by kernel_rfl) 9 rfl ?_
    refine tk 0 ⟨some 42,.move (.tmp 11),36, "law.go:53",#[],none⟩ hS0 ?_;simp only [Act.put,sA,s0,sS]
    refine tk 1 ⟨some 43,.move (.tmp 13),3, "law.go:53",#[],none⟩ hS0 ?_;simp only [Act.put,sA,s0,sS]
    refine tk 2 ⟨some 44,.indexAddr 36 (.tmp 42) (.tmp 43),0, "law.go:53",#[⟨0,.data⟩,⟨1,.data⟩],none⟩ hS0 ?_;simp only [Act.put,sA,s0,sS]
    refine tk 3 ⟨some 45,.load 38 (.tmp 44),38, "law.go:53",#[⟨2,.data⟩],none⟩ hS0 ?_;simp only [Act.put,sA,s0,sS]
    refine tk 4 ⟨some 46,.move (.tmp 12),36, "law.go:53",#[],none⟩ hS0 ?_;simp only [Act.put,sA,s0,sS]
    refine tk 5 ⟨some 47,.move (.tmp 13),3, "law.go:53",#[],none⟩ hS0 ?_;simp only [Act.put,sA,s0,sS]
    refine tk 6 ⟨some 48,.indexAddr 36 (.tmp 46) (.tmp 47),0, "law.go:53",#[⟨4,.data⟩,⟨5,.data⟩],none⟩ hS0 ?_;simp only [Act.put,sA,s0,sS]
    refine tk 7 ⟨some 49,.load 38 (.tmp 48),38, "law.go:53",#[⟨6,.data⟩],none⟩ hS0 ?_;simp only [Act.put,sA,s0,sS]
    refine tk 8 ⟨some 50,.binOp .neq 38 (.tmp 45) (.tmp 49) 38,4, "law.go:53",#[⟨3,.data⟩,⟨7,.data⟩],none⟩ hS0 ?_;simp only [Act.put,sA,s0,sS]
    refine wpAnyL_done (by kernel_rfl) ?_ _
    clear hS0 hnq2
    go_wp2_with fail
    exact ⟨⟨i+1,by go_num,by omega,BDR⟩,by simp [Go.RowKit.intOf]; omega⟩
  have cR:Below w0.heap.size w0 wr:=c7.trans (BR.mono c7.size)
  clear HTV
  have cy0:Below w0.heap.size w0 wr.drew:=cR.drew
  have hLL:decide (l=l)=true:=decide_eq_true rfl
  have hAA:Hid (decide (actF l s t=actF l s t)=true):=decide_eq_true rfl
  obtain ⟨⟨R0,R1,R2,R3,R4⟩,_⟩:=HK.out wr cR
  go_upto_region 12 with fail
  clear R0 R1 R2 R3 R4
  go_wp2_with fail
  have hS0:(fun W:World=>(W.cell? ⟨w.heap.size,0,none⟩=some (.slice ta f.terms.length tc)∧W.cell? ⟨w.heap.size,1,none⟩=some (.slice na f.nons.length nc)∧W.cell? ⟨w.heap.size,2,none⟩=some (.slice pa f.prods.length pc)∧W.cell? ⟨w.heap.size+1,0,none⟩=some (.slice la l.length lc)∧W.cell? ⟨w.heap.size+1+1,0,none⟩=some (.slice ma m.length mc))) wr.drew:=(HK.out wr.drew cy0).1
  refine wp_region_L (fun W=>W.cell? ⟨w.heap.size,0,none⟩=some (.slice ta f.terms.length tc)∧W.cell? ⟨w.heap.size,1,none⟩=some (.slice na f.nons.length nc)∧W.cell? ⟨w.heap.size,2,none⟩=some (.slice pa f.prods.length pc)∧W.cell? ⟨w.heap.size+1,0,none⟩=some (.slice la l.length lc)∧W.cell? ⟨w.heap.size+1+1,0,none⟩=some (.slice ma m.length mc)) 47 (by kernel_rfl) 47 rfl ?_
  refine tk 0 ⟨some 52,.load 25 (.tmp 5),25, "law.go:57",#[],none⟩ hS0 ?_;simp only [Act.put,sA,s0,sS]
  refine tk 1 ⟨some 53,.load 30 (.tmp 6),30, "law.go:57",#[],none⟩ hS0 ?_;simp only [Act.put,sA,s0,sS]
  refine tk 3 ⟨some 55,.load 25 (.tmp 5),25, "law.go:57",#[],none⟩ hS0 ?_;simp only [Act.put,sA,s0,sS]
  refine tk 4 ⟨some 56,.load 30 (.tmp 6),30, "law.go:57",#[],none⟩ hS0 ?_;simp only [Act.put,sA,s0,sS]
  obtain ⟨_,sl,sm,qb⟩:=HK.out wr.drew cy0
  have HC1:=H2.out wr.drew (by omega) sl
  clear sl sm qb
  refine wpAnyL_one' (i:=2) (o:=⟨some 54,.call ⟨.value (.func 16),#[.tmp 52,.tmp 53],#[25,30]⟩,4, "law.go:57",#[⟨0,.data⟩,⟨1,.data⟩],none⟩) (by kernel_rfl) rfl rfl (fun KQ hK=>?_)
  go_simp
  refine HC1.mono ?_
  rintro e y1 ⟨rfl,by1⟩
  have cy1:=below_then cy0 by1 cy0.size
  have hS1:(fun W:World=>(W.cell? ⟨w.heap.size,0,none⟩=some (.slice ta f.terms.length tc)∧W.cell? ⟨w.heap.size,1,none⟩=some (.slice na f.nons.length nc)∧W.cell? ⟨w.heap.size,2,none⟩=some (.slice pa f.prods.length pc)∧W.cell? ⟨w.heap.size+1,0,none⟩=some (.slice la l.length lc)∧W.cell? ⟨w.heap.size+1+1,0,none⟩=some (.slice ma m.length mc))) y1:=(HK.out y1 cy1).1
  refine hK.out _ _ (fun _=>hS1) ?_
  clear hK HC1
  obtain ⟨_,sl,sm,qb⟩:=HK.out y1 cy1
  have HC2:=H3.out y1 (by omega) sl
  clear sl sm qb
  refine wpAnyL_one' (i:=5) (o:=⟨some 57,.call ⟨.value (.func 17),#[.tmp 55,.tmp 56],#[25,30]⟩,4, "law.go:57",#[⟨3,.data⟩,⟨4,.data⟩,⟨2,.chain⟩],none⟩) (by kernel_rfl) rfl rfl (fun KQ hK=>?_)
  go_simp
  refine HC2.mono ?_
  rintro e y2 ⟨rfl,by2⟩
  have cy2:=below_then cy1 by2 cy1.size
  have hS2:(fun W:World=>(W.cell? ⟨w.heap.size,0,none⟩=some (.slice ta f.terms.length tc)∧W.cell? ⟨w.heap.size,1,none⟩=some (.slice na f.nons.length nc)∧W.cell? ⟨w.heap.size,2,none⟩=some (.slice pa f.prods.length pc)∧W.cell? ⟨w.heap.size+1,0,none⟩=some (.slice la l.length lc)∧W.cell? ⟨w.heap.size+1+1,0,none⟩=some (.slice ma m.length mc))) y2:=(HK.out y2 cy2).1
  refine hK.out _ _ (fun _=>hS2) ?_
  clear hK HC2
  refine tk 6 ⟨some 58,.binOp .eql 4 (.tmp 54) (.tmp 57) 4,4, "law.go:57",#[⟨2,.data⟩,⟨5,.data⟩],none⟩ hS2 ?_;simp only [Act.put,sA,s0,sS]
  refine tk 7 ⟨some 59,.move (.tmp 58),4, "law.go:57",#[⟨6,.data⟩,⟨5,.chain⟩],none⟩ hS2 ?_;simp only [Act.put,sA,s0,sS]
  refine tk 8 ⟨some 60,.load 30 (.tmp 6),30, "law.go:57",#[⟨7,.guard⟩],some (7,true)⟩ hS2 ?_;simp only [Act.put,sA,s0,sS]
  refine tk 9 ⟨some 61,.load 30 (.tmp 7),30, "law.go:57",#[⟨7,.guard⟩],some (7,true)⟩ hS2 ?_;simp only [Act.put,sA,s0,sS]
  refine tk 11 ⟨some 63,.load 30 (.tmp 6),30, "law.go:57",#[⟨7,.guard⟩],some (7,true)⟩ hS2 ?_;simp only [Act.put,sA,s0,sS]
  refine tk 12 ⟨some 64,.load 30 (.tmp 7),30, "law.go:57",#[⟨7,.guard⟩],some (7,true)⟩ hS2 ?_;simp only [Act.put,sA,s0,sS]
  obtain ⟨_,sl,sm,qb⟩:=HK.out y2 cy2
  have HC3:=same12_any l m _ _ y2 sl sm
  clear sl sm qb
  refine wpAnyL_one' (i:=10) (o:=⟨some 62,.call ⟨.value (.func 18),#[.tmp 60,.tmp 61],#[30,30]⟩,4, "law.go:57",#[⟨8,.data⟩,⟨9,.data⟩,⟨7,.chain⟩,⟨7,.guard⟩],some (7,true)⟩) (by kernel_rfl) rfl rfl (fun KQ hK=>?_)
  rw [if_pos (by rfl)]
  go_simp
  refine HC3.mono ?_
  rintro e y3 ⟨rfl,by3⟩
  have cy3:=below_then cy2 by3 cy2.size
  have hS3:(fun W:World=>(W.cell? ⟨w.heap.size,0,none⟩=some (.slice ta f.terms.length tc)∧W.cell? ⟨w.heap.size,1,none⟩=some (.slice na f.nons.length nc)∧W.cell? ⟨w.heap.size,2,none⟩=some (.slice pa f.prods.length pc)∧W.cell? ⟨w.heap.size+1,0,none⟩=some (.slice la l.length lc)∧W.cell? ⟨w.heap.size+1+1,0,none⟩=some (.slice ma m.length mc))) y3:=(HK.out y3 cy3).1
  refine hK.out _ _ (fun _=>hS3) ?_
  clear hK HC3
  obtain ⟨_,sl,sm,qb⟩:=HK.out y3 cy3
  have HC4:=rsame12_any l m _ _ y3 sl sm
  clear sl sm qb
  refine wpAnyL_one' (i:=13) (o:=⟨some 65,.call ⟨.value (.func 14),#[.tmp 63,.tmp 64],#[30,30]⟩,4, "law.go:57",#[⟨11,.data⟩,⟨12,.data⟩,⟨10,.chain⟩,⟨7,.guard⟩],some (7,true)⟩) (by kernel_rfl) rfl rfl (fun KQ hK=>?_)
  rw [if_pos (by rfl)]
  go_simp
  refine HC4.mono ?_
  rintro e y4 ⟨rfl,by4⟩
  have cy4:=below_then cy3 by4 cy3.size
  have hS4:(fun W:World=>(W.cell? ⟨w.heap.size,0,none⟩=some (.slice ta f.terms.length tc)∧W.cell? ⟨w.heap.size,1,none⟩=some (.slice na f.nons.length nc)∧W.cell? ⟨w.heap.size,2,none⟩=some (.slice pa f.prods.length pc)∧W.cell? ⟨w.heap.size+1,0,none⟩=some (.slice la l.length lc)∧W.cell? ⟨w.heap.size+1+1,0,none⟩=some (.slice ma m.length mc))) y4:=(HK.out y4 cy4).1
  refine hK.out _ _ (fun _=>hS4) ?_
  clear hK HC4
  refine tk 14 ⟨some 66,.binOp .eql 4 (.tmp 62) (.tmp 65) 4,4, "law.go:57",#[⟨10,.data⟩,⟨13,.data⟩,⟨7,.guard⟩],some (7,true)⟩ hS4 ?_;simp only [Act.put,sA,s0,sS]
  refine tk 15 ⟨some 67,.pick (.tmp 59) (.tmp 66) (.const (.bool false)),4, "law.go:57",#[⟨7,.data⟩,⟨14,.data⟩],none⟩ hS4 ?_;simp only [Act.put,sA,s0,sS]
  refine tk 16 ⟨some 68,.move (.tmp 67),4, "law.go:57",#[⟨15,.data⟩,⟨13,.chain⟩],none⟩ hS4 ?_;simp only [Act.put,sA,s0,sS]
  refine tk 17 ⟨some 69,.load 30 (.tmp 6),30, "law.go:57",#[⟨16,.guard⟩],some (16,true)⟩ hS4 ?_;simp only [Act.put,sA,s0,sS]
  refine tk 18 ⟨some 70,.load 30 (.tmp 6),30, "law.go:57",#[⟨16,.guard⟩],some (16,true)⟩ hS4 ?_;simp only [Act.put,sA,s0,sS]
  obtain ⟨_,sl,sm,qb⟩:=HK.out y4 cy4
  have HC5:=same12_any l l _ _ y4 sl sl
  clear sl sm qb
  refine wpAnyL_one' (i:=19) (o:=⟨some 71,.call ⟨.value (.func 18),#[.tmp 69,.tmp 70],#[30,30]⟩,4, "law.go:57",#[⟨17,.data⟩,⟨18,.data⟩,⟨16,.chain⟩,⟨16,.guard⟩],some (16,true)⟩) (by kernel_rfl) rfl rfl (fun KQ hK=>?_)
  rw [if_pos (by rfl)]
  go_simp
  refine HC5.mono ?_
  rintro e y5 ⟨rfl,by5⟩
  have cy5:=below_then cy4 by5 cy4.size
  have hS5:(fun W:World=>(W.cell? ⟨w.heap.size,0,none⟩=some (.slice ta f.terms.length tc)∧W.cell? ⟨w.heap.size,1,none⟩=some (.slice na f.nons.length nc)∧W.cell? ⟨w.heap.size,2,none⟩=some (.slice pa f.prods.length pc)∧W.cell? ⟨w.heap.size+1,0,none⟩=some (.slice la l.length lc)∧W.cell? ⟨w.heap.size+1+1,0,none⟩=some (.slice ma m.length mc))) y5:=(HK.out y5 cy5).1
  refine hK.out _ _ (fun _=>hS5) ?_
  clear hK HC5
  simp only [hLL]
  refine tk 20 ⟨some 72,.pick (.tmp 68) (.tmp 71) (.const (.bool false)),4, "law.go:57",#[⟨16,.data⟩,⟨19,.data⟩],none⟩ hS5 ?_;simp only [Act.put,sA,s0,sS]
  refine tk 21 ⟨some 73,.move (.tmp 72),4, "law.go:57",#[⟨20,.data⟩,⟨19,.chain⟩],none⟩ hS5 ?_;simp only [Act.put,sA,s0,sS]
  refine tk 22 ⟨some 74,.load 30 (.tmp 6),30, "law.go:57",#[⟨21,.guard⟩],some (21,true)⟩ hS5 ?_;simp only [Act.put,sA,s0,sS]
  refine tk 23 ⟨some 75,.move (.tmp 3),3, "law.go:57",#[⟨21,.guard⟩],some (21,true)⟩ hS5 ?_;simp only [Act.put,sA,s0,sS]
  refine tk 24 ⟨some 76,.move (.tmp 4),3, "law.go:57",#[⟨21,.guard⟩],some (21,true)⟩ hS5 ?_;simp only [Act.put,sA,s0,sS]
  refine tk 26 ⟨some 78,.load 30 (.tmp 6),30, "law.go:57",#[⟨21,.guard⟩],some (21,true)⟩ hS5 ?_;simp only [Act.put,sA,s0,sS]
  refine tk 27 ⟨some 79,.move (.tmp 3),3, "law.go:57",#[⟨21,.guard⟩],some (21,true)⟩ hS5 ?_;simp only [Act.put,sA,s0,sS]
  refine tk 28 ⟨some 80,.move (.tmp 4),3, "law.go:57",#[⟨21,.guard⟩],some (21,true)⟩ hS5 ?_;simp only [Act.put,sA,s0,sS]
  obtain ⟨_,sl,sm,qb⟩:=HK.out y5 cy5
  have HC6:=act12_any l _ s t y5 sl (by omega)
  clear sl sm qb
  refine wpAnyL_one' (i:=25) (o:=⟨some 77,.call ⟨.value (.func 20),#[.tmp 74,.tmp 75,.tmp 76],#[30,3,3]⟩,45, "law.go:57",#[⟨22,.data⟩,⟨23,.data⟩,⟨24,.data⟩,⟨21,.chain⟩,⟨21,.guard⟩],some (21,true)⟩) (by kernel_rfl) rfl rfl (fun KQ hK=>?_)
  rw [if_pos (by rfl)]
  go_simp
  refine HC6.mono ?_
  rintro e y6 ⟨u1,rfl,hu1,_,by6⟩
  have cy6:=below_then cy5 by6 cy5.size
  have hS6:(fun W:World=>(W.cell? ⟨w.heap.size,0,none⟩=some (.slice ta f.terms.length tc)∧W.cell? ⟨w.heap.size,1,none⟩=some (.slice na f.nons.length nc)∧W.cell? ⟨w.heap.size,2,none⟩=some (.slice pa f.prods.length pc)∧W.cell? ⟨w.heap.size+1,0,none⟩=some (.slice la l.length lc)∧W.cell? ⟨w.heap.size+1+1,0,none⟩=some (.slice ma m.length mc))) y6:=(HK.out y6 cy6).1
  refine hK.out _ _ (fun _=>hS6) ?_
  clear hK HC6
  have hu1c:=hu1
  obtain ⟨ua,uc,rfl,_⟩:=hu1
  obtain ⟨_,sl,sm,qb⟩:=HK.out y6 cy6
  have HC7:=ract_any l _ s t y6 sl
  clear sl sm qb
  refine wpAnyL_one' (i:=29) (o:=⟨some 81,.call ⟨.value (.func 21),#[.tmp 78,.tmp 79,.tmp 80],#[30,3,3]⟩,45, "law.go:57",#[⟨26,.data⟩,⟨27,.data⟩,⟨28,.data⟩,⟨25,.chain⟩,⟨21,.guard⟩],some (21,true)⟩) (by kernel_rfl) rfl rfl (fun KQ hK=>?_)
  rw [if_pos (by rfl)]
  go_simp
  refine HC7.mono ?_
  rintro e y7 ⟨u2,rfl,hu2,hln,by7⟩
  have cy7:=below_then cy6 by7 cy6.size
  have hS7:(fun W:World=>(W.cell? ⟨w.heap.size,0,none⟩=some (.slice ta f.terms.length tc)∧W.cell? ⟨w.heap.size,1,none⟩=some (.slice na f.nons.length nc)∧W.cell? ⟨w.heap.size,2,none⟩=some (.slice pa f.prods.length pc)∧W.cell? ⟨w.heap.size+1,0,none⟩=some (.slice la l.length lc)∧W.cell? ⟨w.heap.size+1+1,0,none⟩=some (.slice ma m.length mc))) y7:=(HK.out y7 cy7).1
  refine hK.out _ _ (fun _=>hS7) ?_
  clear hK HC7
  have HSA:=rSameAct_any (actF l s t) (actF l s t) _ u2 y7 (hu1c.next by7) hu2 hln
  rw [decide_eq_true (rfl:actF l s t=actF l s t)] at HSA
  obtain ⟨va,vc,rfl,_⟩:=hu2
  clear hu1c
  generalize actF l s t=AF at *
  obtain ⟨_,sl,sm,qb⟩:=HK.out y7 cy7
  have HC8:=HSA
  clear sl sm qb
  refine wpAnyL_one' (i:=30) (o:=⟨some 82,.call ⟨.value (.func 19),#[.tmp 77,.tmp 81],#[45,45]⟩,4, "law.go:57",#[⟨25,.data⟩,⟨29,.data⟩,⟨29,.chain⟩,⟨21,.guard⟩],some (21,true)⟩) (by kernel_rfl) rfl rfl (fun KQ hK=>?_)
  rw [if_pos (by rfl)]
  go_simp
  refine HC8.mono ?_
  rintro e y8 ⟨rfl,by8⟩
  have cy8:=below_then cy7 by8 cy7.size
  have hS8:(fun W:World=>(W.cell? ⟨w.heap.size,0,none⟩=some (.slice ta f.terms.length tc)∧W.cell? ⟨w.heap.size,1,none⟩=some (.slice na f.nons.length nc)∧W.cell? ⟨w.heap.size,2,none⟩=some (.slice pa f.prods.length pc)∧W.cell? ⟨w.heap.size+1,0,none⟩=some (.slice la l.length lc)∧W.cell? ⟨w.heap.size+1+1,0,none⟩=some (.slice ma m.length mc))) y8:=(HK.out y8 cy8).1
  refine hK.out _ _ (fun _=>hS8) ?_
  clear hK HC8
  refine tk 31 ⟨some 83,.pick (.tmp 73) (.tmp 82) (.const (.bool false)),4, "law.go:57",#[⟨21,.data⟩,⟨30,.data⟩],none⟩ hS8 ?_;simp only [Act.put,sA,s0,sS]
  refine tk 32 ⟨some 84,.move (.tmp 83),4, "law.go:57",#[⟨31,.data⟩,⟨30,.chain⟩],none⟩ hS8 ?_;simp only [Act.put,sA,s0,sS]
  refine tk 33 ⟨some 85,.load 30 (.tmp 6),30, "law.go:57",#[⟨32,.guard⟩],some (32,true)⟩ hS8 ?_;simp only [Act.put,sA,s0,sS]
  refine tk 34 ⟨some 86,.move (.tmp 3),3, "law.go:57",#[⟨32,.guard⟩],some (32,true)⟩ hS8 ?_;simp only [Act.put,sA,s0,sS]
  refine tk 35 ⟨some 87,.move (.tmp 4),3, "law.go:57",#[⟨32,.guard⟩],some (32,true)⟩ hS8 ?_;simp only [Act.put,sA,s0,sS]
  refine tk 37 ⟨some 89,.load 30 (.tmp 6),30, "law.go:57",#[⟨32,.guard⟩],some (32,true)⟩ hS8 ?_;simp only [Act.put,sA,s0,sS]
  refine tk 38 ⟨some 90,.move (.tmp 3),3, "law.go:57",#[⟨32,.guard⟩],some (32,true)⟩ hS8 ?_;simp only [Act.put,sA,s0,sS]
  refine tk 39 ⟨some 91,.move (.tmp 4),3, "law.go:57",#[⟨32,.guard⟩],some (32,true)⟩ hS8 ?_;simp only [Act.put,sA,s0,sS]
  obtain ⟨_,sl,sm,qb⟩:=HK.out y8 cy8
  have HC9:=go12_any l _ s t y8 sl
  clear sl sm qb
  refine wpAnyL_one' (i:=36) (o:=⟨some 88,.call ⟨.value (.func 22),#[.tmp 85,.tmp 86,.tmp 87],#[30,3,3]⟩,3, "law.go:57",#[⟨33,.data⟩,⟨34,.data⟩,⟨35,.data⟩,⟨32,.chain⟩,⟨32,.guard⟩],some (32,true)⟩) (by kernel_rfl) rfl rfl (fun KQ hK=>?_)
  rw [if_pos (by rfl)]
  go_simp
  refine HC9.mono ?_
  rintro e y9 ⟨rfl,by9⟩
  have cy9:=below_then cy8 by9 cy8.size
  have hS9:(fun W:World=>(W.cell? ⟨w.heap.size,0,none⟩=some (.slice ta f.terms.length tc)∧W.cell? ⟨w.heap.size,1,none⟩=some (.slice na f.nons.length nc)∧W.cell? ⟨w.heap.size,2,none⟩=some (.slice pa f.prods.length pc)∧W.cell? ⟨w.heap.size+1,0,none⟩=some (.slice la l.length lc)∧W.cell? ⟨w.heap.size+1+1,0,none⟩=some (.slice ma m.length mc))) y9:=(HK.out y9 cy9).1
  refine hK.out _ _ (fun _=>hS9) ?_
  clear hK HC9
  obtain ⟨_,sl,sm,qb⟩:=HK.out y9 cy9
  have HC10:=rgo_any l _ s t y9 sl
  clear sl sm qb
  refine wpAnyL_one' (i:=40) (o:=⟨some 92,.call ⟨.value (.func 23),#[.tmp 89,.tmp 90,.tmp 91],#[30,3,3]⟩,3, "law.go:57",#[⟨37,.data⟩,⟨38,.data⟩,⟨39,.data⟩,⟨36,.chain⟩,⟨32,.guard⟩],some (32,true)⟩) (by kernel_rfl) rfl rfl (fun KQ hK=>?_)
  rw [if_pos (by rfl)]
  go_simp
  refine HC10.mono ?_
  rintro e y10 ⟨rfl,by10⟩
  have cy10:=below_then cy9 by10 cy9.size
  have hS10:(fun W:World=>(W.cell? ⟨w.heap.size,0,none⟩=some (.slice ta f.terms.length tc)∧W.cell? ⟨w.heap.size,1,none⟩=some (.slice na f.nons.length nc)∧W.cell? ⟨w.heap.size,2,none⟩=some (.slice pa f.prods.length pc)∧W.cell? ⟨w.heap.size+1,0,none⟩=some (.slice la l.length lc)∧W.cell? ⟨w.heap.size+1+1,0,none⟩=some (.slice ma m.length mc))) y10:=(HK.out y10 cy10).1
  refine hK.out _ _ (fun _=>hS10) ?_
  clear hK HC10
  refine tk 41 ⟨some 93,.binOp .eql 3 (.tmp 88) (.tmp 92) 3,4, "law.go:57",#[⟨36,.data⟩,⟨40,.data⟩,⟨32,.guard⟩],some (32,true)⟩ hS10 ?_;simp only [Act.put,sA,s0,sS]
  refine tk 42 ⟨some 94,.pick (.tmp 84) (.tmp 93) (.const (.bool false)),4, "law.go:57",#[⟨32,.data⟩,⟨41,.data⟩],none⟩ hS10 ?_;simp only [Act.put,sA,s0,sS]
  refine tk 43 ⟨some 95,.move (.tmp 94),4, "law.go:57",#[⟨42,.data⟩,⟨40,.chain⟩],none⟩ hS10 ?_;simp only [Act.put,sA,s0,sS]
  obtain ⟨_,sl,sm,qb⟩:=HK.out y10 cy10
  have HC11:=HAW.out y10 qb
  clear sl sm qb
  refine wpAnyL_one' (i:=44) (o:=⟨some 96,.call ⟨.value (.func 9),#[],#[]⟩,4, "law.go:57",#[⟨43,.chain⟩,⟨43,.guard⟩],some (43,true)⟩) (by kernel_rfl) rfl rfl (fun KQ hK=>?_)
  rw [if_pos (by rfl)]
  go_simp
  refine HC11.mono ?_
  rintro e y11 ⟨rfl,by11⟩
  have cy11:=below_then cy10 by11 cy10.size
  have hS11:(fun W:World=>(W.cell? ⟨w.heap.size,0,none⟩=some (.slice ta f.terms.length tc)∧W.cell? ⟨w.heap.size,1,none⟩=some (.slice na f.nons.length nc)∧W.cell? ⟨w.heap.size,2,none⟩=some (.slice pa f.prods.length pc)∧W.cell? ⟨w.heap.size+1,0,none⟩=some (.slice la l.length lc)∧W.cell? ⟨w.heap.size+1+1,0,none⟩=some (.slice ma m.length mc))) y11:=(HK.out y11 cy11).1
  refine hK.out _ _ (fun _=>hS11) ?_
  clear hK HC11
  refine tk 45 ⟨some 97,.pick (.tmp 95) (.tmp 96) (.const (.bool false)),4, "law.go:57",#[⟨43,.data⟩,⟨44,.data⟩],none⟩ hS11 ?_;simp only [Act.put,sA,s0,sS]
  refine tk 46 ⟨some 10,.assign (.tmp 97),4, "law.go:57",#[⟨45,.data⟩,⟨44,.chain⟩,⟨0,.phase⟩,⟨1,.phase⟩,⟨2,.phase⟩,⟨3,.phase⟩,⟨4,.phase⟩,⟨5,.phase⟩,⟨6,.phase⟩,⟨7,.phase⟩,⟨8,.phase⟩,⟨9,.phase⟩,⟨10,.phase⟩,⟨11,.phase⟩,⟨12,.phase⟩,⟨13,.phase⟩,⟨14,.phase⟩,⟨15,.phase⟩,⟨16,.phase⟩,⟨17,.phase⟩,⟨18,.phase⟩,⟨19,.phase⟩,⟨20,.phase⟩,⟨21,.phase⟩,⟨22,.phase⟩,⟨23,.phase⟩,⟨24,.phase⟩,⟨25,.phase⟩,⟨26,.phase⟩,⟨27,.phase⟩,⟨28,.phase⟩,⟨29,.phase⟩,⟨30,.phase⟩,⟨31,.phase⟩,⟨32,.phase⟩,⟨33,.phase⟩,⟨34,.phase⟩,⟨35,.phase⟩,⟨36,.phase⟩,⟨37,.phase⟩,⟨38,.phase⟩,⟨39,.phase⟩,⟨40,.phase⟩,⟨41,.phase⟩,⟨42,.phase⟩,⟨43,.phase⟩,⟨44,.phase⟩,⟨45,.phase⟩],none⟩ hS11 ?_;simp only [Act.put,sA,s0,sS]
  refine wpAnyL_done (by kernel_rfl) ?_ _
  have QB:=(HK.out y11 cy11).2.2.2
  clear HK
  go_wp2_with fail
  go_ret
  exact ⟨rfl,QB⟩
end Go.Proofs.YtbilbgjojdlobaaGreatDoor
namespace Go.Proofs.YtbilbgjojdlobaaGreatDoor
open Go.ChangeShapes Go.WideShapes Go.ChangeAt Go.RowKit Go.Joins Go.Deep
theorem own:ownKnob Tryz.prog.godebug=none:=by kernel_rfl
theorem cellsItem:Tryz.prog.cellsOf 55=3:=by kernel_rfl
theorem cellsProd:Tryz.prog.cellsOf 58=3:=by kernel_rfl
theorem cellsFlat:Tryz.prog.cellsOf 25=3:=by kernel_rfl
theorem cellsInt:Tryz.prog.cellsOf 3=1:=by kernel_rfl
theorem cellsStr:Tryz.prog.cellsOf 9=1:=by kernel_rfl
theorem cellsItems:Tryz.prog.cellsOf 56=1:=by kernel_rfl
theorem laidOut:laidOutB Tryz.prog=true:=by kernel_rfl
theorem cell_plain {W:World} {a:Addr} {v:Value} (h:W.cell? a=some v):∃ b off,a=⟨b,off,none⟩:=by
  obtain ⟨b,off,spot⟩:=a
  have hs:spot=none:=by simpa using World.cell?_spot h
  subst hs
  exact ⟨b,off,rfl⟩
theorem i64_of {a:Int} (w:(Lit.int .i64 a).wf=true):i64B a:=by
  have:=bounds_i64 w
  exact ⟨this.1,this.2⟩
theorem three_of:∀ {l:List Value},l.length=3→∃ a b c,l=[a,b,c]
  | [a,b,c],_=>⟨a,b,c,rfl⟩
theorem getR {α:Type} {l n:Nat} {q:Nat→α} (hl:l=n) {i:Nat} {x:α} (h:((List.range l).map q)[i]?=some x):i<n∧x=q i:=by
  have hi:i<l:=by
    have:=(List.getElem?_eq_some_iff.1 h).1
    simpa using this
  rw [List.getElem?_map,List.getElem?_range hi] at h
  exact ⟨by omega,(Option.some.inj h).symm⟩
variable {H:Type} {enc:TypeId × Value→H} {W:World}
theorem weights_all {P:Program} {e:TypeId}:∀ {l:List (DataW H)} {x:DataW H},x∈l→∀ n∈x.weights P e,n∈DataW.weightsAll P e l
  | d :: r,x,h,n,hn=>by
    rw [DataW.weightsAll,List.mem_append]
    rcases List.mem_cons.1 h with rfl | h
    · exact .inl hn
    · exact .inr (weights_all h n hn)
theorem weigh_slice {t e:TypeId} {l m:Nat} {D:Nat→DataW H} (hu:Tryz.prog.underlying t=some (.slice e)) (hlm:l≤m)
    (hw:∀ n∈(DataW.slice ((List.range l).map D) ((List.range (m - l)).map fun j=>D (l+j)):DataW H).weights Tryz.prog t,n≤reachBytes) :
    m * Tryz.prog.bytesOf e≤reachBytes∧∀ i,i<l→∀ n∈(D i).weights Tryz.prog e,n≤reachBytes:=by
  rw [DataW.weights,hu] at hw
  simp only at hw
  refine ⟨?_,fun i hi n hn=>hw n ?_⟩
  · have:=hw _ (List.mem_cons_self ..)
    simp only [List.length_map,List.length_range] at this
    rw [show l+(m - l)=m by omega] at this
    exact this
  · refine List.mem_cons_of_mem _ (List.mem_append.2 (.inl (weights_all (List.mem_map.2 ⟨i,List.mem_range.2 hi,rfl⟩) n hn)))
theorem bytesItem:Tryz.prog.bytesOf 55=40:=by kernel_rfl
theorem bytesProd:Tryz.prog.bytesOf 58=40:=by kernel_rfl
theorem bytesStr:Tryz.prog.bytesOf 9=16:=by kernel_rfl
theorem open_nums {fuel:Nat} {sp:Nat→Bool} {cs:List Value} {x:DataW H × List MemPlace} (hf:DataW.trod enc Tryz.prog W 0 sp true fuel 43 cs=some x) :
    ∃ (es:List Int) (v:Value),cs=[v]∧SlI es v W:=by
  rcases open_slice Tryz.underlying43 hf with ⟨hcs,_⟩ | ⟨a,l,c,m,n,D,Pl,hcs,_,hl,hmx,hmm,hx,hel⟩
  · exact ⟨[],_,hcs,none,0,rfl,RowAt.nil _ _ _,fun _=>rfl,Nat.le_refl _,by simp⟩
  · have hlm:l≤m:=by rw [hmm]; split <;> omega
    have each:∀ i,i<l→∃ q:Int,W.cell? (a.add i)=some (.int .i64 q)∧i64B q:=by
      intro i hi
      obtain ⟨cs',h1,h2⟩:=hel i (by omega)
      rw [cellsInt] at h1
      obtain ⟨_,hlen',hcell⟩:=World.cells?_some h1
      obtain ⟨x0,e0,_,w0⟩:=DataW.trod_int Tryz.underlying3 h2
      subst e0
      have q0:=hcell 0 (by omega)
      rw [add_add] at q0
      exact ⟨x0,by simpa using q0,i64_of w0⟩
    obtain ⟨q,hq⟩:=choose_lt each
    refine ⟨(List.range l).map q,_,hcs,some a,c,by simp,fun i r hr=>?_,(fun h=>by cases h),by simpa using hl,fun y hy=>?_⟩
    · obtain ⟨hi,rfl⟩:=getR rfl hr
      have c0:=(hq i hi).1
      have hc':W.cell? a=some (.int .i64 (q 0)):=by simpa [Addr.add] using (hq 0 (by omega)).1
      obtain ⟨b,off,rfl⟩:=cell_plain hc'
      rw [add_plain] at c0
      exact ⟨b,off,rfl,World.block_lt_of_cell? W _ hc',c0⟩
    · obtain ⟨i,hi,rfl⟩:=List.mem_map.1 hy
      exact (hq i (List.mem_range.1 hi)).2
theorem open_texts {fuel:Nat} {cs:List Value} {x:DataW H × List MemPlace} (hf:DataW.trod enc Tryz.prog W 0 (fun _=>true) true fuel 22 cs=some x) (hw:∀ n∈x.1.weights Tryz.prog 22,n≤reachBytes) :
    ∃ (es:List ByteArray) (ao:Option Addr) (cap:Nat),cs=[.slice ao es.length cap]∧RowAt Value.string es ao W∧es.length≤140737488351232:=by
  rcases open_slice Tryz.underlying22 hf with ⟨hcs,_⟩ | ⟨a,l,c,m,n,D,Pl,hcs,_,hl,hmx,hmm,hx,hel⟩
  · exact ⟨[],none,0,hcs,RowAt.nil _ _ _,by simp⟩
  · have hlm:l≤m:=by rw [hmm]; split <;> omega
    rw [hx] at hw
    have hwt:=weigh_slice Tryz.underlying22 hlm hw
    rw [bytesStr] at hwt
    unfold reachBytes at hwt
    have each:∀ i,i<l→∃ q:ByteArray,W.cell? (a.add i)=some (.string q):=by
      intro i hi
      obtain ⟨cs',h1,h2⟩:=hel i (by omega)
      rw [cellsStr] at h1
      obtain ⟨_,hlen',hcell⟩:=World.cells?_some h1
      obtain ⟨s,e0,_⟩:=DataW.trod_string Tryz.underlying9 h2
      subst e0
      have q0:=hcell 0 (by omega)
      rw [add_add] at q0
      exact ⟨s,by simpa using q0⟩
    obtain ⟨q,hq⟩:=choose_lt each
    refine ⟨(List.range l).map q,some a,c,by simpa using hcs,fun i r hr=>?_,by simp; omega⟩
    obtain ⟨hi,rfl⟩:=getR rfl hr
    have c0:=hq i hi
    have hc':W.cell? a=some (.string (q 0)):=by simpa [Addr.add] using hq 0 (by omega)
    obtain ⟨b,off,rfl⟩:=cell_plain hc'
    rw [add_plain] at c0
    exact ⟨b,off,rfl,World.block_lt_of_cell? W _ hc',c0⟩
theorem open_items {fuel:Nat} {cs:List Value} {x:DataW H × List MemPlace} (hf:DataW.trod enc Tryz.prog W 0 (fun _=>true) true fuel 56 cs=some x) (hw:∀ n∈x.1.weights Tryz.prog 56,n≤reachBytes) :
    ∃ (es:List It) (v:Value),cs=[v]∧SlT es v W:=by
  rcases open_slice Tryz.underlying56 hf with ⟨hcs,_⟩ | ⟨a,l,c,m,n,D,Pl,hcs,_,hl,hmx,hmm,hx,hel⟩
  · exact ⟨[],_,hcs,none,0,rfl,fun i x hi=>by simp at hi,fun _=>rfl,Nat.le_refl _,by omega⟩
  · have hm:m=c:=by simpa using hmm
    subst hm
    rw [hx] at hw
    have hwt:=weigh_slice Tryz.underlying56 hl hw
    rw [bytesItem] at hwt
    unfold reachBytes at hwt
    have each:∀ i,i<l→∃ q:It,W.cell? (a.add (i * 3))=some (.int .i64 q.sym)∧W.cell? (a.add (i * 3+1))=some (.string q.fld)∧W.cell? (a.add (i * 3+2))=some (.string q.als)∧i64B q.sym∧q.fld.size≤9223372036854775807∧q.als.size≤9223372036854775807:=by
      intro i hi
      obtain ⟨cs',h1,h2⟩:=hel i (by omega)
      rw [cellsItem] at h1
      obtain ⟨_,hlen',hcell⟩:=World.cells?_some h1
      obtain ⟨y0,y1,y2,k,hy,_,g0,g1,g2⟩:=trod_struct3 Tryz.underlying55 h2
      obtain ⟨v0,v1,v2,rfl⟩:=three_of hlen'
      simp [cellsInt,cellsStr] at g0 g1 g2
      obtain ⟨x0,e0,_,w0⟩:=DataW.trod_int Tryz.underlying3 g0
      obtain ⟨s1,e1,_,w1⟩:=DataW.trod_string Tryz.underlying9 g1
      obtain ⟨s2,e2,_,w2⟩:=DataW.trod_string Tryz.underlying9 g2
      simp at e0 e1 e2
      subst e0 e1 e2
      have q0:=hcell 0 (by omega)
      have q1:=hcell 1 (by omega)
      have q2:=hcell 2 (by omega)
      rw [add_add] at q0 q1 q2
      unfold maxLen at w1 w2
      exact ⟨⟨x0,s1,s2⟩,by simpa using q0,by simpa using q1,by simpa using q2,i64_of w0,w1,w2⟩
    haveI:Inhabited It:=⟨⟨0,ByteArray.empty,ByteArray.empty⟩⟩
    obtain ⟨q,hq⟩:=choose_lt each
    refine ⟨(List.range l).map q,_,hcs,some a,m,by simp,fun i r hr=>?_,(fun h=>by cases h),by simpa using hl,by omega⟩
    obtain ⟨hi,rfl⟩:=getR rfl hr
    obtain ⟨c0,c1,c2,c3⟩:=hq i hi
    have hc':W.cell? a=some (.int .i64 (q 0).sym):=by simpa [Addr.add] using (hq 0 (by omega)).1
    obtain ⟨b,off,rfl⟩:=cell_plain hc'
    rw [add_plain] at c0 c1 c2
    exact ⟨b,off,rfl,World.block_lt_of_cell? W _ hc',c0,c1,c2,c3⟩
set_option maxRecDepth 100000 in
theorem open_prods {fuel:Nat} {cs:List Value} {x:DataW H × List MemPlace} (hf:DataW.trod enc Tryz.prog W 0 (fun _=>true) true fuel 23 cs=some x) (hw:∀ n∈x.1.weights Tryz.prog 23,n≤reachBytes) :
    ∃ (es:List Pr) (ao:Option Addr) (cap:Nat),cs=[.slice ao es.length cap]∧PrsAt es ao W∧es.length≤140737488351232∧es.length≤cap∧(ao=none→cap=0):=by
  rcases open_slice Tryz.underlying23 hf with ⟨hcs,_⟩ | ⟨a,l,c,m,n,D,Pl,hcs,_,hl,hmx,hmm,hx,hel⟩
  · exact ⟨[],none,0,hcs,fun i x hi=>by simp at hi,by simp,by simp,fun _=>rfl⟩
  · have hm:m=c:=by simpa using hmm
    subst hm
    rw [hx] at hw
    have hwt:=weigh_slice Tryz.underlying23 hl hw
    rw [bytesProd] at hwt
    have hb:=hwt.1
    unfold reachBytes at hb
    have each:∀ i,i<l→∃ q:Pr × Value,W.cell? (a.add (i * 3))=some (.int .i64 q.1.left)∧W.cell? (a.add (i * 3+1))=some q.2∧W.cell? (a.add (i * 3+2))=some (.int .i64 q.1.prec)∧SlT q.1.right q.2 W∧i64B q.1.left∧i64B q.1.prec:=by
      intro i hi
      obtain ⟨cs',h1,h2⟩:=hel i (by omega)
      rw [cellsProd] at h1
      obtain ⟨_,hlen',hcell⟩:=World.cells?_some h1
      obtain ⟨y0,y1,y2,k,hy,_,g0,g1,g2⟩:=trod_struct3 Tryz.underlying58 h2
      have hwi:=hwt.2 i hi
      have hy1:D i=.agg [y0.1,y1.1,y2.1]:=by have:=congrArg Prod.fst hy; exact this
      rw [hy1,DataW.weights,Tryz.underlying58] at hwi
      obtain ⟨v0,v1,v2,rfl⟩:=three_of hlen'
      simp [cellsInt,cellsItems] at g0 g1 g2
      obtain ⟨x0,e0,_,w0⟩:=DataW.trod_int Tryz.underlying3 g0
      obtain ⟨x2,e2,_,w2⟩:=DataW.trod_int Tryz.underlying3 g2
      obtain ⟨its,vv,e1,hT⟩:=open_items g1 (fun n hn=>hwi n (by simp [DataW.weightsEach,hn]))
      simp at e0 e1 e2
      subst e0 e1 e2
      have q0:=hcell 0 (by omega)
      have q1:=hcell 1 (by omega)
      have q2:=hcell 2 (by omega)
      rw [add_add] at q0 q1 q2
      exact ⟨(⟨x0,its,x2⟩,v1),by simpa using q0,by simpa using q1,by simpa using q2,hT,i64_of w0,i64_of w2⟩
    haveI:Inhabited (Pr × Value):=⟨(⟨0,[],0⟩,.bool false)⟩
    obtain ⟨q,hq⟩:=choose_lt each
    refine ⟨(List.range l).map fun i=>(q i).1,some a,m,by simpa using hcs,fun i r hr=>?_,by simp; omega,by simpa using hl,(fun h=>by cases h)⟩
    obtain ⟨hi,rfl⟩:=getR rfl hr
    obtain ⟨c0,c1,c2,c3⟩:=hq i hi
    have hc':W.cell? a=some (.int .i64 (q 0).1.left):=by simpa [Addr.add] using (hq 0 (by omega)).1
    obtain ⟨b,off,rfl⟩:=cell_plain hc'
    rw [add_plain] at c0 c1 c2
    exact ⟨b,off,_,rfl,World.block_lt_of_cell? W _ hc',c0,c1,c2,c3⟩
set_option maxRecDepth 100000 in
theorem open_flat {r:Reach} {b0:Nat} {v:Value} {d:DataW H} {p:List MemPlace} (hv:Value.okWide Tryz.prog W r b0 25 v) (h:DataW.Trod enc Tryz.prog W 0 (fun _=>true) true 25 v d p) (hw:∀ n∈d.weights Tryz.prog 25,n≤reachBytes) :
    ∃ f a,v=FlA.val a f∧FlAt f a W:=by
  obtain ⟨v0,v1,v2,y0,y1,y2,n,rfl,rfl,_,g0,g1,g2⟩:=open_agg3 Tryz.underlying25 (by kernel_rfl) cellsFlat hv h
  rw [DataW.weights,Tryz.underlying25] at hw
  obtain ⟨ts,ta,tc,e0,hT,lt⟩:=open_texts g0 (fun n hn=>hw n (by simp [DataW.weightsEach,hn]))
  obtain ⟨ns,na,nc,e1,hN,ln⟩:=open_texts g1 (fun n hn=>hw n (by simp [DataW.weightsEach,hn]))
  obtain ⟨ps,pa,pc,e2,hP,lp,lc,ln0⟩:=open_prods g2 (fun n hn=>hw n (by simp [DataW.weightsEach,hn]))
  simp at e0 e1 e2
  subst e0 e1 e2
  exact ⟨⟨ts,ns,ps⟩,⟨ta,tc,na,nc,pa,pc⟩,rfl,hT,hN,hP,lt,ln,lp,lc,ln0⟩
theorem cellsGo12:Tryz.prog.cellsOf 75=2:=by kernel_rfl
theorem cellsAct:Tryz.prog.cellsOf 45=4:=by kernel_rfl
theorem cellsRow:Tryz.prog.cellsOf 68=2:=by kernel_rfl
theorem cellsTab:Tryz.prog.cellsOf 30=1:=by kernel_rfl
theorem cellsBool12:Tryz.prog.cellsOf 4=1:=by kernel_rfl
theorem cellsInts12:Tryz.prog.cellsOf 43=1:=by kernel_rfl
theorem cellsActs:Tryz.prog.cellsOf 65=1:=by kernel_rfl
theorem cellsGos:Tryz.prog.cellsOf 66=1:=by kernel_rfl
theorem cellsRows:Tryz.prog.cellsOf 28=1:=by kernel_rfl
theorem bytesGo12:Tryz.prog.bytesOf 75=16:=by kernel_rfl
theorem bytesAct:Tryz.prog.bytesOf 45=48:=by kernel_rfl
theorem bytesRow12:Tryz.prog.bytesOf 68=48:=by kernel_rfl
theorem bytesInt12:Tryz.prog.bytesOf 3=8:=by kernel_rfl
theorem two_of12:∀ {l:List Value},l.length=2→∃ a b,l=[a,b]
  | [a,b],_=>⟨a,b,rfl⟩
theorem four_of12:∀ {l:List Value},l.length=4→∃ a b c d,l=[a,b,c,d]
  | [a,b,c,d],_=>⟨a,b,c,d,rfl⟩
variable {H:Type} {enc:TypeId × Value→H} {W:World}
theorem len_ints {fuel:Nat} {cs:List Value} {x:DataW H × List MemPlace} (hf:DataW.trod enc Tryz.prog W 0 (fun _=>true) true fuel 43 cs=some x) (hw:∀ n∈x.1.weights Tryz.prog 43,n≤reachBytes) :
    ∃ ao n c,cs=[.slice ao n c]∧n≤140737488351232:=by
  rcases open_slice Tryz.underlying43 hf with ⟨hcs,_⟩ | ⟨a,l,c,m,n,D,Pl,hcs,_,hl,hmx,hmm,hx,hel⟩
  · exact ⟨none,0,0,hcs,by omega⟩
  · have hm:m=c:=by simpa using hmm
    subst hm
    rw [hx] at hw
    have hwt:=(weigh_slice Tryz.underlying43 hl hw).1
    rw [bytesInt12] at hwt
    unfold reachBytes at hwt
    exact ⟨_,_,_,hcs,by omega⟩
set_option maxRecDepth 100000 in
theorem open_gos {fuel:Nat} {cs:List Value} {x:DataW H × List MemPlace} (hf:DataW.trod enc Tryz.prog W 0 (fun _=>true) true fuel 66 cs=some x) (hw:∀ n∈x.1.weights Tryz.prog 66,n≤reachBytes) :
    ∃ (es:List (Int × Int)) (v:Value),cs=[v]∧SlG es v W:=by
  rcases open_slice Tryz.underlying66 hf with ⟨hcs,_⟩ | ⟨a,l,c,m,n,D,Pl,hcs,_,hl,hmx,hmm,hx,hel⟩
  · exact ⟨[],_,hcs,SlG.nil W⟩
  · have hm:m=c:=by simpa using hmm
    subst hm
    rw [hx] at hw
    have hwt:=(weigh_slice Tryz.underlying66 hl hw).1
    rw [bytesGo12] at hwt
    unfold reachBytes at hwt
    have each:∀ i,i<l→∃ q:Int × Int,W.cell? (a.add (i * 2))=some (.int .i64 q.1)∧W.cell? (a.add (i * 2+1))=some (.int .i64 q.2)∧i64B q.1∧i64B q.2:=by
      intro i hi
      obtain ⟨cs',h1,h2⟩:=hel i (by omega)
      rw [cellsGo12] at h1
      obtain ⟨_,hlen',hcell⟩:=World.cells?_some h1
      obtain ⟨y0,y1,k,hy,_,g0,g1⟩:=trod_struct2 Tryz.underlying75 h2
      obtain ⟨v0,v1,rfl⟩:=two_of12 hlen'
      simp [cellsInt] at g0 g1
      obtain ⟨x0,e0,_,w0⟩:=DataW.trod_int Tryz.underlying3 g0
      obtain ⟨x1,e1,_,w1⟩:=DataW.trod_int Tryz.underlying3 g1
      simp at e0 e1
      subst e0 e1
      have q0:=hcell 0 (by omega)
      have q1:=hcell 1 (by omega)
      rw [add_add] at q0 q1
      exact ⟨(x0,x1),by simpa using q0,by simpa using q1,i64_of w0,i64_of w1⟩
    haveI:Inhabited (Int × Int):=⟨(0,0)⟩
    obtain ⟨q,hq⟩:=choose_lt each
    refine ⟨(List.range l).map q,_,hcs,some a,m,by simp,fun i r hr=>?_,(fun h=>by cases h),by simpa using hl,by simp; omega⟩
    obtain ⟨hi,rfl⟩:=getR rfl hr
    obtain ⟨c0,c1,c2,c3⟩:=hq i hi
    have hc':W.cell? a=some (.int .i64 (q 0).1):=by simpa [Addr.add] using (hq 0 (by omega)).1
    obtain ⟨b,off,rfl⟩:=cell_plain hc'
    rw [add_plain] at c0 c1
    exact ⟨b,off,rfl,World.block_lt_of_cell? W _ hc',c0,c1,c2,c3⟩
set_option maxRecDepth 100000 in
theorem open_acts {fuel:Nat} {cs:List Value} {x:DataW H × List MemPlace} (hf:DataW.trod enc Tryz.prog W 0 (fun _=>true) true fuel 65 cs=some x) (hw:∀ n∈x.1.weights Tryz.prog 65,n≤reachBytes) :
    ∃ (es:List Ac) (v:Value),cs=[v]∧SlA es v W:=by
  rcases open_slice Tryz.underlying65 hf with ⟨hcs,_⟩ | ⟨a,l,c,m,n,D,Pl,hcs,_,hl,hmx,hmm,hx,hel⟩
  · exact ⟨[],_,hcs,SlA.nil W⟩
  · have hm:m=c:=by simpa using hmm
    subst hm
    rw [hx] at hw
    have hwt:=weigh_slice Tryz.underlying65 hl hw
    rw [bytesAct] at hwt
    have hb:=hwt.1
    unfold reachBytes at hb
    have each:∀ i,i<l→∃ q:Ac × Value,W.cell? (a.add (i * 4))=some (.int .i64 q.1.look)∧W.cell? (a.add (i * 4+1))=some (.int .i64 q.1.to)∧W.cell? (a.add (i * 4+2))=some q.2∧W.cell? (a.add (i * 4+3))=some (.bool q.1.acc)∧SlI q.1.red q.2 W∧i64B q.1.look∧i64B q.1.to∧q.1.red.length≤140737488351232:=by
      intro i hi
      obtain ⟨cs',h1,h2⟩:=hel i (by omega)
      rw [cellsAct] at h1
      obtain ⟨_,hlen',hcell⟩:=World.cells?_some h1
      obtain ⟨y0,y1,y2,y3,k,hy,_,g0,g1,g2,g3⟩:=trod_struct4 Tryz.underlying45 h2
      have hwi:=hwt.2 i hi
      have hy1:D i=.agg [y0.1,y1.1,y2.1,y3.1]:=by have:=congrArg Prod.fst hy; exact this
      rw [hy1,DataW.weights,Tryz.underlying45] at hwi
      obtain ⟨v0,v1,v2,v3,rfl⟩:=four_of12 hlen'
      simp [cellsInt,cellsInts12,cellsBool12] at g0 g1 g2 g3
      obtain ⟨x0,e0,_,w0⟩:=DataW.trod_int Tryz.underlying3 g0
      obtain ⟨x1,e1,_,w1⟩:=DataW.trod_int Tryz.underlying3 g1
      obtain ⟨x3,e3,_⟩:=DataW.trod_bool Tryz.underlying4 g3
      obtain ⟨ns,vv,e2,hN⟩:=open_nums g2
      obtain ⟨_,nl,_,e4,hnl⟩:=len_ints g2 (fun n hn=>hwi n (by simp [DataW.weightsEach,hn]))
      simp at e0 e1 e2 e3 e4
      subst e0 e1 e2 e3
      have hnl2:ns.length≤140737488351232:=by
        obtain ⟨_,_,h0,_⟩:=hN
        rw [h0] at e4
        cases e4
        exact hnl
      have q0:=hcell 0 (by omega)
      have q1:=hcell 1 (by omega)
      have q2:=hcell 2 (by omega)
      have q3:=hcell 3 (by omega)
      rw [add_add] at q0 q1 q2 q3
      exact ⟨(⟨x0,x1,ns,x3⟩,v2),by simpa using q0,by simpa using q1,by simpa using q2,by simpa using q3,hN,i64_of w0,i64_of w1,hnl2⟩
    haveI:Inhabited (Ac × Value):=⟨(⟨0,0,[],false⟩,.bool false)⟩
    obtain ⟨q,hq⟩:=choose_lt each
    refine ⟨(List.range l).map fun i=>(q i).1,_,hcs,some a,m,by simp,fun i r hr=>?_,(fun h=>by cases h),by simpa using hl,by simp; omega⟩
    obtain ⟨hi,rfl⟩:=getR rfl hr
    obtain ⟨c0,c1,c2,c3,c4⟩:=hq i hi
    have hc':W.cell? a=some (.int .i64 (q 0).1.look):=by simpa [Addr.add] using (hq 0 (by omega)).1
    obtain ⟨b,off,rfl⟩:=cell_plain hc'
    rw [add_plain] at c0 c1 c2 c3
    exact ⟨b,off,_,rfl,World.block_lt_of_cell? W _ hc',c0,c1,c2,c3,c4⟩
set_option maxRecDepth 100000 in
theorem open_rws {fuel:Nat} {cs:List Value} {x:DataW H × List MemPlace} (hf:DataW.trod enc Tryz.prog W 0 (fun _=>true) true fuel 28 cs=some x) (hw:∀ n∈x.1.weights Tryz.prog 28,n≤reachBytes) :
    ∃ (es:List Rw) (v:Value),cs=[v]∧SlW es v W:=by
  rcases open_slice Tryz.underlying28 hf with ⟨hcs,_⟩ | ⟨a,l,c,m,n,D,Pl,hcs,_,hl,hmx,hmm,hx,hel⟩
  · exact ⟨[],_,hcs,SlW.nil W⟩
  · have hm:m=c:=by simpa using hmm
    subst hm
    rw [hx] at hw
    have hwt:=weigh_slice Tryz.underlying28 hl hw
    rw [bytesRow12] at hwt
    have hb:=hwt.1
    unfold reachBytes at hb
    have each:∀ i,i<l→∃ q:Rw × Value × Value,W.cell? (a.add (i * 2))=some q.2.1∧W.cell? (a.add (i * 2+1))=some q.2.2∧SlA q.1.acts q.2.1 W∧SlG q.1.goes q.2.2 W:=by
      intro i hi
      obtain ⟨cs',h1,h2⟩:=hel i (by omega)
      rw [cellsRow] at h1
      obtain ⟨_,hlen',hcell⟩:=World.cells?_some h1
      obtain ⟨y0,y1,k,hy,_,g0,g1⟩:=trod_struct2 Tryz.underlying68 h2
      have hwi:=hwt.2 i hi
      have hy1:D i=.agg [y0.1,y1.1]:=by have:=congrArg Prod.fst hy; exact this
      rw [hy1,DataW.weights,Tryz.underlying68] at hwi
      obtain ⟨v0,v1,rfl⟩:=two_of12 hlen'
      simp [cellsActs,cellsGos] at g0 g1
      obtain ⟨acs,va,e0,hA⟩:=open_acts g0 (fun n hn=>hwi n (by simp [DataW.weightsEach,hn]))
      obtain ⟨gs,vg,e1,hG⟩:=open_gos g1 (fun n hn=>hwi n (by simp [DataW.weightsEach,hn]))
      simp at e0 e1
      subst e0 e1
      have q0:=hcell 0 (by omega)
      have q1:=hcell 1 (by omega)
      rw [add_add] at q0 q1
      exact ⟨(⟨acs,gs⟩,v0,v1),by simpa using q0,by simpa using q1,hA,hG⟩
    haveI:Inhabited (Rw × Value × Value):=⟨(⟨[],[]⟩,.bool false,.bool false)⟩
    obtain ⟨q,hq⟩:=choose_lt each
    refine ⟨(List.range l).map fun i=>(q i).1,_,hcs,some a,m,by simp,fun i r hr=>?_,(fun h=>by cases h),by simpa using hl,by simp; omega⟩
    obtain ⟨hi,rfl⟩:=getR rfl hr
    obtain ⟨c0,c1,c2,c3⟩:=hq i hi
    have hc':W.cell? a=some (q 0).2.1:=by simpa [Addr.add] using (hq 0 (by omega)).1
    obtain ⟨b,off,rfl⟩:=cell_plain hc'
    rw [add_plain] at c0 c1
    exact ⟨b,off,_,_,rfl,World.block_lt_of_cell? W _ hc',c0,c1,c2,c3⟩
set_option maxRecDepth 100000 in
theorem open_table {r:Reach} {b0:Nat} {v:Value} {d:DataW H} {p:List MemPlace} (hv:Value.okWide Tryz.prog W r b0 30 v) (h:DataW.Trod enc Tryz.prog W 0 (fun _=>true) true 30 v d p) (hw:∀ n∈d.weights Tryz.prog 30,n≤reachBytes) :
    ∃ (l:List Rw) (u:Value),v=.agg #[u]∧SlW l u W:=by
  obtain ⟨cs,rfl,hsz⟩:=okWide_struct Tryz.underlying30 hv
  rw [cellsTab] at hsz
  obtain ⟨c0,rfl⟩:∃ c0,cs=#[c0]:=by
    obtain ⟨l⟩:=cs
    match l,hsz with
    | [c0],_=>exact ⟨c0,rfl⟩
  obtain ⟨fuel,hf⟩:=h
  obtain ⟨y0,n,hx,_,g0⟩:=trod_struct1 Tryz.underlying30 hf
  simp only [Prod.mk.injEq] at hx
  rw [hx.1,DataW.weights,Tryz.underlying30] at hw
  simp [Value.cells,cellsRows] at g0
  obtain ⟨l,u,e0,hl⟩:=open_rws g0 (fun n hn=>hw n (by simp [DataW.weightsEach,hn]))
  simp at e0
  subst e0
  exact ⟨l,_,rfl,hl⟩
theorem trodAll_five12 {P:Program} {w:World} {base:Nat} {spare:Nat→Bool} {held:Bool} {t0 t1 t2 t3 t4:TypeId} {args:Array Value} {ds:List (DataW H)} {ps:List MemPlace} (h:DataW.TrodAll enc P w base spare held [t0,t1,t2,t3,t4] args.toList ds ps) :
    ∃ v0 v1 v2 v3 v4 d0 d1 d2 d3 d4 p0 p1 p2 p3 p4,args=#[v0,v1,v2,v3,v4]∧ds=[d0,d1,d2,d3,d4]∧ps=p0++p1++p2++p3++p4∧DataW.Trod enc P w base spare held t0 v0 d0 p0∧DataW.Trod enc P w base spare held t1 v1 d1 p1∧DataW.Trod enc P w base spare held t2 v2 d2 p2∧DataW.Trod enc P w base spare held t3 v3 d3 p3∧DataW.Trod enc P w base spare held t4 v4 d4 p4:=by
  obtain ⟨v0,vs,d0,ds0,p0,q0,hargs,rfl,rfl,h0,r0⟩:=trodAll_cons h
  obtain ⟨v1,vs1,d1,ds1,p1,q1,rfl,rfl,rfl,h1,r1⟩:=trodAll_cons r0
  obtain ⟨v2,vs2,d2,ds2,p2,q2,rfl,rfl,rfl,h2,r2⟩:=trodAll_cons r1
  obtain ⟨v3,vs3,d3,ds3,p3,q3,rfl,rfl,rfl,h3,r3⟩:=trodAll_cons r2
  obtain ⟨v4,vs4,d4,ds4,p4,q4,rfl,rfl,rfl,h4,r4⟩:=trodAll_cons r3
  obtain ⟨rfl,rfl,rfl⟩:=trodAll_nil r4
  exact ⟨v0,v1,v2,v3,v4,d0,d1,d2,d3,d4,p0,p1,p2,p3,p4,by cases args; simp_all,rfl,by simp,h0,h1,h2,h3,h4⟩
abbrev laidL:List (String × DataW Unit):=[("math/bits.deBruijn64tab",Rows.laid_math_bits_deBruijn64tab)]
theorem Tryz.gTab:Tryz.prog.globalNamed "math/bits.deBruijn64tab" = some 0:=by kernel_rfl
theorem tTab:(Tryz.prog.globals[0]?).map (·.type)=some 253:=by kernel_rfl
theorem tb_of_laid {W:World} (h:laidMetH Tryz.prog laidL W):Tb W:=by
  rw [MakeChecks.laidMetH_plain _ _ _ (by kernel_rfl)] at h
  have htab:=Lib.tabIs_of_head (k:=.u8) (zs:=Lib.deBruijn64tab.map (fun n:Nat=>(n:Int))) Tryz.gTab tTab Tryz.underlying253 Tryz.underlying5 (by kernel_rfl) (by kernel_rfl) h
  unfold Lib.TabIs at htab
  have key:TabAt 0 Lib.deBruijn64tab W:=fun j hj=>by
    have:=World.var?_cell Tryz.gTab htab j
    rw [this]
    simp [hj]
  exact ⟨key,World.block_lt_of_cell? W _ (key 0 (by decide))⟩
theorem door_met (os:Os) (args:Array Value):laidMetH Tryz.prog laidL ((World.doorLaid Tryz.prog 200 os).forCall (fun _ _=>0) ⟨#[],args,[]⟩).memory :=
  laidMetH_of_parts3 (fuel:=8) (laidMet_of_run' 8 (by kernel_rfl) (by kernel_rfl)) (by kernel_rfl) (by kernel_rfl)
end Go.Proofs.YtbilbgjojdlobaaGreatDoor
