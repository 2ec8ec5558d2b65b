import Derived.Test.YtbilbgjojdlobaaGreatDoorJ01
import Derived.Test.YtbilbgjojdlobaaGreatDoorJ04
import Derived.Test.YtbilbgjojdlobaaGreatDoorJ05
import Derived.Shelf.SlIterI.Nil
import Derived.Shelf.SortM.Plain
import Derived.Shelf.SortM.SortNone
import Derived.Ground.GgzProg
import Derived.Ground.SlgmProg

namespace Go.Proofs.YtbilbgjojdlobaaGreatDoor
open Go.RowKit
set_option maxRecDepth 100000 in
set_option maxHeartbeats 1600000 in
theorem risesA_any (l:List (Ac)) (v:Value) (w:World) (hl:SlA l v w) :
    Calls Tryz.prog 75 #[v,.func (.func 76) #[] #[]] w fun e w'=>e=.returned (.bool (risesB (l.map Ac.look)))∧Below w.heap.size w w':=by
  have HBP:Hid (∀ (a:Ac) (u:Value) W,SlI a.red u W→Calls Tryz.prog 76 #[.agg #[.int .i64 a.look,.int .i64 a.to,u,.bool a.acc]] W fun e w'=>e=.returned (.int .i64 a.look)∧Below W.heap.size W w'):=fun a u W hu=>byLook_any a u W hu
  have HL:Hid (∀ W,Below w.heap.size w W→SlA l v W):=fun W hb=>hl.next hb
  have HEQ:Hid ((∀ k,(h:k+1<l.length)→l[k].look<l[k+1].look)→risesB (l.map Ac.look)=true):=(risesB_map _ l).2
  have HNE:Hid (∀ k,(h:k+1<l.length)→¬ l[k].look<l[k+1].look→risesB (l.map Ac.look)=false):=fun k h hn=>by
    cases e:risesB (l.map Ac.look)
    · rfl
    · exact absurd ((risesB_map _ l).1 e k h) hn
  have hb:l.length≤140737488351232:=by obtain ⟨_,_,_,_,_,_,h⟩:=hl; exact h
  obtain ⟨la,lc,rfl,_⟩:=hl
  generalize risesB (l.map Ac.look)=RB at *
  go_enter Tryz.func75,Tryz.ntmps75
  go_wp2_with fail
  go_loopw [5] (fun iv wr=>∃ (i:Nat),iv=.int .i64 i∧1≤i∧i≤l.length+1∧(∀ k,(h:k+1<l.length)→k+1<i→l[k].look<l[k+1].look)∧Below w.heap.size w wr) (fun i _=>l.length+1 - (intOf i).toNat)
  case atStart=>exact ⟨1,rfl,Nat.le_refl _,by omega,fun k _ hk=>by omega,Below.refl _ _⟩
  case round =>
  obtain ⟨i,rfl,h1i,hi,hall,B1⟩:=hrel
  have HAL:Hid (∀ k,(h:k+1<l.length)→k+1<i→l[k].look<l[k+1].look):=hall
  clear hall
  by_cases hlt:i<l.length
  case neg =>
    have HE:Hid (RB=true):=HEQ.out (fun k h=>HAL.out k h (by omega))
    clear HEQ HNE HAL
    go_wp2_with fail
    go_ret
    exact ⟨by rw [HE.out]; rfl,B1⟩
  have hlt1:i - 1<l.length:=by omega
  obtain ⟨_,_,e0,hrl,_⟩:=HL.out _ B1
  cases e0
  obtain ⟨b2,o2,pv,rfl,hb2,p0,p1,p2,p3,hpr,_⟩:=hrl.at (Below.refl _ wr).drew hlt1
  obtain ⟨_,_,qv,e1,_,q0,q1,q2,q3,hqr,_⟩:=hrl.at (Below.refl _ wr).drew hlt
  cases e1
  have HPC:=HBP.out l[i - 1] pv _ hpr
  have HQC:Hid (∀ W,Below wr.heap.size wr W→Calls Tryz.prog 76 #[.agg #[.int .i64 l[i].look,.int .i64 l[i].to,qv,.bool l[i].acc]] W fun e w'=>e=.returned (.int .i64 l[i].look)∧Below W.heap.size W w'):=fun W hW=>HBP.out l[i] qv W (hqr.next (show Below wr.drew.heap.size wr.drew W from ⟨hW.os,hW.tape,hW.output,hW.size,hW.block⟩))
  obtain ⟨pa,pc,rfl,_⟩:=hpr
  obtain ⟨qa,qc,rfl,_⟩:=hqr
  have HAN:Hid (l[i - 1].look<l[i].look→∀ k,(h:k+1<l.length)→k+1<i+1→l[k].look<l[k+1].look):=fun hh k h hk=>by
    rcases Nat.lt_or_ge (k+1) i with h' | h'
    · exact HAL.out k h h'
    · obtain rfl:i=k+1:=by omega
      exact hh
  have HNN:Hid (¬ l[i - 1].look<l[i].look→RB=false):=fun hh=>HNE.out (i - 1) (by omega) (by
    have e:i - 1+1=i:=by omega
    simp only [e]; omega)
  generalize l[i - 1].look=P0 at *
  generalize l[i - 1].to=P1 at *
  generalize l[i - 1].red.length=pn at *
  generalize l[i - 1].acc=P3 at *
  generalize l[i].look=Q0 at *
  generalize l[i].to=Q1 at *
  generalize l[i].red.length=qn at *
  generalize l[i].acc=Q3 at *
  have hS0:(fun W:World=>(W.cell? ⟨b2,o2+(i - 1) * 4,none⟩=some (.int .i64 P0)∧W.cell? ⟨b2,o2+(i - 1) * 4+1,none⟩=some (.int .i64 P1)∧W.cell? ⟨b2,o2+(i - 1) * 4+2,none⟩=some (.slice pa pn pc)∧W.cell? ⟨b2,o2+(i - 1) * 4+3,none⟩=some (.bool P3)∧W.cell? ⟨b2,o2+i * 4,none⟩=some (.int .i64 Q0)∧W.cell? ⟨b2,o2+i * 4+1,none⟩=some (.int .i64 Q1)∧W.cell? ⟨b2,o2+i * 4+2,none⟩=some (.slice qa qn qc)∧W.cell? ⟨b2,o2+i * 4+3,none⟩=some (.bool Q3))) wr.drew:=⟨p0,p1,p2,p3,q0,q1,q2,q3⟩
  have HSK:Hid (∀ W,Below wr.heap.size wr.drew W→(fun W:World=>(W.cell? ⟨b2,o2+(i - 1) * 4,none⟩=some (.int .i64 P0)∧W.cell? ⟨b2,o2+(i - 1) * 4+1,none⟩=some (.int .i64 P1)∧W.cell? ⟨b2,o2+(i - 1) * 4+2,none⟩=some (.slice pa pn pc)∧W.cell? ⟨b2,o2+(i - 1) * 4+3,none⟩=some (.bool P3)∧W.cell? ⟨b2,o2+i * 4,none⟩=some (.int .i64 Q0)∧W.cell? ⟨b2,o2+i * 4+1,none⟩=some (.int .i64 Q1)∧W.cell? ⟨b2,o2+i * 4+2,none⟩=some (.slice qa qn qc)∧W.cell? ⟨b2,o2+i * 4+3,none⟩=some (.bool Q3))) W):=fun W b5=>by
    have h0:=hS0
    exact ⟨(b5.cell (p:=⟨b2,o2+(i - 1) * 4,none⟩) (show b2<wr.drew.heap.size from hb2)).trans h0.1,(b5.cell (p:=⟨b2,o2+(i - 1) * 4+1,none⟩) (show b2<wr.drew.heap.size from hb2)).trans h0.2.1,(b5.cell (p:=⟨b2,o2+(i - 1) * 4+2,none⟩) (show b2<wr.drew.heap.size from hb2)).trans h0.2.2.1,(b5.cell (p:=⟨b2,o2+(i - 1) * 4+3,none⟩) (show b2<wr.drew.heap.size from hb2)).trans h0.2.2.2.1,(b5.cell (p:=⟨b2,o2+i * 4,none⟩) (show b2<wr.drew.heap.size from hb2)).trans h0.2.2.2.2.1,(b5.cell (p:=⟨b2,o2+i * 4+1,none⟩) (show b2<wr.drew.heap.size from hb2)).trans h0.2.2.2.2.2.1,(b5.cell (p:=⟨b2,o2+i * 4+2,none⟩) (show b2<wr.drew.heap.size from hb2)).trans h0.2.2.2.2.2.2.1,(b5.cell (p:=⟨b2,o2+i * 4+3,none⟩) (show b2<wr.drew.heap.size from hb2)).trans h0.2.2.2.2.2.2.2⟩
  have hw1:IntKind.i64.wrap ((i:Int) - 1)=((i - 1:Nat):Int):=by rw [IntKind.wrap_i64]; omega
  clear hrl HL p0 p1 p2 p3 q0 q1 q2 q3 HAL HEQ HNE HBP
  go_wp2_with fail
  refine wp_region_L (fun W=>W.cell? ⟨b2,o2+(i - 1) * 4,none⟩=some (.int .i64 P0)∧W.cell? ⟨b2,o2+(i - 1) * 4+1,none⟩=some (.int .i64 P1)∧W.cell? ⟨b2,o2+(i - 1) * 4+2,none⟩=some (.slice pa pn pc)∧W.cell? ⟨b2,o2+(i - 1) * 4+3,none⟩=some (.bool P3)∧W.cell? ⟨b2,o2+i * 4,none⟩=some (.int .i64 Q0)∧W.cell? ⟨b2,o2+i * 4+1,none⟩=some (.int .i64 Q1)∧W.cell? ⟨b2,o2+i * 4+2,none⟩=some (.slice qa qn qc)∧W.cell? ⟨b2,o2+i * 4+3,none⟩=some (.bool Q3)) 14 (by kernel_rfl) 14 rfl ?_
  refine tk 0 ⟨some 12,.move (.tmp 1),132, "fit.go:13",#[],none⟩ hS0 ?_;simp only [Act.put,sA,s0,sS]
  refine tk 1 ⟨some 13,.move (.tmp 0),65, "fit.go:13",#[],none⟩ hS0 ?_;simp only [Act.put,sA,s0,sS]
  refine tk 2 ⟨some 14,.move (.tmp 5),3, "fit.go:13",#[],none⟩ hS0 ?_;simp only [Act.put,sA,s0,sS]
  refine tk 3 ⟨some 15,.binOp .sub 3 (.tmp 14) (.const (.int .i64 1)) 3,3, "fit.go:13",#[⟨2,.data⟩],none⟩ hS0 ?_;simp only [Act.put,sA,s0,sS]
  try simp only [hw1]
  refine tk 4 ⟨some 16,.indexAddr 65 (.tmp 13) (.tmp 15),0, "fit.go:13",#[⟨1,.data⟩,⟨3,.data⟩],none⟩ hS0 ?_;simp only [Act.put,sA,s0,sS]
  refine tk 5 ⟨some 17,.load 45 (.tmp 16),45, "fit.go:13",#[⟨4,.data⟩],none⟩ hS0 ?_;simp only [Act.put,sA,s0,sS]
  refine tk 7 ⟨some 19,.move (.tmp 1),132, "fit.go:13",#[],none⟩ hS0 ?_;simp only [Act.put,sA,s0,sS]
  refine tk 8 ⟨some 20,.move (.tmp 0),65, "fit.go:13",#[],none⟩ hS0 ?_;simp only [Act.put,sA,s0,sS]
  refine tk 9 ⟨some 21,.move (.tmp 5),3, "fit.go:13",#[],none⟩ hS0 ?_;simp only [Act.put,sA,s0,sS]
  refine tk 10 ⟨some 22,.indexAddr 65 (.tmp 20) (.tmp 21),0, "fit.go:13",#[⟨8,.data⟩,⟨9,.data⟩],none⟩ hS0 ?_;simp only [Act.put,sA,s0,sS]
  refine tk 11 ⟨some 23,.load 45 (.tmp 22),45, "fit.go:13",#[⟨10,.data⟩],none⟩ hS0 ?_;simp only [Act.put,sA,s0,sS]
  refine wpAnyL_one' (i:=6) (o:=⟨some 18,.call ⟨.value (.tmp 12),#[.tmp 17],#[45]⟩,3, "fit.go:13",#[⟨0,.data⟩,⟨5,.data⟩],none⟩) (by kernel_rfl) rfl rfl (fun KQ hK=>?_)
  go_simp
  refine HPC.mono ?_
  rintro e w6 ⟨rfl,b6⟩
  refine hK.out _ _ (fun _=>HSK.out w6 b6) ?_
  have hS1:=HSK.out w6 b6
  clear hK
  refine wpAnyL_one' (i:=12) (o:=⟨some 24,.call ⟨.value (.tmp 19),#[.tmp 23],#[45]⟩,3, "fit.go:13",#[⟨7,.data⟩,⟨11,.data⟩,⟨6,.chain⟩],none⟩) (by kernel_rfl) rfl rfl (fun KQ hK=>?_)
  go_simp
  refine (HQC.out w6 ((Below.refl _ wr).drew.trans b6)).mono ?_
  rintro e w7 ⟨rfl,b7⟩
  refine hK.out _ _ (fun _=>HSK.out w7 (b6.trans (b7.mono b6.size))) ?_
  have hS2:=HSK.out w7 (b6.trans (b7.mono b6.size))
  clear hK
  refine tk 13 ⟨some 25,.binOp .geq 3 (.tmp 18) (.tmp 24) 3,4, "fit.go:13",#[⟨6,.data⟩,⟨12,.data⟩],none⟩ hS2 ?_;simp only [Act.put,sA,s0,sS]
  refine wpAnyL_done (by kernel_rfl) ?_ _
  have B7:Below w.heap.size w w7:=(B1.drew.trans (b6.mono (show w.heap.size≤wr.drew.heap.size from B1.size))).trans (b7.mono (Nat.le_trans (show w.heap.size≤wr.drew.heap.size from B1.size) b6.size))
  clear hS0 hS1 hS2 HPC HQC hw1 HSK b6 b7
  by_cases hpq:P0<Q0
  · have hge:decide (P0 ≥ Q0)=false:=decide_eq_false (by omega)
    have hge':¬ P0 ≥ Q0:=by omega
    have HA2:Hid (∀ k,(h:k+1<l.length)→k+1<i+1→l[k].look<l[k+1].look):=HAN.out hpq
    clear HAN HNN
    go_wp2_with fail
    exact ⟨⟨i+1,by go_num,by omega,by omega,HA2.out,B7⟩,by simp [intOf]; omega⟩
  · have hge:decide (P0 ≥ Q0)=true:=decide_eq_true (by omega)
    have hge':P0 ≥ Q0:=by omega
    have HE:Hid (RB=false):=HNN.out (by omega)
    clear HAN HNN
    go_wp2_with fail
    go_ret
    exact ⟨by rw [HE.out]; rfl,B7⟩
def redB (n:Nat) (l:List Int):Bool:=l.all (fun x=>decide (0≤x∧x<n)) && risesB l
set_option maxRecDepth 100000 in
set_option maxHeartbeats 1600000 in
theorem fitReduce_any (f:Fl) (a:FlA) (l:List Int) (v:Value) (w:World) (hl:SlI l v w) (hb:l.length≤140737488351232) :
    Calls Tryz.prog 73 #[a.val f,v] w fun e w'=>e=.returned (.bool (redB f.prods.length l))∧Below w.heap.size w w':=by
  have HIB:Hid (∀ (n m:Int) W,Calls Tryz.prog 77 #[.int .i64 n,.int .i64 m] W fun e w'=>e=.returned (.bool (decide (0≤n∧n<m)))∧w'=W):=fun n m W=>isBelow_any n m W
  obtain ⟨ta,tc,na,nc,pa,pc⟩:=a
  have X0:=FBox.new f ⟨ta,tc,na,nc,pa,pc⟩ 25 w
  have B0:Below w.heap.size w (w.alloc (fobj f ⟨ta,tc,na,nc,pa,pc⟩ 25)):=(Below.refl _ _).alloc (Nat.le_refl _) _
  have HRS:=risesI_any l v _ (hl.next B0) hb
  have hl0:=hl.next B0
  obtain ⟨la,lc,rfl,_⟩:=hl
  unfold fobj at X0 B0 HRS hl0
  unfold FlA.val
  simp only at *
  obtain ⟨_,d0,d1,d2⟩:=X0
  simp only at d0 d1 d2
  have HEQ:Hid ((∀ k,(h:k<l.length)→decide (0≤l[k]∧l[k]<(f.prods.length:Int))=true)→redB f.prods.length l=risesB l):=fun h=>by
    unfold redB
    rw [List.all_eq_true.2 (fun x hx=>by
      obtain ⟨k,hk,rfl⟩:=List.getElem_of_mem hx
      exact h k hk)]
    rfl
  have HNE:Hid (∀ k,(h:k<l.length)→decide (0≤l[k]∧l[k]<(f.prods.length:Int))=false→redB f.prods.length l=false):=fun k h hn=>by
    unfold redB
    have:(l.all (fun x=>decide (0≤x∧x<(f.prods.length:Int))))=false:=by
      rw [List.all_eq_false]
      exact ⟨l[k],List.getElem_mem h,by rw [hn]; simp⟩
    rw [this]; rfl
  go_enter Tryz.func73,Tryz.ntmps73
  go_wp2_with fail
  generalize w.alloc (Obj.cells #[.slice ta f.terms.length tc,.slice na f.nons.length nc,.slice pa f.prods.length pc] 25)=w0 at *
  go_loopw [9] (fun iv wr=>∃ (i:Nat),iv=.int .i64 i∧i≤l.length∧(∀ k,(h:k<l.length)→k<i→decide (0≤l[k]∧l[k]<(f.prods.length:Int))=true)∧wr=w0) (fun i _=>l.length - (intOf i).toNat)
  case atStart=>exact ⟨0,rfl,Nat.zero_le _,fun k _ hk=>by omega,rfl⟩
  case round =>
  obtain ⟨i,rfl,hi,hall,rfl⟩:=hrel
  have HAL:Hid (∀ k,(h:k<l.length)→k<i→decide (0≤l[k]∧l[k]<(f.prods.length:Int))=true):=hall
  clear hall
  by_cases hlt:i<l.length
  case neg =>
    have HE:Hid (redB f.prods.length l=risesB l):=HEQ.out (fun k h=>HAL.out k h (by omega))
    clear HEQ HNE HAL
    go_wp2_with fail
    refine HRS.mono ?_
    rintro e w1 ⟨rfl,n,rfl⟩
    have B1:=below_drewN B0 n
    clear HRS
    go_wp2_with fail
    go_ret
    exact ⟨by rw [HE.out]; rfl,B1⟩
  obtain ⟨_,_,e0,hrl,_⟩:=id hl0
  cases e0
  obtain ⟨b2,o2,rfl,hb2,p0⟩:=hrl.at (Below.refl _ _) hlt
  unfold encI at p0
  have HAN:Hid (decide (0≤l[i]∧l[i]<(f.prods.length:Int))=true→∀ k,(h:k<l.length)→k<i+1→decide (0≤l[k]∧l[k]<(f.prods.length:Int))=true):=fun hh k h hk=>by
    rcases Nat.lt_or_ge k i with h' | h'
    · exact HAL.out k h h'
    · obtain rfl:k=i:=by omega
      exact hh
  have HNN:Hid (decide (0≤l[i]∧l[i]<(f.prods.length:Int))=false→redB f.prods.length l=false):=fun hh=>HNE.out i hlt hh
  generalize l[i]=p at *
  have HI1:=HIB.out p f.prods.length wr
  clear hrl HAL HEQ HNE HRS hl0
  go_wp2_with fail
  refine HI1.mono ?_
  rintro e w1 ⟨rfl,rfl⟩
  clear HI1
  cases hd:decide (0≤p∧p<(f.prods.length:Int)) with
  | true =>
    have HA2:=HAN.out hd
    have HA3:Hid (∀ k,(h:k<l.length)→k<i+1→decide (0≤l[k]∧l[k]<(f.prods.length:Int))=true):=HA2
    clear HAN HNN hd HA2
    go_wp2_with fail
    exact ⟨⟨i+1,by go_num,by omega,HA3.out,trivial⟩,by simp [intOf]; omega⟩
  | false =>
    have HE:Hid (redB f.prods.length l=false):=HNN.out hd
    clear HAN HNN hd
    go_wp2_with fail
    go_ret
    exact ⟨by rw [HE.out]; rfl,B0⟩
def placeB (t:Nat) (n:Int) (a:Ac):Bool :=
  if a.look=(t:Int) then a.to == -1 else decide (0≤a.look∧a.look<(t:Int)) && (!a.acc && (a.to == -1 || decide (0≤a.to∧a.to<n)))
set_option maxRecDepth 100000 in
set_option maxHeartbeats 1600000 in
theorem fitPlace_any (f:Fl) (fa:FlA) (n:Int) (a:Ac) (u:Value) (w:World) (hu:SlI a.red u w) :
    Calls Tryz.prog 72 #[fa.val f,.int .i64 n,.agg #[.int .i64 a.look,.int .i64 a.to,u,.bool a.acc]] w fun e w'=>e=.returned (.bool (placeB f.terms.length n a))∧Below w.heap.size w w':=by
  have HIB:Hid (∀ (n m:Int) W,Calls Tryz.prog 77 #[.int .i64 n,.int .i64 m] W fun e w'=>e=.returned (.bool (decide (0≤n∧n<m)))∧w'=W):=fun n m W=>isBelow_any n m W
  obtain ⟨ua,uc,rfl,_⟩:=hu
  obtain ⟨ta,tc,na,nc,pa,pc⟩:=fa
  obtain ⟨a0,a1,ar,a3⟩:=a
  unfold FlA.val
  simp only at *
  have B0:Below w.heap.size w ((w.alloc (Obj.cells #[.slice ta f.terms.length tc,.slice na f.nons.length nc,.slice pa f.prods.length pc] 25)).alloc (Obj.cells #[.int .i64 a0,.int .i64 a1,.slice ua ar.length uc,.bool a3] 45)):=((Below.refl _ _).alloc (Nat.le_refl _) _).alloc (by simp) _
  have d0:((w.alloc (Obj.cells #[.slice ta f.terms.length tc,.slice na f.nons.length nc,.slice pa f.prods.length pc] 25)).alloc (Obj.cells #[.int .i64 a0,.int .i64 a1,.slice ua ar.length uc,.bool a3] 45)).cell? ⟨w.heap.size,0,none⟩=some (.slice ta f.terms.length tc):=by simp
  have x0:((w.alloc (Obj.cells #[.slice ta f.terms.length tc,.slice na f.nons.length nc,.slice pa f.prods.length pc] 25)).alloc (Obj.cells #[.int .i64 a0,.int .i64 a1,.slice ua ar.length uc,.bool a3] 45)).cell? ⟨w.heap.size+1,0,none⟩=some (.int .i64 a0):=by simp
  have x1:((w.alloc (Obj.cells #[.slice ta f.terms.length tc,.slice na f.nons.length nc,.slice pa f.prods.length pc] 25)).alloc (Obj.cells #[.int .i64 a0,.int .i64 a1,.slice ua ar.length uc,.bool a3] 45)).cell? ⟨w.heap.size+1,1,none⟩=some (.int .i64 a1):=by simp
  have x3:((w.alloc (Obj.cells #[.slice ta f.terms.length tc,.slice na f.nons.length nc,.slice pa f.prods.length pc] 25)).alloc (Obj.cells #[.int .i64 a0,.int .i64 a1,.slice ua ar.length uc,.bool a3] 45)).cell? ⟨w.heap.size+1,3,none⟩=some (.bool a3):=by simp
  have HP:Hid (placeB f.terms.length n ⟨a0,a1,ar,a3⟩=if a0=(f.terms.length:Int) then a1 == -1 else decide (0≤a0∧a0<(f.terms.length:Int)) && (!a3 && (a1 == -1 || decide (0≤a1∧a1<n)))):=rfl
  generalize placeB f.terms.length n ⟨a0,a1,ar,a3⟩=R at *
  go_enter Tryz.func72,Tryz.ntmps72
  go_upto_region 1 with fail
  generalize (w.alloc (Obj.cells #[.slice ta f.terms.length tc,.slice na f.nons.length nc,.slice pa f.prods.length pc] 25)).alloc (Obj.cells #[.int .i64 a0,.int .i64 a1,.slice ua ar.length uc,.bool a3] 45)=w0 at *
  generalize f.terms.length=T at *
  by_cases e0:a0=(T:Int)
  · have HE:Hid (R=(a1 == -1)):=HP.out.trans (if_pos e0)
    have e0':(a0 == (T:Int))=true:=by simpa using e0
    clear HP
    subst e0
    go_wp2_with fail
    go_ret
    exact ⟨by rw [HE.out]; rfl,B0⟩
  have e0':(a0 == (T:Int))=false:=by simpa using e0
  have HP2:Hid (R=(decide (0≤a0∧a0<(T:Int)) && (!a3 && (a1 == -1 || decide (0≤a1∧a1<n))))):=HP.out.trans (if_neg e0)
  have HI1:=HIB.out a0 T w0
  clear HP
  go_wp2_with fail
  refine HI1.mono ?_
  rintro e w1 ⟨rfl,rfl⟩
  clear HI1 e0 e0'
  cases hd:decide (0≤a0∧a0<(T:Int)) with
  | false =>
    have HE:Hid (R=false):=by rw [hd] at HP2; exact HP2.out
    clear HP2 hd
    go_wp2_with fail
    go_ret
    exact ⟨by rw [HE.out]; rfl,B0⟩
  | true =>
  have HP3:Hid (R=(!a3 && (a1 == -1 || decide (0≤a1∧a1<n)))):=by rw [hd] at HP2; exact HP2.out
  clear HP2 hd
  cases a3 with
  | true =>
    have HE:Hid (R=false):=HP3.out
    clear HP3
    go_wp2_with fail
    go_ret
    exact ⟨by rw [HE.out]; rfl,B0⟩
  | false =>
  have HP4:Hid (R=(a1 == -1 || decide (0≤a1∧a1<n))):=HP3.out
  clear HP3
  by_cases h1:a1=-1
  · have HE:Hid (R=true):=by
      show R=true
      rw [HP4.out,h1]; rfl
    clear HP4
    subst h1
    go_wp2_with fail
    go_ret
    exact ⟨by rw [HE.out]; rfl,B0⟩
  · have h1':(a1 == -1)=false:=by simpa using h1
    have HE:Hid (R=(decide (0≤a1) && decide (a1<n))):=by
      show R=_
      rw [HP4.out,h1',Bool.decide_and]; rfl
    have HI2:=HIB.out a1 n w1
    clear HP4
    go_wp2_with fail
    refine HI2.mono ?_
    rintro e w2 ⟨rfl,rfl⟩
    clear HI2
    go_wp2_with fail
    go_ret
    exact ⟨by rw [HE.out]; rfl,B0⟩
def actB (t p:Nat) (n:Int) (a:Ac):Bool:=placeB t n a && redB p a.red && doesF a
def actsB (t p:Nat) (n:Int) (l:List Ac):Bool:=l.all (actB t p n) && risesB (l.map Ac.look)
def goB (s:Nat) (n:Int) (g:Int × Int):Bool:=decide (0≤g.1∧g.1<(s:Int)) && decide (0≤g.2∧g.2<n)
def goesB (s:Nat) (n:Int) (l:List (Int × Int)):Bool:=l.all (goB s n) && risesB (l.map Prod.fst)
theorem all_and_eq {α:Type} {l:List α} {p:α→Bool} {b:Bool} (h:∀ k,(h:k<l.length)→p l[k]=true):(l.all p && b)=b:=by
  rw [List.all_eq_true.2 (fun x hx=>by
    obtain ⟨k,hk,rfl⟩:=List.getElem_of_mem hx
    exact h k hk)]
  rfl
theorem all_and_ne {α:Type} {l:List α} {p:α→Bool} {b:Bool} {k:Nat} (h:k<l.length) (hn:p l[k]=false):(l.all p && b)=false:=by
  have:l.all p=false:=by
    rw [List.all_eq_false]
    exact ⟨l[k],List.getElem_mem h,by rw [hn]; simp⟩
  rw [this]; rfl
set_option maxRecDepth 100000 in
set_option maxHeartbeats 1600000 in
theorem fitActs_any (f:Fl) (a:FlA) (n:Int) (l:List Ac) (v:Value) (w:World) (hl:SlA l v w) :
    Calls Tryz.prog 40 #[a.val f,.int .i64 n,v] w fun e w'=>e=.returned (.bool (actsB f.terms.length f.prods.length n l))∧Below w.heap.size w w':=by
  have HPL:Hid (∀ (x:Ac) (u:Value) W,SlI x.red u W→Calls Tryz.prog 72 #[a.val f,.int .i64 n,.agg #[.int .i64 x.look,.int .i64 x.to,u,.bool x.acc]] W fun e w'=>e=.returned (.bool (placeB f.terms.length n x))∧Below W.heap.size W w'):=fun x u W hu=>fitPlace_any f a n x u W hu
  have HRD:Hid (∀ (x:List Int) (u:Value) W,SlI x u W→x.length≤140737488351232→Calls Tryz.prog 73 #[a.val f,u] W fun e w'=>e=.returned (.bool (redB f.prods.length x))∧Below W.heap.size W w'):=fun x u W hu hb=>fitReduce_any f a x u W hu hb
  have HDO:Hid (∀ (x:Ac) (u:Value) W,SlI x.red u W→Calls Tryz.prog 74 #[.agg #[.int .i64 x.look,.int .i64 x.to,u,.bool x.acc]] W fun e w'=>e=.returned (.bool (doesF x))∧Below W.heap.size W w'):=fun x u W hu=>does_any x u W hu
  have HRS:Hid (∀ W,Below w.heap.size w W→Calls Tryz.prog 75 #[v,.func (.func 76) #[] #[]] W fun e w'=>e=.returned (.bool (risesB (l.map Ac.look)))∧Below W.heap.size W w'):=fun W hW=>risesA_any l v W (hl.next hW)
  have HL:Hid (∀ W,Below w.heap.size w W→SlA l v W):=fun W hb=>hl.next hb
  have hb:l.length≤140737488351232:=by obtain ⟨_,_,_,_,_,_,h⟩:=hl; exact h
  obtain ⟨la,lc,rfl,_⟩:=hl
  have HEQ:Hid ((∀ k,(h:k<l.length)→actB f.terms.length f.prods.length n l[k]=true)→actsB f.terms.length f.prods.length n l=risesB (l.map Ac.look)):=fun h=>all_and_eq h
  have HNE:Hid (∀ k,(h:k<l.length)→actB f.terms.length f.prods.length n l[k]=false→actsB f.terms.length f.prods.length n l=false):=fun k h hn=>all_and_ne h hn
  have B0:=(Below.refl w.heap.size w).alloc (Nat.le_refl _) (fobj f a 25)
  have X0:=FBox.new f a 25 w
  obtain ⟨ta,tc,na,nc,pa,pc⟩:=a
  unfold fobj at X0 B0
  unfold FlA.val at HPL HRD ⊢
  simp only at *
  obtain ⟨hxl,d0,d1,d2⟩:=X0
  simp only at d0 d1 d2 hxl
  generalize hAB:actsB f.terms.length f.prods.length n l=R at *
  go_enter Tryz.func40,Tryz.ntmps40
  go_wp2_with fail
  generalize w.alloc (Obj.cells #[.slice ta f.terms.length tc,.slice na f.nons.length nc,.slice pa f.prods.length pc] 25)=w0 at *
  have HD:Hid (∀ W,Below w0.heap.size w0 W→W.cell? ⟨w.heap.size,0,none⟩=some (.slice ta f.terms.length tc)∧W.cell? ⟨w.heap.size,1,none⟩=some (.slice na f.nons.length nc)∧W.cell? ⟨w.heap.size,2,none⟩=some (.slice pa f.prods.length pc)):=fun W hW=>⟨(hW.cell (p:=⟨w.heap.size,0,none⟩) hxl).trans d0,(hW.cell (p:=⟨w.heap.size,1,none⟩) hxl).trans d1,(hW.cell (p:=⟨w.heap.size,2,none⟩) hxl).trans d2⟩
  have HT:Hid (∀ W,Below w0.heap.size w0 W→Below w.heap.size w W):=fun W hb=>B0.trans (hb.mono B0.size)
  clear d0 d1 d2 hAB
  go_loopw [11] (fun iv wr=>∃ (i:Nat),iv=.int .i64 i∧i≤l.length∧(∀ k,(h:k<l.length)→k<i→actB f.terms.length f.prods.length n l[k]=true)∧Below w0.heap.size w0 wr) (fun i _=>l.length - (intOf i).toNat)
  case atStart=>exact ⟨0,rfl,Nat.zero_le _,fun k _ hk=>by omega,Below.refl _ _⟩
  case round =>
  obtain ⟨i,rfl,hi,hall,BR⟩:=hrel
  have HAL:Hid (∀ k,(h:k<l.length)→k<i→actB f.terms.length f.prods.length n l[k]=true):=hall
  clear hall
  have BW:=HT.out _ BR
  by_cases hlt:i<l.length
  case neg =>
    have HE:Hid (R=risesB (l.map Ac.look)):=HEQ.out (fun k h=>HAL.out k h (by omega))
    have HRC:=HRS.out wr BW
    clear HEQ HNE HAL HRS HPL HRD HDO
    go_wp2_with fail
    refine HRC.mono ?_
    rintro e w1 ⟨rfl,b1⟩
    have B9:Below w.heap.size w w1:=BW.trans (b1.mono BW.size)
    clear HRC
    go_wp2_with fail
    go_ret
    exact ⟨by rw [HE.out]; rfl,B9⟩
  obtain ⟨_,_,e0,hacs,_⟩:=HL.out _ BW
  cases e0
  obtain ⟨b2,o2,u,rfl,hb2,a0,a1,a2,a3,hred,_,_,hrb⟩:=hacs.at (Below.refl _ _) hlt
  have HAN:Hid (actB f.terms.length f.prods.length n l[i]=true→∀ k,(h:k<l.length)→k<i+1→actB f.terms.length f.prods.length n l[k]=true):=fun hh k h hk=>by
    rcases Nat.lt_or_ge k i with h' | h'
    · exact HAL.out k h h'
    · obtain rfl:k=i:=by omega
      exact hh
  have HNN:Hid (actB f.terms.length f.prods.length n l[i]=false→R=false):=fun hh=>HNE.out i hlt hh
  have HAC:Hid (actB f.terms.length f.prods.length n l[i]=(placeB f.terms.length n l[i] && redB f.prods.length l[i].red && doesF l[i])):=rfl
  have hP0:=HPL.out l[i] u
  have hR0:=HRD.out l[i].red u
  have hD0:=HDO.out l[i] u
  have HRED:Hid (∀ W,Below wr.heap.size wr W→SlI l[i].red u W):=fun W hW=>hred.next hW
  obtain ⟨ua,uc,rfl,_⟩:=hred
  generalize actB f.terms.length f.prods.length n l[i]=AB at *
  generalize placeB f.terms.length n l[i]=PB at *
  generalize redB f.prods.length l[i].red=RB at *
  generalize doesF l[i]=DB at *
  have HP1:Hid (∀ W,Below wr.heap.size wr W→Calls Tryz.prog 72 #[.agg #[.slice ta f.terms.length tc,.slice na f.nons.length nc,.slice pa f.prods.length pc],.int .i64 n,.agg #[.int .i64 l[i].look,.int .i64 l[i].to,.slice ua l[i].red.length uc,.bool l[i].acc]] W fun e w'=>e=.returned (.bool PB)∧Below W.heap.size W w'):=fun W hW=>hP0 W (HRED.out W hW)
  have HR1:Hid (∀ W,Below wr.heap.size wr W→Calls Tryz.prog 73 #[.agg #[.slice ta f.terms.length tc,.slice na f.nons.length nc,.slice pa f.prods.length pc],.slice ua l[i].red.length uc] W fun e w'=>e=.returned (.bool RB)∧Below W.heap.size W w'):=fun W hW=>hR0 W (HRED.out W hW) hrb
  have HD1:Hid (∀ W,Below wr.heap.size wr W→Calls Tryz.prog 74 #[.agg #[.int .i64 l[i].look,.int .i64 l[i].to,.slice ua l[i].red.length uc,.bool l[i].acc]] W fun e w'=>e=.returned (.bool DB)∧Below W.heap.size W w'):=fun W hW=>hD0 W (HRED.out W hW)
  generalize l[i].red.length=rn at *
  generalize l[i].look=x0 at *
  generalize l[i].to=x1 at *
  generalize l[i].acc=x3 at *
  clear hP0 hR0 hD0 HRED hacs HPL HRD HDO HRS HL HAL HEQ HNE
  have BA:Below wr.heap.size wr (wr.alloc (Obj.cells #[.int .i64 x0,.int .i64 x1,.slice ua rn uc,.bool x3] 45)):=(Below.refl _ _).alloc (Nat.le_refl _) _
  have c0:(wr.alloc (Obj.cells #[.int .i64 x0,.int .i64 x1,.slice ua rn uc,.bool x3] 45)).cell? ⟨wr.heap.size,0,none⟩=some (.int .i64 x0):=by simp
  have c1:(wr.alloc (Obj.cells #[.int .i64 x0,.int .i64 x1,.slice ua rn uc,.bool x3] 45)).cell? ⟨wr.heap.size,1,none⟩=some (.int .i64 x1):=by simp
  have c2:(wr.alloc (Obj.cells #[.int .i64 x0,.int .i64 x1,.slice ua rn uc,.bool x3] 45)).cell? ⟨wr.heap.size,2,none⟩=some (.slice ua rn uc):=by simp
  have c3:(wr.alloc (Obj.cells #[.int .i64 x0,.int .i64 x1,.slice ua rn uc,.bool x3] 45)).cell? ⟨wr.heap.size,3,none⟩=some (.bool x3):=by simp
  have hls:wr.heap.size<(wr.alloc (Obj.cells #[.int .i64 x0,.int .i64 x1,.slice ua rn uc,.bool x3] 45)).heap.size:=by simp
  obtain ⟨y0,y1,y2⟩:=HD.out _ (BR.trans (BA.mono BR.size))
  go_upto_region 4 with fail
  generalize wr.alloc (Obj.cells #[.int .i64 x0,.int .i64 x1,.slice ua rn uc,.bool x3] 45)=wa at *
  clear a0 a1 a2 a3
  have hP:=HP1.out wa BA
  go_wp2_with fail
  refine hP.mono ?_
  rintro e w1 ⟨rfl,b1⟩
  have BA1:Below wr.heap.size wr w1:=BA.trans (b1.mono BA.size)
  have B1:Below w0.heap.size w0 w1:=BR.trans (BA1.mono BR.size)
  have BW1:=HT.out _ B1
  clear hP HP1 y0 y1 y2
  cases PB with
  | false =>
    have HE:Hid (R=false):=HNN.out (HAC.out.trans rfl)
    clear HAN HNN HAC HR1 HD1 HD
    go_wp2_with fail
    go_ret
    exact ⟨by rw [HE.out]; rfl,BW1⟩
  | true =>
  have C0:=(b1.cell (p:=⟨wr.heap.size,0,none⟩) hls).trans c0
  have C1:=(b1.cell (p:=⟨wr.heap.size,1,none⟩) hls).trans c1
  have C2:=(b1.cell (p:=⟨wr.heap.size,2,none⟩) hls).trans c2
  have C3:=(b1.cell (p:=⟨wr.heap.size,3,none⟩) hls).trans c3
  obtain ⟨y0,y1,y2⟩:=HD.out _ B1
  have hls1:wr.heap.size<w1.heap.size:=Nat.lt_of_lt_of_le hls b1.size
  have hR:=HR1.out w1 BA1
  clear c0 c1 c2 c3 hls
  go_wp2_with fail
  refine hR.mono ?_
  rintro e w2 ⟨rfl,b2'⟩
  have BA2:Below wr.heap.size wr w2:=BA1.trans (b2'.mono BA1.size)
  have B2:Below w0.heap.size w0 w2:=BR.trans (BA2.mono BR.size)
  have BW2:=HT.out _ B2
  clear hR HR1 y0 y1 y2
  cases RB with
  | false =>
    have HE:Hid (R=false):=HNN.out (HAC.out.trans rfl)
    clear HAN HNN HAC HD1 HD
    go_wp2_with fail
    go_ret
    exact ⟨by rw [HE.out]; rfl,BW2⟩
  | true =>
  have c0:=(b2'.cell (p:=⟨wr.heap.size,0,none⟩) hls1).trans C0
  have c1:=(b2'.cell (p:=⟨wr.heap.size,1,none⟩) hls1).trans C1
  have c2:=(b2'.cell (p:=⟨wr.heap.size,2,none⟩) hls1).trans C2
  have c3:=(b2'.cell (p:=⟨wr.heap.size,3,none⟩) hls1).trans C3
  have hD:=HD1.out w2 BA2
  clear C0 C1 C2 C3
  go_wp2_with fail
  refine hD.mono ?_
  rintro e w3 ⟨rfl,b3'⟩
  have BA3:Below wr.heap.size wr w3:=BA2.trans (b3'.mono BA2.size)
  have B3:Below w0.heap.size w0 w3:=BR.trans (BA3.mono BR.size)
  have BW3:=HT.out _ B3
  clear hD HD1
  cases DB with
  | false =>
    have HE:Hid (R=false):=HNN.out (HAC.out.trans rfl)
    clear HAN HNN HAC HD
    go_wp2_with fail
    go_ret
    exact ⟨by rw [HE.out]; rfl,BW3⟩
  | true =>
    have HA3:Hid (∀ k,(h:k<l.length)→k<i+1→actB f.terms.length f.prods.length n l[k]=true):=HAN.out (HAC.out.trans rfl)
    clear HAN HNN HAC HD
    go_wp2_with fail
    exact ⟨⟨i+1,by go_num,by omega,HA3.out,B3⟩,by simp [intOf]; omega⟩
set_option maxRecDepth 100000 in
set_option maxHeartbeats 1600000 in
theorem fitGoes_any (f:Fl) (a:FlA) (n:Int) (l:List (Int × Int)) (v:Value) (w:World) (hl:SlG l v w) (hfn:f.terms.length+f.nons.length≤1000000) :
    Calls Tryz.prog 41 #[a.val f,.int .i64 n,v] w fun e w'=>e=.returned (.bool (goesB (f.terms.length+f.nons.length) n l))∧Below w.heap.size w w':=by
  have HIB:Hid (∀ (n m:Int) W,Calls Tryz.prog 77 #[.int .i64 n,.int .i64 m] W fun e w'=>e=.returned (.bool (decide (0≤n∧n<m)))∧w'=W):=fun n m W=>isBelow_any n m W
  have HRS:Hid (∀ W,Below w.heap.size w W→Calls Tryz.prog 78 #[v,.func (.func 79) #[] #[]] W fun e w'=>e=.returned (.bool (risesB (l.map Prod.fst)))∧Below W.heap.size W w'):=fun W hW=>risesG_any l v W (hl.next hW)
  have HL:Hid (∀ W,Below w.heap.size w W→SlG l v W):=fun W hb=>hl.next hb
  have hb:l.length≤140737488351232:=by obtain ⟨_,_,_,_,_,_,h⟩:=hl; exact h
  obtain ⟨la,lc,rfl,_⟩:=hl
  obtain ⟨S,hS⟩:∃ S,f.terms.length+f.nons.length=S:=⟨_,rfl⟩
  have hwS:IntKind.i64.wrap ((f.terms.length:Int)+(f.nons.length:Int))=(S:Int):=by rw [IntKind.wrap_i64]; omega
  have hwS':wrap64 ((f.terms.length:Int)+(f.nons.length:Int))=(S:Int):=by unfold wrap64; omega
  rw [hS]
  have HEQ:Hid ((∀ k,(h:k<l.length)→goB S n l[k]=true)→goesB S n l=risesB (l.map Prod.fst)):=fun h=>all_and_eq h
  have HNE:Hid (∀ k,(h:k<l.length)→goB S n l[k]=false→goesB S n l=false):=fun k h hn=>all_and_ne h hn
  have B0:=(Below.refl w.heap.size w).alloc (Nat.le_refl _) (fobj f a 25)
  have X0:=FBox.new f a 25 w
  obtain ⟨ta,tc,na,nc,pa,pc⟩:=a
  unfold fobj at X0 B0
  unfold FlA.val
  simp only at *
  obtain ⟨hxl,d0,d1,d2⟩:=X0
  simp only at d0 d1 d2 hxl
  generalize goesB S n l=R at *
  go_enter Tryz.func41,Tryz.ntmps41
  go_wp2_with fail
  generalize w.alloc (Obj.cells #[.slice ta f.terms.length tc,.slice na f.nons.length nc,.slice pa f.prods.length pc] 25)=w0 at *
  have HD:Hid (∀ W,Below w0.heap.size w0 W→W.cell? ⟨w.heap.size,0,none⟩=some (.slice ta f.terms.length tc)∧W.cell? ⟨w.heap.size,1,none⟩=some (.slice na f.nons.length nc)):=fun W hW=>⟨(hW.cell (p:=⟨w.heap.size,0,none⟩) hxl).trans d0,(hW.cell (p:=⟨w.heap.size,1,none⟩) hxl).trans d1⟩
  have HT:Hid (∀ W,Below w0.heap.size w0 W→Below w.heap.size w W):=fun W hb=>B0.trans (hb.mono B0.size)
  clear d0 d1 d2
  go_loopw [11] (fun iv wr=>∃ (i:Nat),iv=.int .i64 i∧i≤l.length∧(∀ k,(h:k<l.length)→k<i→goB S n l[k]=true)∧Below w0.heap.size w0 wr) (fun i _=>l.length - (intOf i).toNat)
  case atStart=>exact ⟨0,rfl,Nat.zero_le _,fun k _ hk=>by omega,Below.refl _ _⟩
  case round =>
  obtain ⟨i,rfl,hi,hall,BR⟩:=hrel
  have HAL:Hid (∀ k,(h:k<l.length)→k<i→goB S n l[k]=true):=hall
  clear hall
  have BW:=HT.out _ BR
  by_cases hlt:i<l.length
  case neg =>
    have HE:Hid (R=risesB (l.map Prod.fst)):=HEQ.out (fun k h=>HAL.out k h (by omega))
    have HRC:=HRS.out wr BW
    clear HEQ HNE HAL HRS
    go_wp2_with fail
    refine HRC.mono ?_
    rintro e w1 ⟨rfl,b1⟩
    have B9:Below w.heap.size w w1:=BW.trans (b1.mono BW.size)
    clear HRC
    go_wp2_with fail
    go_ret
    exact ⟨by rw [HE.out]; rfl,B9⟩
  obtain ⟨_,_,e0,hacs,_⟩:=HL.out _ BW
  cases e0
  obtain ⟨b2,o2,rfl,hb2,a0,a1,_⟩:=hacs.at (Below.refl _ _) hlt
  have HAN:Hid (goB S n l[i]=true→∀ k,(h:k<l.length)→k<i+1→goB S n l[k]=true):=fun hh k h hk=>by
    rcases Nat.lt_or_ge k i with h' | h'
    · exact HAL.out k h h'
    · obtain rfl:k=i:=by omega
      exact hh
  have HNN:Hid (goB S n l[i]=false→R=false):=fun hh=>HNE.out i hlt hh
  have HAC:Hid (goB S n l[i]=(decide (0≤l[i].1∧l[i].1<(S:Int)) && decide (0≤l[i].2∧l[i].2<n))):=rfl
  generalize goB S n l[i]=AB at *
  generalize l[i].1=x0 at *
  generalize l[i].2=x1 at *
  clear hacs HRS HL HAL HEQ HNE
  have BA:Below wr.heap.size wr (wr.alloc (Obj.cells #[.int .i64 x0,.int .i64 x1] 75)):=(Below.refl _ _).alloc (Nat.le_refl _) _
  have c0:(wr.alloc (Obj.cells #[.int .i64 x0,.int .i64 x1] 75)).cell? ⟨wr.heap.size,0,none⟩=some (.int .i64 x0):=by simp
  have c1:(wr.alloc (Obj.cells #[.int .i64 x0,.int .i64 x1] 75)).cell? ⟨wr.heap.size,1,none⟩=some (.int .i64 x1):=by simp
  have B1:=BR.trans (BA.mono BR.size)
  obtain ⟨y0,y1⟩:=HD.out _ B1
  go_upto_region 4 with fail
  generalize wr.alloc (Obj.cells #[.int .i64 x0,.int .i64 x1] 75)=wa at *
  clear a0 a1
  have BW1:=HT.out _ B1
  have hI1:=HIB.out x0 S wa
  have hI2:=HIB.out x1 n wa
  go_wp2_with fail
  refine hI1.mono ?_
  rintro e w1 ⟨rfl,rfl⟩
  clear hI1 y0 y1 hwS hwS'
  cases hd:decide (0≤x0∧x0<(S:Int)) with
  | false =>
    have HE:Hid (R=false):=HNN.out (HAC.out.trans (by rw [hd]; rfl))
    clear HAN HNN HAC HD hI2 hd
    go_wp2_with fail
    go_ret
    exact ⟨by rw [HE.out]; rfl,BW1⟩
  | true =>
  rw [hd] at HAC
  clear hd
  go_wp2_with fail
  refine hI2.mono ?_
  rintro e w2 ⟨rfl,rfl⟩
  clear hI2
  cases hd:decide (0≤x1∧x1<n) with
  | false =>
    have HE:Hid (R=false):=HNN.out (HAC.out.trans (by rw [hd]; rfl))
    clear HAN HNN HAC HD hd
    go_wp2_with fail
    go_ret
    exact ⟨by rw [HE.out]; rfl,BW1⟩
  | true =>
    have HA3:Hid (∀ k,(h:k<l.length)→k<i+1→goB S n l[k]=true):=HAN.out (HAC.out.trans (by rw [hd]; rfl))
    clear HAN HNN HAC HD hd
    go_wp2_with fail
    exact ⟨⟨i+1,by go_num,by omega,HA3.out,B1⟩,by simp [intOf]; omega⟩
def rowB (t p s:Nat) (n:Int) (r:Rw):Bool:=actsB t p n r.acts && goesB s n r.goes
def fitTB (f:Fl) (l:List Rw):Bool:=decide (1≤l.length∧l.length≤600) && l.all (rowB f.terms.length f.prods.length (f.terms.length+f.nons.length) l.length)
set_option maxRecDepth 100000 in
set_option maxHeartbeats 1600000 in
theorem fit12_any (f:Fl) (a:FlA) (l:List Rw) (v:Value) (w:World) (hl:SlW l v w) (hfn:f.terms.length+f.nons.length≤1000000) :
    Calls Tryz.prog 16 #[a.val f,.agg #[v]] w fun e w'=>e=.returned (.bool (fitTB f l))∧Below w.heap.size w w':=by
  have HFA:Hid (∀ (x:List Ac) (u:Value) W,SlA x u W→Calls Tryz.prog 40 #[a.val f,.int .i64 l.length,u] W fun e w'=>e=.returned (.bool (actsB f.terms.length f.prods.length l.length x))∧Below W.heap.size W w'):=fun x u W hu=>fitActs_any f a l.length x u W hu
  have HFG:Hid (∀ (x:List (Int × Int)) (u:Value) W,SlG x u W→Calls Tryz.prog 41 #[a.val f,.int .i64 l.length,u] W fun e w'=>e=.returned (.bool (goesB (f.terms.length+f.nons.length) l.length x))∧Below W.heap.size W w'):=fun x u W hu=>fitGoes_any f a l.length x u W hu hfn
  have HL:Hid (∀ W,Below w.heap.size w W→SlW l v W):=fun W hb=>hl.next hb
  have hb:l.length≤140737488351232:=by obtain ⟨_,_,_,_,_,_,h⟩:=hl; exact h
  obtain ⟨la,lc,rfl,_⟩:=hl
  have HF0:Hid (l.length=0→fitTB f l=false):=fun h=>by
    show fitTB f l=false
    unfold fitTB; rw [decide_eq_false (by omega)]; rfl
  have HF6:Hid (l.length > 600→fitTB f l=false):=fun h=>by
    show fitTB f l=false
    unfold fitTB; rw [decide_eq_false (by omega)]; rfl
  have HEQ:Hid (0<l.length→l.length≤600→(∀ k,(h:k<l.length)→rowB f.terms.length f.prods.length (f.terms.length+f.nons.length) l.length l[k]=true)→fitTB f l=true):=fun h1 h2 h=>by
    show fitTB f l=true
    unfold fitTB
    rw [decide_eq_true (by omega),Bool.true_and,List.all_eq_true]
    intro x hx
    obtain ⟨k,hk,rfl⟩:=List.getElem_of_mem hx
    exact h k hk
  have HNE:Hid (∀ k,(h:k<l.length)→rowB f.terms.length f.prods.length (f.terms.length+f.nons.length) l.length l[k]=false→fitTB f l=false):=fun k h hn=>by
    show fitTB f l=false
    unfold fitTB
    rw [Bool.and_comm]; exact all_and_ne h hn
  have HRW:Hid (∀ r:Rw,rowB f.terms.length f.prods.length (f.terms.length+f.nons.length) l.length r=(actsB f.terms.length f.prods.length l.length r.acts && goesB (f.terms.length+f.nons.length) l.length r.goes)):=fun _=>rfl
  obtain ⟨ta,tc,na,nc,pa,pc⟩:=a
  unfold FlA.val at HFA HFG ⊢
  simp only at *
  generalize fitTB f l=R at *
  obtain ⟨wb,hwb⟩:∃ wb,(w.alloc (Obj.cells #[.slice ta f.terms.length tc,.slice na f.nons.length nc,.slice pa f.prods.length pc] 25)).alloc (Obj.cells #[.slice la l.length lc] 30)=wb:=⟨_,rfl⟩
  have B0:Below w.heap.size w wb:=by rw [← hwb]; exact ((Below.refl _ _).alloc (Nat.le_refl _) _).alloc (by simp) _
  have d0:wb.cell? ⟨w.heap.size,0,none⟩=some (.slice ta f.terms.length tc):=by rw [← hwb]; simp
  have d1:wb.cell? ⟨w.heap.size,1,none⟩=some (.slice na f.nons.length nc):=by rw [← hwb]; simp
  have d2:wb.cell? ⟨w.heap.size,2,none⟩=some (.slice pa f.prods.length pc):=by rw [← hwb]; simp
  have d3:wb.cell? ⟨w.heap.size+1,0,none⟩=some (.slice la l.length lc):=by rw [← hwb]; simp
  have hxl:w.heap.size+1<wb.heap.size:=by rw [← hwb]; simp
  go_enter Tryz.func16,Tryz.ntmps16
  go_upto_region 1 with fail
  try rw [hwb]
  clear hwb
  have HD:Hid (∀ W,Below wb.heap.size wb W→W.cell? ⟨w.heap.size,0,none⟩=some (.slice ta f.terms.length tc)∧W.cell? ⟨w.heap.size,1,none⟩=some (.slice na f.nons.length nc)∧W.cell? ⟨w.heap.size,2,none⟩=some (.slice pa f.prods.length pc)∧W.cell? ⟨w.heap.size+1,0,none⟩=some (.slice la l.length lc)):=fun W hW=>⟨(hW.cell (p:=⟨w.heap.size,0,none⟩) (Nat.lt_of_succ_lt hxl)).trans d0,(hW.cell (p:=⟨w.heap.size,1,none⟩) (Nat.lt_of_succ_lt hxl)).trans d1,(hW.cell (p:=⟨w.heap.size,2,none⟩) (Nat.lt_of_succ_lt hxl)).trans d2,(hW.cell (p:=⟨w.heap.size+1,0,none⟩) hxl).trans d3⟩
  have HT:Hid (∀ W,Below wb.heap.size wb W→Below w.heap.size w W):=fun W hb=>B0.trans (hb.mono B0.size)
  by_cases h0:l.length=0
  · have HE:Hid (R=false):=HF0.out h0
    rw [h0] at d3 ⊢
    clear HF0 HF6 HEQ HNE HFA HFG HL HRW HD
    go_wp2_with fail
    go_ret
    exact ⟨by rw [HE.out]; rfl,B0⟩
  have h0':((l.length:Int) == 0)=false:=beq_eq_false_iff_ne.2 (by omega)
  by_cases h6:l.length > 600
  · have HE:Hid (R=false):=HF6.out h6
    have h6':decide ((l.length:Int) > 600)=true:=decide_eq_true (by omega)
    have h6'':(l.length:Int) > 600:=by omega
    clear HF0 HF6 HEQ HNE HFA HFG HL HRW HD
    go_wp2_with fail
    go_ret
    exact ⟨by rw [HE.out]; rfl,B0⟩
  have hl6:l.length≤600:=Nat.le_of_not_lt h6
  have h6':decide ((l.length:Int) > 600)=false:=decide_eq_false (by omega)
  have h6'':¬ (l.length:Int) > 600:=by omega
  have HEQ2:Hid ((∀ k,(h:k<l.length)→rowB f.terms.length f.prods.length (f.terms.length+f.nons.length) l.length l[k]=true)→R=true):=HEQ.out (by omega) (by omega)
  clear HF0 HF6 HEQ
  go_wp2_with fail
  clear d0 d1 d2 d3 h0' h6' h6''
  go_loopw [20] (fun iv wr=>∃ (i:Nat),iv=.int .i64 i∧i≤l.length∧(∀ k,(h:k<l.length)→k<i→rowB f.terms.length f.prods.length (f.terms.length+f.nons.length) l.length l[k]=true)∧Below wb.heap.size wb wr) (fun i _=>l.length - (intOf i).toNat)
  case atStart=>exact ⟨0,rfl,Nat.zero_le _,fun k _ hk=>by omega,Below.refl _ _⟩
  case round =>
  obtain ⟨i,rfl,hi,hall,BR⟩:=hrel
  have HAL:Hid (∀ k,(h:k<l.length)→k<i→rowB f.terms.length f.prods.length (f.terms.length+f.nons.length) l.length l[k]=true):=hall
  clear hall
  have BW:=HT.out _ BR
  by_cases hlt:i<l.length
  case neg =>
    have HE:Hid (R=true):=HEQ2.out (fun k h=>HAL.out k h (by omega))
    clear HEQ2 HNE HAL HFA HFG HL HRW HD
    go_wp2_with fail
    go_ret
    exact ⟨by rw [HE.out]; rfl,BW⟩
  obtain ⟨_,_,e0,hrws,_⟩:=HL.out _ BW
  cases e0
  obtain ⟨b2,o2,va,vg,rfl,hb2,a0,a1,hA,hG⟩:=hrws.at (Below.refl _ _) hlt
  have HAN:Hid (rowB f.terms.length f.prods.length (f.terms.length+f.nons.length) l.length l[i]=true→∀ k,(h:k<l.length)→k<i+1→rowB f.terms.length f.prods.length (f.terms.length+f.nons.length) l.length l[k]=true):=fun hh k h hk=>by
    rcases Nat.lt_or_ge k i with h' | h'
    · exact HAL.out k h h'
    · obtain rfl:k=i:=by omega
      exact hh
  have HNN:Hid (rowB f.terms.length f.prods.length (f.terms.length+f.nons.length) l.length l[i]=false→R=false):=fun hh=>HNE.out i hlt hh
  have HAC:=HRW.out l[i]
  have hA0:=HFA.out l[i].acts va
  have hG0:=HFG.out l[i].goes vg
  have hA1:Hid (∀ W,Below wr.heap.size wr W→SlA l[i].acts va W):=fun W hW=>hA.next hW
  have hG1:Hid (∀ W,Below wr.heap.size wr W→SlG l[i].goes vg W):=fun W hW=>hG.next hW
  generalize rowB f.terms.length f.prods.length (f.terms.length+f.nons.length) l.length l[i]=AB at *
  generalize actsB f.terms.length f.prods.length l.length l[i].acts=PB at *
  generalize goesB (f.terms.length+f.nons.length) l.length l[i].goes=GB at *
  obtain ⟨aa,ac,rfl,_⟩:=hA
  obtain ⟨ga,gc,rfl,_⟩:=hG
  have HA1:Hid (∀ W,Below wr.heap.size wr W→Calls Tryz.prog 40 #[.agg #[.slice ta f.terms.length tc,.slice na f.nons.length nc,.slice pa f.prods.length pc],.int .i64 l.length,.slice aa l[i].acts.length ac] W fun e w'=>e=.returned (.bool PB)∧Below W.heap.size W w'):=fun W hW=>hA0 W (hA1.out W hW)
  have HG1:Hid (∀ W,Below wr.heap.size wr W→Calls Tryz.prog 41 #[.agg #[.slice ta f.terms.length tc,.slice na f.nons.length nc,.slice pa f.prods.length pc],.int .i64 l.length,.slice ga l[i].goes.length gc] W fun e w'=>e=.returned (.bool GB)∧Below W.heap.size W w'):=fun W hW=>hG0 W (hG1.out W hW)
  generalize l[i].acts.length=an at *
  generalize l[i].goes.length=gn at *
  have HAC':Hid (AB=(PB && GB)):=HAC
  clear hA0 hG0 hA1 hG1 hrws HFA HFG HL HAL HEQ2 HNE HRW HAC
  have BA:Below wr.heap.size wr (wr.alloc (Obj.cells #[.slice aa an ac,.slice ga gn gc] 68)):=(Below.refl _ _).alloc (Nat.le_refl _) _
  have c0:(wr.alloc (Obj.cells #[.slice aa an ac,.slice ga gn gc] 68)).cell? ⟨wr.heap.size,0,none⟩=some (.slice aa an ac):=by simp
  have c1:(wr.alloc (Obj.cells #[.slice aa an ac,.slice ga gn gc] 68)).cell? ⟨wr.heap.size,1,none⟩=some (.slice ga gn gc):=by simp
  have hls:wr.heap.size<(wr.alloc (Obj.cells #[.slice aa an ac,.slice ga gn gc] 68)).heap.size:=by simp
  obtain ⟨y0,y1,y2,y3⟩:=HD.out _ (BR.trans (BA.mono BR.size))
  go_upto_region 6 with fail
  generalize wr.alloc (Obj.cells #[.slice aa an ac,.slice ga gn gc] 68)=wa at *
  clear a0 a1
  have hP:=HA1.out wa BA
  go_wp2_with fail
  refine hP.mono ?_
  rintro e w1 ⟨rfl,b1⟩
  have BA1:Below wr.heap.size wr w1:=BA.trans (b1.mono BA.size)
  have B1:Below wb.heap.size wb w1:=BR.trans (BA1.mono BR.size)
  have BW1:=HT.out _ B1
  clear hP HA1 y0 y1 y2 y3
  cases PB with
  | false =>
    have HE:Hid (R=false):=HNN.out (HAC'.out.trans rfl)
    clear HAN HNN HAC' HG1 HD
    go_wp2_with fail
    go_ret
    exact ⟨by rw [HE.out]; rfl,BW1⟩
  | true =>
  have C1:=(b1.cell (p:=⟨wr.heap.size,1,none⟩) hls).trans c1
  obtain ⟨y0,y1,y2,y3⟩:=HD.out _ B1
  have hG:=HG1.out w1 BA1
  clear c0 c1
  go_wp2_with fail
  refine hG.mono ?_
  rintro e w2 ⟨rfl,b2'⟩
  have BA2:Below wr.heap.size wr w2:=BA1.trans (b2'.mono BA1.size)
  have B2:Below wb.heap.size wb w2:=BR.trans (BA2.mono BR.size)
  have BW2:=HT.out _ B2
  clear hG HG1 y0 y1 y2 y3
  cases GB with
  | false =>
    have HE:Hid (R=false):=HNN.out (HAC'.out.trans rfl)
    clear HAN HNN HAC' HD
    go_wp2_with fail
    go_ret
    exact ⟨by rw [HE.out]; rfl,BW2⟩
  | true =>
    have HA3:Hid (∀ k,(h:k<l.length)→k<i+1→rowB f.terms.length f.prods.length (f.terms.length+f.nons.length) l.length l[k]=true):=HAN.out (HAC'.out.trans rfl)
    clear HAN HNN HAC' HD
    go_wp2_with fail
    exact ⟨⟨i+1,by go_num,by omega,HA3.out,B2⟩,by simp [intOf]; omega⟩
end Go.Proofs.YtbilbgjojdlobaaGreatDoor
namespace Go.Proofs.YtbilbgjojdlobaaGreatDoor
theorem dot_end {f:Fl} {x:Ir} (hx:fitI f x=true) (hn:nextI f x=none):x.2.1=(rightI f x.1).length:=by
  have h:=fitI_iff.1 hx
  unfold nextI at hn
  rw [if_pos hx,Option.map_eq_none_iff,List.getElem?_eq_none_iff] at hn
  omega
theorem redL_rise {f:Fl} {l:List Ir} (hr:RisingI l) (hf:∀ x∈l,fitI f x=true) (t:Int):(redL f l t).Pairwise (· < ·):=by
  unfold redL
  rw [List.pairwise_map]
  have h1:(l.filter fun x=>decide (nextI f x=none∧x.2.2=t∧0≤x.1)).Pairwise ltI:=List.Pairwise.filter _ hr
  refine List.Pairwise.imp_of_mem (fun {a b} ha hb hab=>?_) h1
  have ha1:=List.mem_filter.1 ha
  have hb1:=List.mem_filter.1 hb
  have ha2:=of_decide_eq_true ha1.2
  have hb2:=of_decide_eq_true hb1.2
  have e1:=dot_end (hf a ha1.1) ha2.1
  have e2:=dot_end (hf b hb1.1) hb2.1
  unfold ltI at hab
  rcases hab with h | ⟨h,h'⟩
  · exact h
  · exfalso
    rw [h] at e1
    omega
theorem redL_in {f:Fl} {l:List Ir} (hf:∀ x∈l,fitI f x=true) (t:Int):∀ x∈redL f l t,0≤x∧x<(f.prods.length:Int):=by
  intro x hx
  unfold redL at hx
  obtain ⟨y,hy,rfl⟩:=List.mem_map.1 hx
  have h1:=List.mem_filter.1 hy
  have h2:=of_decide_eq_true h1.2
  have h3:=fitI_iff.1 (hf y h1.1)
  omega
theorem all_len {f:Fl} (hp:FitP f) {R:List (List Ir)} (h:allF f=some R):1≤R.length∧R.length≤600:=by
  obtain ⟨T,rfl,_,_,hl⟩:=all_sets hp h
  simp [setsOf]; omega
theorem find_act {f:Fl} {R:List (List Ir)} {l:List Ir} {t:Nat} (ht:t≤f.terms.length):((actRow f R l).find? (fun a=>a.look == (t:Int))).getD ⟨t,-1,[],false⟩=actAt f R l t:=by
  have hlk:∀ s:Nat,(actAt f R l s).look=(s:Int):=fun _=>rfl
  cases hs:someA (actAt f R l t) with
  | true =>
    have hmem:actAt f R l t∈actRow f R l:=List.mem_filter.2 ⟨List.mem_map.2 ⟨t,List.mem_range.2 (by omega),rfl⟩,hs⟩
    cases hf:(actRow f R l).find? (fun a=>a.look == (t:Int)) with
    | none =>
      have:=List.find?_eq_none.1 hf _ hmem
      simp [hlk] at this
    | some a =>
      have h1:=List.find?_some hf
      have h2:=List.mem_of_find?_eq_some hf
      unfold actRow at h2
      obtain ⟨s,_,rfl⟩:=List.mem_map.1 (List.mem_filter.1 h2).1
      simp only [hlk,beq_iff_eq] at h1
      have:s=t:=by omega
      subst this
      rfl
  | false =>
    have hf:(actRow f R l).find? (fun a=>a.look == (t:Int))=none:=by
      rw [List.find?_eq_none]
      intro a ha hl
      unfold actRow at ha
      obtain ⟨h1,h2⟩:=List.mem_filter.1 ha
      obtain ⟨s,_,rfl⟩:=List.mem_map.1 h1
      simp only [hlk,beq_iff_eq] at hl
      have:s=t:=by omega
      subst this
      rw [hs] at h2; cases h2
    rw [hf]
    unfold someA at hs
    have hs:=of_decide_eq_false hs
    have h1:¬ 0≤(actAt f R l t).to:=fun h=>hs (.inl h)
    have h2:(actAt f R l t).acc=false:=by cases e:(actAt f R l t).acc with
      | false=>rfl
      | true=>exact absurd (.inr (.inl e)) hs
    have h3:(actAt f R l t).red=[]:=Classical.not_not.1 (fun h=>hs (.inr (.inr h)))
    have h4:(actAt f R l t).to=-1:=by
      unfold actAt toF at h1 ⊢
      simp only at h1 ⊢
      split at h1
      · rename_i hlt
        rw [if_pos hlt]
        split at h1
        · rename_i hm; rw [if_pos hm]; rfl
        · simp only [Option.getD_some] at h1
          omega
      · rename_i hlt
        rw [if_neg hlt]
    show (⟨t,-1,[],false⟩:Ac)=actAt f R l t
    rw [← h4,← h3,← h2]
    rfl
end Go.Proofs.YtbilbgjojdlobaaGreatDoor
namespace Go.Proofs.YtbilbgjojdlobaaGreatDoor
def closC (f:Fl) (R:List (List Int)) (Le:List Bool):Nat→List Ir→List Ir→Option (List Ir)
  | 0,_,_=>none
  | _+1,set,[]=>some set
  | k+1,set,x :: rest=>if fitI f x=true∧x ∉ set then closC f R Le k (putI x set) (rest++addsL f R Le x) else closC f R Le k set rest
theorem closC_spec {f:Fl} {R:List (List Int)} {Le:List Bool} (h:FE f R Le) (hp:FitP f) {S:Ir→Prop} {L:List Ir}:∀ (k:Nat) (set todo:List Ir),CW f S set todo→closC f R Le k set todo=some L→ClosI f S L
  | 0,_,_,_,e=>by cases e
  | k+1,set,[],hc,e=>by
    simp only [closC,Option.some.injEq] at e
    subst e; exact hc.done
  | k+1,set,x :: rest,hc,e=>by
    rw [closC] at e
    split at e
    · rename_i h1
      exact closC_spec h hp k _ _ (hc.new h1.1 (fun y=>adds_iff h hp)) e
    · rename_i h1
      refine closC_spec h hp k _ _ (hc.skip ?_) e
      by_cases h2:fitI f x=true
      · exact .inr (Classical.byContradiction fun h3=>h1 ⟨h2,h3⟩)
      · exact .inl (by simpa using h2)
theorem closC_eq {f:Fl} {R:List (List Int)} {Le:List Bool} (h:FE f R Le) (hp:FitP f) {k:Nat} {S L:List Ir} (e:closC f R Le k [] S=some L):closF f S=L :=
  closF_eq (closC_spec h hp k [] S (CW.start f S) e)
def runC (f:Fl) (R:List (List Int)) (Le:List Bool) (m:Nat):Nat→Nat→List (List Ir)→Option (List (List Ir))
  | 0,_,_=>none
  | k+1,i,T=>match (begL f :: T)[i]? with
    | none=>some T
    | some K=>match closC f R Le m [] K with
      | none=>none
      | some l=>match rowK (kernsL f l) T with
        | none=>none
        | some T'=>runC f R Le m k (i+1) T'
theorem runC_spec {f:Fl} {R:List (List Int)} {Le:List Bool} (h:FE f R Le) (hp:FitP f) {m:Nat}:∀ (k i:Nat) (T T':List (List Ir)),Met f T→T.Nodup→T.length+1≤600→i≤T.length+1→runC f R Le m k i T=some T'→runA f (601 - i) i (setsOf f T)=some (setsOf f T')
  | 0,_,_,_,_,_,_,_,e=>by cases e
  | k+1,i,T,T',hT,hn,hl,hi,e=>by
    rw [runC] at e
    cases hK:(begL f :: T)[i]? with
    | none =>
      rw [hK] at e
      simp only [Option.some.injEq] at e
      subst e
      have:=List.getElem?_eq_none_iff.1 hK
      simp at this
      exact run_end (by omega) (by omega)
    | some K =>
      rw [hK] at e
      simp only at e
      have hlt:=(List.getElem?_eq_some_iff.1 hK).1
      simp at hlt
      cases hC:closC f R Le m [] K with
      | none=>rw [hC] at e; cases e
      | some l =>
        rw [hC] at e
        simp only at e
        have hc:=closC_eq h hp hC
        rw [run_step hp hT hl (by omega) hK,hc]
        cases hr:rowK (kernsL f l) T with
        | none=>rw [hr] at e; cases e
        | some T2 =>
          rw [hr] at e
          simp only at e
          obtain ⟨k1,k2,k3,k4⟩:=rowK_met (f:=f) _ T T2 (kernsL_kern (by rw [← hc]; exact (closF_spec hp K).1)) hT hn hl hr
          have:=runC_spec h hp k (i+1) T2 T' k1 k2 k3 (by have:=k4.length_le; omega) e
          rw [Option.bind_some,show 600 - i=601 - (i+1) by omega]
          exact this
theorem allC_eq {f:Fl} {R:List (List Int)} {Le:List Bool} (h:FE f R Le) (hp:FitP f) {m k:Nat} {T:List (List Ir)} (e:runC f R Le m k 0 []=some T):allF f=some (setsOf f T) :=
  (run_start f).trans (runC_spec h hp k 0 [] T (by intro K hK; cases hK) List.nodup_nil (by simp) (by simp) e)
end Go.Proofs.YtbilbgjojdlobaaGreatDoor
namespace Go.Proofs.YtbilbgjojdlobaaGreatDoor
open Go.RowKit
def bx (n:UInt8):ByteArray:=⟨#[n]⟩
def itA (s:Int):It:=⟨s,⟨#[]⟩,⟨#[]⟩⟩
def fE:Fl:=⟨[bx 120,bx 121],[bx 97],[⟨2,[itA 0,itA 2],0⟩,⟨2,[itA 1],0⟩]⟩
def gE:Gr:=[(2,[0,2]),(2,[1])]
theorem fit_E:FitP fE:=by
  refine ⟨by decide,by decide,by decide,fun p hp=>?_,fun p hp=>?_,fun p hp x hx=>?_⟩
  all_goals simp only [fE,List.mem_cons,List.not_mem_nil,or_false] at hp
  all_goals rcases hp with rfl | rfl
  all_goals try (simp [fE])
  all_goals simp only [List.mem_cons,List.not_mem_nil,or_false] at hx
  · rcases hx with rfl | rfl <;> decide
  · subst hx; decide
theorem closedF_of' {emp:Nat→Prop} {R:List (List Int)} {l:Nat} {sy:List Nat} (h:∀ k,(hk:k<sy.length)→(∀ i,(hi:i<k)→emp sy[i])→∀ t,InR R sy[k] t→InR R l t):ClosedF emp R (l,sy):=by
  intro pre x post hp he t ht
  simp only at hp
  subst hp
  have:=h pre.length (by simp) (fun i hi=>by rw [List.getElem_append_left hi]; exact he _ (List.getElem_mem hi)) t
  simp at this
  exact this ht
def rE:List (List Int):=[[0],[1],[0,1]]
def lE:List Bool:=[false,false,false]
theorem eE:GivesB (fun _=>False) gE 3 lE:=by
  refine ⟨rfl,fun s hs=>⟨fun h=>?_,fun h=>?_⟩⟩
  · unfold OnB lE at h
    match s,hs with
    | 0,_=>simp at h
    | 1,_=>simp at h
    | 2,_=>simp at h
  · refine complete_B (base:=fun _=>False) (g:=gE) (fun s h=>h.elim) (fun p hp=>?_) h
    simp only [gE,List.mem_cons,List.not_mem_nil,or_false] at hp
    rcases hp with rfl | rfl <;> intro hx
    · exact absurd (hx 0 (by simp)) (by simp [OnB,lE])
    · exact absurd (hx 1 (by simp)) (by simp [OnB,lE])
theorem fstE:GivesR (Fst (Der (fun _=>False) gE) 2 gE) 3 rE:=by
  refine ⟨rfl,?_,fun s hs t=>⟨fun h=>?_,fun h=>?_⟩⟩
  · intro l hl
    simp [rE] at hl
    rcases hl with rfl | rfl | rfl <;> simp [Rising]
  · obtain ⟨l,h1,h2⟩:=h
    match s,hs with
    | 0,_=>simp [rE] at h1; subst h1; simp at h2; subst h2; exact .term (t:=0) (by omega)
    | 1,_=>simp [rE] at h1; subst h1; simp at h2; subst h2; exact .term (t:=1) (by omega)
    | 2,_ =>
      simp [rE] at h1
      subst h1
      simp at h2
      rcases h2 with rfl | rfl
      · exact .prod (pre:=[]) (x:=0) (post:=[2]) (by simp [gE]) (by simp) (.term (t:=0) (by omega))
      · exact .prod (pre:=[]) (x:=1) (post:=[]) (by simp [gE]) (by simp) (.term (t:=1) (by omega))
  · refine complete_F (emp:=Der (fun _=>False) gE) (terms:=2) (g:=gE) (fun t ht=>?_) (fun p hp=>?_) h
    · match t,ht with
      | 0,_=>exact ⟨[0],rfl,by simp⟩
      | 1,_=>exact ⟨[1],rfl,by simp⟩
    · simp only [gE,List.mem_cons,List.not_mem_nil,or_false] at hp
      rcases hp with rfl | rfl
      · refine closedF_of' (fun k hk he t ht=>?_)
        obtain ⟨l,h1,h2⟩:=ht
        match k,hk with
        | 0,_=>simp [rE] at h1; subst h1; simp at h2; subst h2; exact ⟨[0,1],rfl,by simp⟩
        | 1,_=>simp [rE] at h1; subst h1; exact ⟨[0,1],rfl,h2⟩
      · refine closedF_of' (fun k hk _ t ht=>?_)
        obtain ⟨l,h1,h2⟩:=ht
        match k,hk with
        | 0,_=>simp [rE] at h1; subst h1; simp at h2; subst h2; exact ⟨[0,1],rfl,by simp⟩
theorem feE:FE fE rE lE:=⟨fstE,eE⟩
theorem begE:closF fE (begL fE)=[(-1,0,2),(0,0,2),(1,0,2)]:=closC_eq feE fit_E (k:=30) (by decide)
def kE:List (List Ir):=[[(0,1,2)],[(1,1,2)],[(-1,1,2)],[(0,2,2)]]
theorem allE:allF fE=some (setsOf fE kE):=allC_eq feE fit_E (m:=30) (k:=10) (by decide)
end Go.Proofs.YtbilbgjojdlobaaGreatDoor
namespace Go.Proofs.YtbilbgjojdlobaaGreatDoor
theorem rise_len {p:Int}:∀ (l:List Int) (m:Int),l.Pairwise (· < ·)→(∀ x∈l,m≤x∧x<p)→l.length≤(p - m).toNat
  | [],_,_,_=>Nat.zero_le _
  | x :: t,m,h,hin=>by
    have hx:=hin x (by simp)
    have:=rise_len t (x+1) (List.pairwise_cons.1 h).2 (fun y hy=>⟨by have:=(List.pairwise_cons.1 h).1 y hy; omega,(hin y (by simp [hy])).2⟩)
    rw [List.length_cons]
    omega
theorem sum_le {l:List Nat} {c:Nat} (h:∀ x∈l,x≤c):l.sum≤l.length * c:=by
  induction l with
  | nil=>simp
  | cons a l ih =>
    rw [List.sum_cons,List.length_cons,Nat.succ_mul]
    have:=h a (by simp)
    have:=ih (fun x hx=>h x (by simp [hx]))
    omega
theorem size_row {f:Fl} {R:List (List Ir)} {l:List Ir} (hr:RisingI l) (hf:∀ x∈l,fitI f x=true) (h1:f.n≤16) (h2:f.prods.length≤16):sizeR (rowT f R l)≤400:=by
  have hn:f.n=f.terms.length+f.nons.length:=rfl
  have hg:(goRow f R l).length≤f.n:=by
    have:=List.length_filterMap_le (fun s=>(toF f R l s).map fun (t:Int)=>((s:Int),t)) (List.range f.n)
    simpa [goRow] using this
  have ha:(actRow f R l).length≤17:=by
    unfold actRow
    refine Nat.le_trans (List.length_filter_le _ _) ?_
    rw [List.length_map,List.length_range]; omega
  have hs:sizeA (actRow f R l)≤(actRow f R l).length * 17:=by
    unfold sizeA
    have:=sum_le (l:=(actRow f R l).map fun a=>1+a.red.length) (c:=17) (fun x hx=>by
      obtain ⟨a,ha,rfl⟩:=List.mem_map.1 hx
      unfold actRow at ha
      obtain ⟨t,_,rfl⟩:=List.mem_map.1 (List.mem_filter.1 ha).1
      have:=rise_len (p:=f.prods.length) (redL f l t) 0 (redL_rise hr hf t) (fun x hx=>redL_in hf t x hx)
      show 1+(redL f l t).length≤17
      omega)
    simpa using this
  unfold sizeR rowT
  simp only
  have:(actRow f R l).length * 17≤17 * 17:=Nat.mul_le_mul_right _ ha
  omega
theorem size_tab {f:Fl} (hp:FitP f) (h1:f.n≤16) (h2:f.prods.length≤16) {T:List Rw} (h:tabF f=some T):sizeTb T≤240000:=by
  unfold tabF at h
  obtain ⟨R,hR,rfl⟩:=Option.map_eq_some_iff.1 h
  have hl:=all_len hp hR
  unfold sizeTb
  have:=sum_le (l:=(R.map (rowT f R)).map sizeR) (c:=400) (fun x hx=>by
    obtain ⟨r,hr,rfl⟩:=List.mem_map.1 hx
    obtain ⟨l,hm,rfl⟩:=List.mem_map.1 hr
    obtain ⟨k1,k2⟩:=sets_fit hp hR hm
    exact size_row k1 k2 h1 h2)
  rw [List.length_map,List.length_map] at this
  have h3:R.length * 400≤600 * 400:=Nat.mul_le_mul_right _ hl.2
  omega
def actC (f:Fl) (l:List Ir) (t:Nat):Ac:=⟨t,if t<f.terms.length∧movedL f l (t:Int)≠[] then 0 else -1,redL f l t,accL f l t⟩
def actsC (f:Fl) (l:List Ir):List Ac:=((List.range (f.terms.length+1)).map (actC f l)).filter someA
def tornC (f:Fl) (l:List Ir):Nat:=((actsC f l).filter tornA).length
theorem act_same (f:Fl) (R:List (List Ir)) (l:List Ir) (t:Nat):someA (actAt f R l t)=someA (actC f l t)∧tornA (actAt f R l t)=tornA (actC f l t):=by
  have e:((actAt f R l t).to=-1∧(actC f l t).to=-1)∨(0≤(actAt f R l t).to∧(actC f l t).to=0):=by
    unfold actAt actC toF
    simp only
    by_cases h1:t<f.terms.length
    · by_cases h2:movedL f l (t:Int)=[]
      · simp [h1,h2]
      · right; simp [h1,h2]
    · simp [h1]
  have e1:(actAt f R l t).red=(actC f l t).red:=rfl
  have e2:(actAt f R l t).acc=(actC f l t).acc:=rfl
  constructor
  · unfold someA
    rw [e1,e2,decide_eq_decide]
    rcases e with ⟨h1,h2⟩ | ⟨h1,h2⟩
    · rw [h1,h2]
    · constructor
      · intro _; exact .inl (by omega)
      · intro _; exact .inl h1
  · unfold tornA
    rw [e1,e2]
    have e3:((actAt f R l t).to != -1)=((actC f l t).to != -1):=by
      rcases e with ⟨h1,h2⟩ | ⟨h1,h2⟩
      · rw [h1,h2]
      · rw [h2]
        have:¬ (actAt f R l t).to=-1:=by omega
        simp [this]
    rw [e3]
theorem torn_row {f:Fl} {R:List (List Ir)} {l:List Ir} (n:Int):(tornRow n (actRow f R l)).length=tornC f l:=by
  unfold tornRow tornC actRow actsC
  rw [List.length_map,List.filter_filter,List.filter_filter,List.filter_map,List.filter_map,List.length_map,List.length_map]
  congr 1
  refine List.filter_congr (fun t _=>?_)
  have:=act_same f R l t
  simp only [Function.comp]
  rw [this.1,this.2]
theorem torn_len (f:Fl) (R R':List (List Ir)):(tornL (R'.map (rowT f R))).length=(R'.map (tornC f)).sum:=by
  unfold tornL
  rw [List.length_flatMap]
  congr 1
  have:∀ (l:List (List Ir)) (n:Nat),((l.map (rowT f R)).zipIdx n).map (fun p=>(tornRow p.2 p.1.acts).length)=l.map (tornC f):=by
    intro l
    induction l with
    | nil=>intro n; rfl
    | cons a l ih =>
      intro n
      rw [List.map_cons,List.zipIdx_cons,List.map_cons,List.map_cons,ih]
      congr 1
      exact torn_row _
  exact this R' 0
end Go.Proofs.YtbilbgjojdlobaaGreatDoor
namespace Go.Proofs.YtbilbgjojdlobaaGreatDoor
open Go.RowKit
theorem row2 {α:Type} (enc:α→Value) (x y:α) (w:World) (t:TypeId):RowAt enc [x,y] (some ⟨w.heap.size,0,none⟩) (w.alloc (Obj.cells #[enc x,enc y] t)):=by
  intro i z hi
  refine ⟨w.heap.size,0,rfl,by simp,?_⟩
  match i,hi with
  | 0,hi=>simp at hi; subst hi; simp
  | 1,hi=>simp at hi; subst hi; simp
theorem its2 (x y:It) (w:World) (t:TypeId) (hx:i64B x.sym∧x.fld.size≤9223372036854775807∧x.als.size≤9223372036854775807) (hy:i64B y.sym∧y.fld.size≤9223372036854775807∧y.als.size≤9223372036854775807) :
    ItsAt [x,y] (some ⟨w.heap.size,0,none⟩) (w.alloc (Obj.cells #[.int .i64 x.sym,.string x.fld,.string x.als,.int .i64 y.sym,.string y.fld,.string y.als] t)):=by
  intro i z hi
  refine ⟨w.heap.size,0,rfl,by simp,?_⟩
  match i,hi with
  | 0,hi=>simp at hi; subst hi; exact ⟨by simp,by simp,by simp,hx⟩
  | 1,hi=>simp at hi; subst hi; exact ⟨by simp,by simp,by simp,hy⟩
theorem its1 (x:It) (w:World) (t:TypeId) (hx:i64B x.sym∧x.fld.size≤9223372036854775807∧x.als.size≤9223372036854775807) :
    ItsAt [x] (some ⟨w.heap.size,0,none⟩) (w.alloc (Obj.cells #[.int .i64 x.sym,.string x.fld,.string x.als] t)):=by
  intro i z hi
  refine ⟨w.heap.size,0,rfl,by simp,?_⟩
  match i,hi with
  | 0,hi=>simp at hi; subst hi; exact ⟨by simp,by simp,by simp,hx⟩
theorem itA_ok (s:Int) (h:i64B s):i64B (itA s).sym∧(itA s).fld.size≤9223372036854775807∧(itA s).als.size≤9223372036854775807:=⟨h,by simp [itA,ByteArray.size],by simp [itA,ByteArray.size]⟩
theorem row1 {α:Type} (enc:α→Value) (x:α) (w:World) (t:TypeId):RowAt enc [x] (some ⟨w.heap.size,0,none⟩) (w.alloc (Obj.cells #[enc x] t)):=by
  intro i z hi
  refine ⟨w.heap.size,0,rfl,by simp,?_⟩
  match i,hi with
  | 0,hi=>simp at hi; subst hi; simp
def wE1 (w:World):World:=w.alloc (Obj.cells #[.string (bx 120),.string (bx 121)] 9)
def wE2 (w:World):World:=(wE1 w).alloc (Obj.cells #[.string (bx 97)] 9)
def wE3 (w:World):World:=(wE2 w).alloc (Obj.cells #[.int .i64 0,.string ⟨#[]⟩,.string ⟨#[]⟩,.int .i64 2,.string ⟨#[]⟩,.string ⟨#[]⟩] 55)
def wE4 (w:World):World:=(wE3 w).alloc (Obj.cells #[.int .i64 1,.string ⟨#[]⟩,.string ⟨#[]⟩] 55)
def wE5 (w:World):World:=(wE4 w).alloc (Obj.cells #[.int .i64 2,.slice (some ⟨w.heap.size+1+1,0,none⟩) 2 2,.int .i64 0,.int .i64 2,.slice (some ⟨w.heap.size+1+1+1,0,none⟩) 1 1,.int .i64 0] 58)
def aE (n:Nat):FlA:=⟨some ⟨n,0,none⟩,2,some ⟨n+1,0,none⟩,1,some ⟨n+1+1+1+1,0,none⟩,2⟩
theorem sz1 (w:World):(wE1 w).heap.size=w.heap.size+1:=by simp [wE1]
theorem sz2 (w:World):(wE2 w).heap.size=w.heap.size+1+1:=by simp [wE2,sz1]
theorem sz3 (w:World):(wE3 w).heap.size=w.heap.size+1+1+1:=by simp [wE3,sz2]
theorem sz4 (w:World):(wE4 w).heap.size=w.heap.size+1+1+1+1:=by simp [wE4,sz3]
theorem below_new (w:World) (o:Obj):Below w.heap.size w (w.alloc o):=(Below.refl _ _).alloc (Nat.le_refl _) _
theorem flE (w:World):FlAt fE (aE w.heap.size) (wE5 w):=by
  have b2:Below (wE1 w).heap.size (wE1 w) (wE2 w):=below_new _ _
  have b3:Below (wE2 w).heap.size (wE2 w) (wE3 w):=below_new _ _
  have b4:Below (wE3 w).heap.size (wE3 w) (wE4 w):=below_new _ _
  have b5:Below (wE4 w).heap.size (wE4 w) (wE5 w):=below_new _ _
  have r1:RowAt Value.string [bx 120,bx 121] (some ⟨w.heap.size,0,none⟩) (wE5 w):=((((row2 Value.string (bx 120) (bx 121) w _:RowAt _ _ _ (wE1 w)).next b2).next b3).next b4).next b5
  have r2:RowAt Value.string [bx 97] (some ⟨w.heap.size+1,0,none⟩) (wE5 w):=by
    have:=row1 Value.string (bx 97) (wE1 w) 9
    rw [sz1] at this
    exact (((this:RowAt _ _ _ (wE2 w)).next b3).next b4).next b5
  have i1:ItsAt [itA 0,itA 2] (some ⟨w.heap.size+1+1,0,none⟩) (wE5 w):=by
    have:=its2 (itA 0) (itA 2) (wE2 w) 55 (itA_ok 0 (by unfold i64B; omega)) (itA_ok 2 (by unfold i64B; omega))
    rw [sz2] at this
    exact ((this:ItsAt _ _ (wE3 w)).next b4).next b5
  have i2:ItsAt [itA 1] (some ⟨w.heap.size+1+1+1,0,none⟩) (wE5 w):=by
    have:=its1 (itA 1) (wE3 w) 55 (itA_ok 1 (by unfold i64B; omega))
    rw [sz3] at this
    exact (this:ItsAt _ _ (wE4 w)).next b5
  have pr:PrsAt fE.prods (some ⟨w.heap.size+1+1+1+1,0,none⟩) (wE5 w):=by
    intro i p hi
    have hs:=sz4 w
    refine ⟨w.heap.size+1+1+1+1,0,?_⟩
    have hsz:w.heap.size+1+1+1+1<(wE5 w).heap.size:=by simp [wE5,sz4]
    match i,hi with
    | 0,hi =>
      simp [fE] at hi; subst hi
      refine ⟨.slice (some ⟨w.heap.size+1+1,0,none⟩) 2 2,rfl,hsz,?_,?_,?_,⟨_,2,rfl,i1,(fun h=>by cases h),Nat.le_refl _,by omega⟩,by unfold i64B; simp,by unfold i64B; simp⟩ <;> (rw [← hs]; simp [wE5])
    | 1,hi =>
      simp [fE] at hi; subst hi
      refine ⟨.slice (some ⟨w.heap.size+1+1+1,0,none⟩) 1 1,rfl,hsz,?_,?_,?_,⟨_,1,rfl,i2,(fun h=>by cases h),Nat.le_refl _,by omega⟩,by unfold i64B; simp,by unfold i64B; simp⟩ <;> (rw [← hs]; simp [wE5])
    | i+2,hi=>simp [fE] at hi
  exact ⟨r1,r2,pr,by decide,by decide,by decide,(show 2≤2 from Nat.le_refl _),fun h=>by cases h⟩
theorem fitB_E:fitB fE=true:=by decide
def sE:List (List Ir):=[[(-1,0,2),(0,0,2),(1,0,2)],[(0,0,2),(0,1,2),(1,0,2)],[(1,1,2)],[(-1,1,2)],[(0,2,2)]]
theorem setsE:setsOf fE kE=sE:=by
  have h1:closF fE [(0,1,2)]=[(0,0,2),(0,1,2),(1,0,2)]:=closC_eq feE fit_E (k:=30) (by decide)
  have h2:closF fE [(1,1,2)]=[(1,1,2)]:=closC_eq feE fit_E (k:=30) (by decide)
  have h3:closF fE [(-1,1,2)]=[(-1,1,2)]:=closC_eq feE fit_E (k:=30) (by decide)
  have h4:closF fE [(0,2,2)]=[(0,2,2)]:=closC_eq feE fit_E (k:=30) (by decide)
  unfold setsOf kE sE
  simp only [List.map_cons,List.map_nil]
  rw [begE,h1,h2,h3,h4]
noncomputable def tE:List Rw:=sE.map (rowT fE sE)
theorem tabE:tabF fE=some tE:=by
  unfold tabF tE
  rw [allE,setsE]; rfl
theorem tornE:(tornL tE).length=0:=by
  unfold tE
  rw [torn_len]
  decide
theorem actE {t:Nat} (ht:t≤2):actF tE 0 t=actAt fE sE [(-1,0,2),(0,0,2),(1,0,2)] t:=by
  have h:rowF tE 0=rowT fE sE [(-1,0,2),(0,0,2),(1,0,2)]:=by
    unfold rowF tE sE
    rw [if_pos (Int.le_refl _)]; rfl
  unfold actF
  rw [h]
  exact find_act (f:=fE) (R:=sE) (l:=[(-1,0,2),(0,0,2),(1,0,2)]) (t:=t) ht
theorem actE0:0≤(actF tE 0 0).to:=by
  have h:=actE (t:=0) (by omega)
  have h':actF tE 0 0=actAt fE sE [(-1,0,2),(0,0,2),(1,0,2)] 0:=h
  rw [h']
  unfold actAt toF
  simp only
  rw [if_pos (by decide),if_neg (by decide)]
  simp
theorem actE1:0≤(actF tE 0 1).to:=by
  have h:=actE (t:=1) (by omega)
  have h':actF tE 0 1=actAt fE sE [(-1,0,2),(0,0,2),(1,0,2)] 1:=h
  rw [h']
  unfold actAt toF
  simp only
  rw [if_pos (by decide),if_neg (by decide)]
  simp
theorem actE2:(actF tE 0 2).to=-1:=by
  have h:=actE (t:=2) (by omega)
  have h':actF tE 0 2=actAt fE sE [(-1,0,2),(0,0,2),(1,0,2)] 2:=h
  rw [h']
  unfold actAt
  simp only
  rw [if_neg (by decide)]
def fT:Fl:=⟨[bx 120],[bx 97],[⟨1,[itA 1,itA 1],0⟩,⟨1,[itA 0],0⟩]⟩
def gT:Gr:=[(1,[1,1]),(1,[0])]
theorem fit_T:FitP fT:=by
  refine ⟨by decide,by decide,by decide,fun p hp=>?_,fun p hp=>?_,fun p hp x hx=>?_⟩
  all_goals simp only [fT,List.mem_cons,List.not_mem_nil,or_false] at hp
  all_goals rcases hp with rfl | rfl
  all_goals try (simp [fT])
  all_goals simp only [List.mem_cons,List.not_mem_nil,or_false,or_self] at hx
  all_goals subst hx
  all_goals decide
theorem fitB_T:fitB fT=true:=by decide
def rT:List (List Int):=[[0],[0]]
def lT:List Bool:=[false,false]
theorem eT:GivesB (fun _=>False) gT 2 lT:=by
  refine ⟨rfl,fun s hs=>⟨fun h=>?_,fun h=>?_⟩⟩
  · unfold OnB lT at h
    match s,hs with
    | 0,_=>simp at h
    | 1,_=>simp at h
  · refine complete_B (base:=fun _=>False) (g:=gT) (fun s h=>h.elim) (fun p hp=>?_) h
    simp only [gT,List.mem_cons,List.not_mem_nil,or_false] at hp
    rcases hp with rfl | rfl <;> intro hx
    · exact absurd (hx 1 (by simp)) (by simp [OnB,lT])
    · exact absurd (hx 0 (by simp)) (by simp [OnB,lT])
theorem fstT:GivesR (Fst (Der (fun _=>False) gT) 1 gT) 2 rT:=by
  refine ⟨rfl,?_,fun s hs t=>⟨fun h=>?_,fun h=>?_⟩⟩
  · intro l hl
    simp [rT] at hl
    subst hl; simp [Rising]
  · obtain ⟨l,h1,h2⟩:=h
    match s,hs with
    | 0,_=>simp [rT] at h1; subst h1; simp at h2; subst h2; exact .term (t:=0) (by omega)
    | 1,_ =>
      simp [rT] at h1
      subst h1
      simp at h2
      subst h2
      exact .prod (pre:=[]) (x:=0) (post:=[]) (by simp [gT]) (by simp) (.term (t:=0) (by omega))
  · refine complete_F (emp:=Der (fun _=>False) gT) (terms:=1) (g:=gT) (fun t ht=>?_) (fun p hp=>?_) h
    · match t,ht with
      | 0,_=>exact ⟨[0],rfl,by simp⟩
    · simp only [gT,List.mem_cons,List.not_mem_nil,or_false] at hp
      rcases hp with rfl | rfl
      · refine closedF_of' (fun k hk he t ht=>?_)
        obtain ⟨l,h1,h2⟩:=ht
        match k,hk with
        | 0,_=>simp [rT] at h1; subst h1; exact ⟨[0],rfl,h2⟩
        | 1,_=>simp [rT] at h1; subst h1; exact ⟨[0],rfl,h2⟩
      · refine closedF_of' (fun k hk _ t ht=>?_)
        obtain ⟨l,h1,h2⟩:=ht
        match k,hk with
        | 0,_=>simp [rT] at h1; subst h1; simp at h2; subst h2; exact ⟨[0],rfl,by simp⟩
theorem feT:FE fT rT lT:=⟨fstT,eT⟩
def kT:List (List Ir):=[[(1,1,0),(1,1,1)],[(-1,1,1),(0,1,0),(0,1,1)],[(0,1,0),(0,1,1),(0,2,0),(0,2,1)]]
theorem allT:allF fT=some (setsOf fT kT):=allC_eq feT fit_T (m:=60) (k:=30) (by decide)
def sT:List (List Ir):=[[(-1,0,1),(0,0,0),(0,0,1),(1,0,0),(1,0,1)],[(1,1,0),(1,1,1)],[(-1,1,1),(0,0,0),(0,0,1),(0,1,0),(0,1,1),(1,0,0),(1,0,1)],[(0,0,0),(0,0,1),(0,1,0),(0,1,1),(0,2,0),(0,2,1),(1,0,0),(1,0,1)]]
theorem setsT:setsOf fT kT=sT:=by
  have h0:closF fT (begL fT)=[(-1,0,1),(0,0,0),(0,0,1),(1,0,0),(1,0,1)]:=closC_eq feT fit_T (k:=60) (by decide)
  have h1:closF fT [(1,1,0),(1,1,1)]=[(1,1,0),(1,1,1)]:=closC_eq feT fit_T (k:=60) (by decide)
  have h2:closF fT [(-1,1,1),(0,1,0),(0,1,1)]=[(-1,1,1),(0,0,0),(0,0,1),(0,1,0),(0,1,1),(1,0,0),(1,0,1)]:=closC_eq feT fit_T (k:=60) (by decide)
  have h3:closF fT [(0,1,0),(0,1,1),(0,2,0),(0,2,1)]=[(0,0,0),(0,0,1),(0,1,0),(0,1,1),(0,2,0),(0,2,1),(1,0,0),(1,0,1)]:=closC_eq feT fit_T (k:=60) (by decide)
  unfold setsOf kT sT
  simp only [List.map_cons,List.map_nil]
  rw [h0,h1,h2,h3]
noncomputable def tT:List Rw:=sT.map (rowT fT sT)
theorem tabT:tabF fT=some tT:=by
  unfold tabF tT
  rw [allT,setsT]; rfl
theorem tornT:(tornL tT).length=1:=by
  unfold tT
  rw [torn_len]
  decide
theorem sizeE:sizeTb tE≤240000:=size_tab fit_E (by decide) (by decide) tabE
theorem sizeT2:sizeTb tT≤240000:=size_tab fit_T (by decide) (by decide) tabT
def wT1 (w:World):World:=w.alloc (Obj.cells #[.string (bx 120)] 9)
def wT2 (w:World):World:=(wT1 w).alloc (Obj.cells #[.string (bx 97)] 9)
def wT3 (w:World):World:=(wT2 w).alloc (Obj.cells #[.int .i64 1,.string ⟨#[]⟩,.string ⟨#[]⟩,.int .i64 1,.string ⟨#[]⟩,.string ⟨#[]⟩] 55)
def wT4 (w:World):World:=(wT3 w).alloc (Obj.cells #[.int .i64 0,.string ⟨#[]⟩,.string ⟨#[]⟩] 55)
def wT5 (w:World):World:=(wT4 w).alloc (Obj.cells #[.int .i64 1,.slice (some ⟨w.heap.size+1+1,0,none⟩) 2 2,.int .i64 0,.int .i64 1,.slice (some ⟨w.heap.size+1+1+1,0,none⟩) 1 1,.int .i64 0] 58)
def aT (n:Nat):FlA:=⟨some ⟨n,0,none⟩,1,some ⟨n+1,0,none⟩,1,some ⟨n+1+1+1+1,0,none⟩,2⟩
theorem tz1 (w:World):(wT1 w).heap.size=w.heap.size+1:=by simp [wT1]
theorem tz2 (w:World):(wT2 w).heap.size=w.heap.size+1+1:=by simp [wT2,tz1]
theorem tz3 (w:World):(wT3 w).heap.size=w.heap.size+1+1+1:=by simp [wT3,tz2]
theorem tz4 (w:World):(wT4 w).heap.size=w.heap.size+1+1+1+1:=by simp [wT4,tz3]
theorem flT (w:World):FlAt fT (aT w.heap.size) (wT5 w):=by
  have b2:Below (wT1 w).heap.size (wT1 w) (wT2 w):=below_new _ _
  have b3:Below (wT2 w).heap.size (wT2 w) (wT3 w):=below_new _ _
  have b4:Below (wT3 w).heap.size (wT3 w) (wT4 w):=below_new _ _
  have b5:Below (wT4 w).heap.size (wT4 w) (wT5 w):=below_new _ _
  have r1:RowAt Value.string [bx 120] (some ⟨w.heap.size,0,none⟩) (wT5 w):=((((row1 Value.string (bx 120) w _:RowAt _ _ _ (wT1 w)).next b2).next b3).next b4).next b5
  have r2:RowAt Value.string [bx 97] (some ⟨w.heap.size+1,0,none⟩) (wT5 w):=by
    have:=row1 Value.string (bx 97) (wT1 w) 9
    rw [tz1] at this
    exact (((this:RowAt _ _ _ (wT2 w)).next b3).next b4).next b5
  have i1:ItsAt [itA 1,itA 1] (some ⟨w.heap.size+1+1,0,none⟩) (wT5 w):=by
    have:=its2 (itA 1) (itA 1) (wT2 w) 55 (itA_ok 1 (by unfold i64B; omega)) (itA_ok 1 (by unfold i64B; omega))
    rw [tz2] at this
    exact ((this:ItsAt _ _ (wT3 w)).next b4).next b5
  have i2:ItsAt [itA 0] (some ⟨w.heap.size+1+1+1,0,none⟩) (wT5 w):=by
    have:=its1 (itA 0) (wT3 w) 55 (itA_ok 0 (by unfold i64B; omega))
    rw [tz3] at this
    exact (this:ItsAt _ _ (wT4 w)).next b5
  have pr:PrsAt fT.prods (some ⟨w.heap.size+1+1+1+1,0,none⟩) (wT5 w):=by
    intro i p hi
    have hs:=tz4 w
    refine ⟨w.heap.size+1+1+1+1,0,?_⟩
    have hsz:w.heap.size+1+1+1+1<(wT5 w).heap.size:=by simp [wT5,tz4]
    match i,hi with
    | 0,hi =>
      simp [fT] at hi; subst hi
      refine ⟨.slice (some ⟨w.heap.size+1+1,0,none⟩) 2 2,rfl,hsz,?_,?_,?_,⟨_,2,rfl,i1,(fun h=>by cases h),Nat.le_refl _,by omega⟩,by unfold i64B; simp,by unfold i64B; simp⟩ <;> (rw [← hs]; simp [wT5])
    | 1,hi =>
      simp [fT] at hi; subst hi
      refine ⟨.slice (some ⟨w.heap.size+1+1+1,0,none⟩) 1 1,rfl,hsz,?_,?_,?_,⟨_,1,rfl,i2,(fun h=>by cases h),Nat.le_refl _,by omega⟩,by unfold i64B; simp,by unfold i64B; simp⟩ <;> (rw [← hs]; simp [wT5])
    | i+2,hi=>simp [fT] at hi
  exact ⟨r1,r2,pr,by decide,by decide,by decide,(show 2≤2 from Nat.le_refl _),fun h=>by cases h⟩
end Go.Proofs.YtbilbgjojdlobaaGreatDoor
namespace Go.Proofs.YtbilbgjojdlobaaGreatDoor
open Go.RowKit Go.Maps Go.Sort Go.Shelf
shelf_lay_g SlLaysZI.n7 Ggz 7 at Tryz 103 as Tryz.keysAc
shelf_lay_g SlLaysZI.n6 Ggz 6 at Tryz 102 as Tryz.sortedAc
shelf_lay_g SlLaysM.n5 Slgm 5 at Tryz 134 as Tryz.sortAc
theorem sortsAc (m:Nat):AnyZI.SortsIn Tryz.prog Tryz.sortedAc_ren Fence.wide m :=
  ⟨fun blk off cap ss W hH hblk hsz=>callsIn_wide.2 (AnyM.slices_Sort_int Tryz.sortAc blk off cap ss W hH hblk hsz),
   fun p cap W=>callsIn_wide.2 (AnyM.slices_Sort_int_none Tryz.sortAc p cap W)⟩
theorem keysAc_any (mb:Option Nat) (W:World):Calls Tryz.prog 103 #[.map mb] W fun e w'=>e=.returned (.func (.func 135) #[] #[.pointer (some ⟨W.heap.size,0,none⟩)])∧w'=W.alloc (.cells #[.map mb] 119) :=
  (callsIn_wide (n:=5)).1 (AnyZI.keys_in Tryz.keysAc Fence.wide 5 trivial rfl mb W)
theorem sortedAc_any {H:Type} (b nn:Nat) (D0:DataW H) (R:Value→Option (DataW H × List MemPlace)) (w:World) (hown:w.ownsMap Tryz.prog 3 R b nn D0) (hmax:Maps.size D0≤maxLen) (hbytes:Maps.size D0 * 8≤140737488355328) :
    Calls Tryz.prog 102 #[.func (.func 135) #[] #[.pointer (some ⟨w.heap.size,0,none⟩)]] (w.alloc (.cells #[.map (some b)] 119)) fun e w'=>∃ (v:Value) (ss:List Int),e=.returned v∧ss.Perm (intKeys D0) ∧
      w'.ownsRow w.heap.size 3 1 v ss.length ((ss.mergeSort (fun x y=>decide (x≤y))).map encZ)∧Below w.heap.size w w':=by
  refine (callsIn_wide (n:=5)).1 ?_
  have hbl:=hown.lt
  have hseq:SeqGives Fence.wide 2 Tryz.prog 135 #[.pointer (some ⟨w.heap.size,0,none⟩)] encZ (fun ss=>ss.Perm (intKeys D0)) (Maps.size D0) (w.alloc (.cells #[.map (some b)] 119)) :=
    AnyZI.keys_gives (ρ:=Tryz.keysAc_ren) { Tryz.keysAc with } Fence.wide _ trivial rfl (by omega) w.heap.size b nn D0 _ (by simp) (by simp) (by
      obtain ⟨es,clock,hb,Ft,hs,hD⟩:=hown
      exact ⟨es,clock,(Below.heap_alloc _ _ b hbl).trans hb,Ft,hs,hD⟩)
  have cS:=AnyZI.sorted_in Tryz.sortedAc Fence.wide 5 trivial trivial trivial trivial rfl (by omega) (sortsAc _) (enters_of Tryz.func134 (by kernel_rfl) rfl) 135 #[.pointer (some ⟨w.heap.size,0,none⟩)] trivial (enters_of Tryz.func135 (by kernel_rfl) rfl) _ _ hmax hbytes _ hseq
  change CallsIn _ _ Tryz.prog 102 _ _ _ at cS
  refine cS.mono ?_
  rintro e w' ⟨v,ss,rfl,hS,hrow,hnil,hb⟩
  exact ⟨v,ss,rfl,hS,ownsRow_base_a hrow (by simp),((Below.refl _ w).alloc (Nat.le_refl _) _).trans (hb.mono (by simp))⟩
theorem intKeys_facts {H:Type} {R:Value→Option (DataW H × List MemPlace)} {w:World} {b n:Nat} {D:DataW H} (hown:w.ownsMap Tryz.prog 3 R b n D):(intKeys D).Nodup∧(∀ x,x∈intKeys D↔Maps.has D (.int .i64 x)=true)∧∀ x∈intKeys D,i64B x:=by
  have hwf:=intKeys_wf hown Tryz.underlying3
  obtain ⟨es,hD,hpw,_⟩:=hown.entries lawInt
  obtain ⟨es',hD',hko⟩:=hown.keysOf
  obtain rfl:es=es':=by rw [hD] at hD'; simpa using hD'
  subst hD
  have hk:∀ p∈es,∃ x,p.1=.int .i64 x:=fun p hp=>by obtain ⟨v,hv⟩:=hko p hp; obtain ⟨x,_,hx,_⟩:=Maps.keyOf_i64 Tryz.underlying3 hv; exact ⟨x,hx⟩
  refine ⟨?_,fun x=>?_,fun x hx=>?_⟩
  · show (es.map fun p=>Go.intOf p.1).Nodup
    refine List.pairwise_map.2 (hpw.imp_of_mem fun {p q} hp' hq' hne e=>hne ?_)
    obtain ⟨a,ha⟩:=hk p hp'
    obtain ⟨b,hb⟩:=hk q hq'
    rw [ha,hb] at e ⊢
    exact congrArg _ e
  · rw [has_eq,List.any_eq_true]
    show x∈es.map (fun p=>Go.intOf p.1)↔_
    rw [List.mem_map]
    constructor
    · rintro ⟨p,hp',rfl⟩
      obtain ⟨a,ha⟩:=hk p hp'
      exact ⟨p,hp',by rw [ha]; simp [Lit.sameKey,Go.intOf]⟩
    · rintro ⟨p,hp',hs⟩
      obtain ⟨a,ha⟩:=hk p hp'
      rw [ha] at hs
      exact ⟨p,hp',by rw [ha]; simpa [Lit.sameKey,Go.intOf] using hs⟩
  · have:=hwf x hx
    unfold i64B
    simp [Lit.wf,IntKind.min,IntKind.max,IntKind.bits,IntKind.signed] at this
    omega
end Go.Proofs.YtbilbgjojdlobaaGreatDoor
namespace Go.Proofs.YtbilbgjojdlobaaGreatDoor
open Go.RowKit Go.Maps
theorem infoAct:(Tryz.prog.info? 45).map (fun i=>(i.zero,i.size,i.bytes))=some (some (.agg #[.int .i64 0,.int .i64 0,.slice none 0 0,.bool false]),4,48):=by kernel_rfl
def encA (G:Int→Option Ac) (U:Int→Value) (t:Int):List Value:=[.int .i64 (curA G t).look,.int .i64 (curA G t).to,U t,.bool (curA G t).acc]
theorem flatK_get {α:Type} {enc:α→List Value} {c:Nat} (hc:∀ x,(enc x).length=c):∀ {l:List α} {i j:Nat} {x:α},l[i]?=some x→j<c→(l.flatMap enc)[i * c+j]?=(enc x)[j]?
  | [],i,j,x,h,_=>by simp at h
  | y :: l,0,j,x,h,hj=>by
    simp at h; subst h
    rw [List.flatMap_cons,Nat.zero_mul,Nat.zero_add,List.getElem?_append_left (by rw [hc]; exact hj)]
  | y :: l,i+1,j,x,h,hj=>by
    rw [List.flatMap_cons,List.getElem?_append_right (by rw [hc,Nat.succ_mul]; omega),hc,show (i+1) * c+j - c=i * c+j by rw [Nat.succ_mul]; omega]
    exact flatK_get hc (by simpa using h) hj
theorem own_cells {α:Type} {enc:α→List Value} {c:Nat} (hc:∀ x,(enc x).length=c) {B:Nat} {e:TypeId} {l:List α} {v:Value} {W:World} (h:W.ownsRow B e c v l.length (l.flatMap enc)) (hl:0<l.length) :
    ∃ g cap,v=.slice (some ⟨g,0,none⟩) l.length cap∧g<W.heap.size∧l.length≤cap∧∀ (i j:Nat) (x:α) (u:Value),l[i]?=some x→j<c→(enc x)[j]?=some u→W.cell? ⟨g,i * c+j,none⟩=some u:=by
  rcases h.2 with ⟨_,h0⟩ | ⟨g,cap,cur,hv,hB,hg,hle,hmx,hcs,htk⟩
  · omega
  refine ⟨g,cap,hv,(Array.getElem?_eq_some_iff.1 hg).1,hle,fun i j x u hx hj hu=>?_⟩
  rw [Lib.cell_of_heap hg]
  have hi:i<l.length:=(List.getElem?_eq_some_iff.1 hx).1
  have h1:(l.flatMap enc)[i * c+j]?=some u:=(flatK_get hc hx hj).trans hu
  rw [← htk,List.getElem?_take,if_pos (by
    have:(i+1) * c≤l.length * c:=Nat.mul_le_mul_right _ hi
    rw [Nat.succ_mul] at this; omega)] at h1
  rw [← Array.getElem?_toList]; exact h1
theorem new4 (W:World) (a0 a1 a2 a3:Value) (ty:TypeId):∀ (i:Nat) (u:Value),[a0,a1,a2,a3][i]?=some u→(W.alloc (Obj.cells #[a0,a1,a2,a3] ty)).cell? ((⟨W.heap.size,0,none⟩:Addr).add i)=some u:=by
  intro i u hi
  rw [add_plain,Nat.zero_add]
  rcases i with _ | _ | _ | _ | i <;> simp at hi <;> subst hi <;> simp
theorem sorted_facts {ss:List Int} (hn:ss.Nodup):(ss.mergeSort (fun x y=>decide (x≤y))).Pairwise (· < ·)∧∀ t,t∈ss.mergeSort (fun x y=>decide (x≤y))↔t∈ss:=by
  have hp:=List.mergeSort_perm ss (fun x y=>decide (x≤y))
  refine ⟨?_,fun t=>hp.mem_iff⟩
  have h1:(ss.mergeSort (fun x y=>decide (x≤y))).Pairwise (fun a b=>decide (a≤b)=true):=List.pairwise_mergeSort (fun a b c h1 h2=>by simp only [decide_eq_true_eq] at *; omega) (fun a b=>by simp only [Bool.or_eq_true,decide_eq_true_eq]; omega) ss
  have h2:(ss.mergeSort (fun x y=>decide (x≤y))).Nodup:=hp.nodup_iff.2 hn
  refine (h1.and h2).imp (fun {a b} h=>?_)
  have:=of_decide_eq_true h.1
  have:=h.2
  omega
set_option maxRecDepth 100000 in
set_option maxHeartbeats 2000000 in
theorem listAct_any {B b n:Nat} {G:Int→Option Ac} {U:Int→Value} (w:World) (h:MapA B b n G U w) (hn:n≤100000000) (hG:∀ t a,G t=some a→i64B a.look∧i64B a.to∧(∀ x∈a.red,i64B x)∧a.red.length≤140737488351232) :
    Calls Tryz.prog 66 #[.map (some b)] w fun e w'=>∃ (v':Value) (S:List Int),e=.returned v'∧S.Pairwise (· < ·)∧(∀ t,t∈S↔(G t).isSome=true)∧(∀ (W':World) (Dd:Nat→Prop),But Dd w' W'→(∀ k,inA b G U k∨w.heap.size≤k→¬ Dd k)→SlA (S.map (curA G)) v' W')∧Below w.heap.size w w':=by
  obtain ⟨i0,hi0,hz0,hz1,hz2⟩:=info_parts infoAct
  obtain ⟨D,hD,hh,_⟩:=id h.own
  have hsz:Maps.size D≤n:=hD.size_le
  have HKY:=keysAc_any (some b) w
  have HSO:=sortedAc_any b n D heldR w hD (by unfold maxLen; omega) (by omega)
  have HFA:Hid (∀ t,t∈intKeys D↔(G t).isSome=true):=fun t=>by
    obtain ⟨_,k2,k3⟩:=intKeys_facts hD
    constructor
    · intro ht
      have:=(k2 t).1 ht
      rw [hh t (k3 t ht)] at this
      exact this
    · intro ht
      obtain ⟨a,ha⟩:=Option.isSome_iff_exists.1 ht
      rw [k2,hh t (h.keys t a ha)]; exact ht
  have HND:Hid ((intKeys D).Nodup):=(intKeys_facts hD).1
  have HLE:Hid ((intKeys D).length≤n):=by
    show (intKeys D).length≤n
    obtain ⟨es,hes,_⟩:=hD.entries lawInt
    rw [hes] at hsz ⊢
    simpa [intKeys,Maps.size] using hsz
  have HM:Hid (∀ W,Below w.heap.size w W→MapA B b n G U W):=fun W hW=>h.next hW
  clear hD hh h
  go_enter Tryz.func66,Tryz.ntmps66
  go_wp2_with fail
  refine HKY.mono ?_
  rintro e w1 ⟨rfl,rfl⟩
  clear HKY
  go_wp2_with fail
  refine HSO.mono ?_
  rintro e w1 ⟨v,ss,rfl,hS,hrow,b1⟩
  have hlen:ss.length≤n:=by rw [hS.length_eq]; exact HLE.out
  obtain ⟨hs1,hs2⟩:=sorted_facts (hS.nodup_iff.2 HND.out)
  have hsl:(ss.mergeSort (fun x y=>decide (x≤y))).length=ss.length:=List.length_mergeSort ss
  have HSS:Hid ((ss.mergeSort (fun x y=>decide (x≤y))).Pairwise (· < ·)∧∀ t,t∈ss.mergeSort (fun x y=>decide (x≤y))↔(G t).isSome=true):=⟨hs1,fun t=>by rw [hs2,hS.mem_iff]; exact HFA.out t⟩
  generalize ss.mergeSort (fun x y=>decide (x≤y))=S at *
  have hR:w1.ownsRow w.heap.size 3 1 v S.length (S.map encI):=by rw [hsl]; exact hrow
  have HSL:Hid (∀ W,Below w1.heap.size w1 W→SlI S v W):=fun W hW=>(sli_own hR (fun t ht=>by
    obtain ⟨a,ha⟩:=Option.isSome_iff_exists.1 ((HSS.out.2 t).1 ht)
    exact (HM.out w (Below.refl _ _)).keys t a ha)).next hW
  obtain ⟨va,vc,hv⟩:=slice_of_ownK hR
  subst hv
  have hlen2:S.length≤n:=by rw [hsl]; exact hlen
  have HGC:Hid (∀ t∈S,∃ a,G t=some a∧curA G t=a):=fun t ht=>by
    obtain ⟨a,ha⟩:=Option.isSome_iff_exists.1 ((HSS.out.2 t).1 ht)
    exact ⟨a,ha,by unfold curA; rw [ha]; rfl⟩
  have hEL:∀ t,(encA G U t).length=4:=fun _=>rfl
  have HEL:Hid (∀ t,(encA G U t).length=4):=hEL
  clear hS hrow hlen hs1 hs2 hsl hR HFA HND HLE HSO hEL hsz
  go_wp2_with fail
  go_loopw [3,10] (fun lv iv wr=>∃ (k:Nat),iv=.int .i64 k∧k≤S.length∧wr.ownsRow w1.heap.size 45 4 lv k ((S.take k).flatMap (encA G U))∧Below w1.heap.size w1 wr) (fun _ i _=>S.length - (Go.RowKit.intOf i).toNat)
  case atStart=>exact ⟨0,rfl,Nat.zero_le _,by simpa using World.ownsRow_nil w1 w1.heap.size 45 4,Below.refl _ _⟩
  case round =>
  obtain ⟨k,rfl,hk,hown,BR⟩:=hrel
  have BW:Below w.heap.size w wr:=b1.trans (BR.mono b1.size)
  by_cases hlt:k<S.length
  case neg =>
    obtain rfl:k=S.length:=by omega
    rw [List.take_of_length_le (Nat.le_refl _)] at hown
    obtain ⟨la,lc,rfl⟩:=slice_of_ownK hown
    have HR:Hid (∀ (W':World) (Dd:Nat→Prop),But Dd wr W'→(∀ k,inA b G U k∨w.heap.size≤k→¬ Dd k)→SlA (S.map (curA G)) (.slice la S.length lc) W'):=fun W' Dd hbt hdd=>by
      have hM:=(HM.out wr BW).keep hbt (fun k hk=>hdd k (.inl hk))
      have hown:=ownsRow_keep hown hbt (fun k hk=>hdd k (.inr (Nat.le_trans b1.size (World.ownsRow.lt hown k hk).1)))
      rcases Nat.eq_zero_or_pos S.length with h0 | h0
      · obtain rfl:S=[]:=List.eq_nil_of_length_eq_zero h0
        rcases hown.2 with ⟨e,_⟩ | ⟨g,cap,cur,e,_⟩
        · rw [e]; exact SlA.nil _
        · cases e
          exact ⟨_,_,rfl,fun i x hx=>(by simp at hx),fun e=>(by cases e),Nat.zero_le _,Nat.zero_le _⟩
      · obtain ⟨g,cap,e,hg,hle,hcell⟩:=own_cells HEL.out hown h0
        cases e
        refine ⟨some ⟨g,0,none⟩,lc,by rw [List.length_map],fun i x hx=>?_,fun e=>(by cases e),by rw [List.length_map]; exact hle,by rw [List.length_map]; omega⟩
        rw [List.getElem?_map] at hx
        obtain ⟨t,ht,rfl⟩:=Option.map_eq_some_iff.1 hx
        obtain ⟨a,ha,hc⟩:=HGC.out t (List.mem_of_getElem? ht)
        obtain ⟨k1,k2,k3,k4⟩:=hG t a ha
        refine ⟨g,0,U t,rfl,hg,?_,?_,?_,?_,?_,?_⟩
        · have:=hcell i 0 t _ ht (by omega) rfl; simpa using this
        · have:=hcell i 1 t _ ht (by omega) rfl; simpa using this
        · have:=hcell i 2 t _ ht (by omega) rfl; simpa using this
        · have:=hcell i 3 t _ ht (by omega) rfl; simpa using this
        · rw [hc]; exact sli_own (hM.rows t a ha) k3
        · rw [hc]; exact ⟨k1,k2,k4⟩
    clear hown HSL HM HGC HEL
    go_wp2_with fail
    go_ret
    exact ⟨_,S,rfl,HSS.out.1,HSS.out.2,HR.out,BW⟩
  obtain ⟨_,_,e0,hrl,_⟩:=HSL.out _ BR
  cases e0
  obtain ⟨b2,o2,rfl,hb2,p0⟩:=hrl.at (Below.refl _ _) hlt
  unfold encI at p0
  obtain ⟨a,ha,hc⟩:=HGC.out S[k] (List.getElem_mem hlt)
  have hM:=HM.out wr BW
  have hlk:=hM.look1 ha
  obtain ⟨ua,uc,hU⟩:=slice_of_ownK (hM.rows S[k] a ha)
  have HTK:Hid ((S.take (k+1)).flatMap (encA G U)=(S.take k).flatMap (encA G U)++[.int .i64 a.look,.int .i64 a.to,.slice ua a.red.length uc,.bool a.acc]):=by
    show _=_
    rw [List.take_succ_eq_append_getElem hlt,List.flatMap_append]
    congr 1
    simp [encA,hc,hU]
  rw [hU] at hlk
  unfold acVal at hlk
  generalize S[k]=t at *
  obtain ⟨la,lc,rfl⟩:=slice_of_ownK hown
  generalize (S.take k).flatMap (encA G U)=X at *
  have HON:Hid ((wr.alloc (Obj.cells #[.int .i64 a.look,.int .i64 a.to,.slice ua a.red.length uc,.bool a.acc] 45)).ownsRow w1.heap.size 45 4 (.slice la k lc) k X):=World.ownsRow.alloc hown _
  have HOB:Hid (∀ j,(Value.slice la k lc).ownBlock=some j→w1.heap.size≤j):=fun j hj=>(World.ownsRow.lt hown j hj).1
  have BN:Below w1.heap.size w1 (wr.alloc (Obj.cells #[.int .i64 a.look,.int .i64 a.to,.slice ua a.red.length uc,.bool a.acc] 45)):=BR.alloc BR.size _
  have hbase:w1.heap.size≤(wr.alloc (Obj.cells #[.int .i64 a.look,.int .i64 a.to,.slice ua a.red.length uc,.bool a.acc] 45)).heap.size:=BN.size
  have HNW:=new4 wr (.int .i64 a.look) (.int .i64 a.to) (.slice ua a.red.length uc) (.bool a.acc) 45
  have HBN:Hid (Below w1.heap.size w1 (wr.alloc (Obj.cells #[.int .i64 a.look,.int .i64 a.to,.slice ua a.red.length uc,.bool a.acc] 45))):=BN
  generalize a.red.length=rn at *
  generalize a.look=a0 at *
  generalize a.to=a1 at *
  generalize a.acc=a3 at *
  clear hown hM HSL HM HGC HEL hrl hG BN hU hc
  go_wp2_with (at_builtin; refine wpList_append_own_at _ rfl (.tmp 14) (.tmp 18) 65 rfl w1.heap.size 45 i0 _ 4 48 Tryz.underlying65 hi0 hz0 hz1 hz2 rfl (by omega) _ _ _ rfl HON.out _ 1 1 [.int .i64 a0,.int .i64 a1,.slice ua rn uc,.bool a3] rfl rfl HNW (by simp [Value.oneCell']) (by unfold maxLen; omega) (by omega) hbase ?_)
  intro v' w2 hown' hgrow _ hat
  have HF:Hid (w2.ownsRow w1.heap.size 45 4 v' (k+1) ((S.take (k+1)).flatMap (encA G U))∧Below w1.heap.size w1 w2):=⟨by rw [HTK.out]; exact hown',HBN.out.grown hgrow hbase HOB.out⟩
  obtain ⟨va',vc',rfl⟩:=slice_of_ownK hown'
  clear hown' hgrow hat HON HTK HBN HNW
  go_wp2_with fail
  exact ⟨⟨k+1,by go_num,by omega,HF.out⟩,by simp [Go.RowKit.intOf]; omega⟩
noncomputable def intR:Value→Option (DataW Unit × List MemPlace):=plainElem Tryz.prog 3
theorem keyStr {l:List UInt8} (h:l.length≤1000000000):keyOf Tryz.prog 9 (.string ⟨l.toArray⟩)=some (.string l):=by
  have hs:(⟨l.toArray⟩:ByteArray).size≤maxLen:=by
    show l.toArray.size≤maxLen
    unfold maxLen; simp; omega
  simp [keyOf,Tryz.underlying9,mapKey,hs]
theorem zeroInt (W:World):(zeroValue 3).run Tryz.prog W=.ok (.int .i64 0) W:=Tryz.zeroValue3 W
theorem intR_mk {x:Int} (h:i64B x):intR (.int .i64 x)=some (.lit (.int .i64 x),[]):=plainElem_int Tryz.underlying3 (wf64 h)
def MapP (b n i:Nat) (R:List (List Ir)) (W:World):Prop :=
  ∃ D:DataW Unit,W.ownsMap Tryz.prog 9 intR b n D∧∀ j (hj:j<R.length),j<i→∀ z,D.atKey (.string (keyT (dotL R[j]))) z=.lit (.int .i64 j)
theorem MapP.lt {b n i:Nat} {R:List (List Ir)} {W:World} (h:MapP b n i R W):b<W.heap.size:=by
  obtain ⟨D,h,_⟩:=h; exact h.lt
theorem MapP.next {b n i:Nat} {R:List (List Ir)} {W W':World} (h:MapP b n i R W) (hb:Below W.heap.size W W'):MapP b n i R W':=by
  have hl:=h.lt
  obtain ⟨D,⟨es,clock,h1,h2⟩,h3⟩:=h
  exact ⟨D,⟨es,clock,(hb.block b hl).trans h1,h2⟩,h3⟩
theorem MapP.made (R:List (List Ir)) (W:World):MapP W.heap.size 0 0 R (W.alloc (.map #[] 0)):=⟨.map [],World.ownsMap_made W _ _ _,fun j _ h=>by omega⟩
theorem MapP.store {b n i:Nat} {f:Fl} {R:List (List Ir)} {W:World} (hp:FitP f) (hall:allF f=some R) (h:MapP b n i R W) (hn:n≤1000) (hi:i<R.length) (hR:R.length≤600) (hk:(keyT (dotL R[i])).length≤1000000000) :
    ∃ W',(Instr.mapUpdate 114 (.map (some b)) (strT (dotL R[i])) (.int .i64 i)).run Tryz.prog W=.ok () W'∧MapP b (n+1) (i+1) R W'∧But (fun k=>k=b) W W':=by
  obtain ⟨D,h1,h3⟩:=h
  obtain ⟨W',hr,ho,hm⟩:=h1.store lawStr Tryz.underlying114 (by unfold maxLen; omega) (key:=strT (dotL R[i])) (val:=.int .i64 i) (kl:=.string (keyT (dotL R[i]))) (d:=.lit (.int .i64 i)) (ps:=[]) (keyStr hk) (intR_mk (by unfold i64B; omega))
  refine ⟨W',hr,⟨_,ho,fun j hj hji z=>?_⟩,but_turned hm⟩
  by_cases e:j=i
  · subst e
    exact atKey_put_same h1.isMap (lawStr.key (keyStr hk)) _ _
  · rw [atKey_put_other (fun e'=>e (keys_apart hp hall hj hi (by simpa using e')))]
    exact h3 j hj (by omega) z
theorem MapP.look {b n:Nat} {R:List (List Ir)} {W:World} (h:MapP b n R.length R W) {j:Nat} (hj:j<R.length) {K:List Ir} (hK:dotL R[j]=K) (hk:(keyT K).length≤1000000000) :
    (Instr.lookup 114 (.map (some b)) (strT K) false).run Tryz.prog W=.ok (.int .i64 j) W:=by
  obtain ⟨D,h1,h3⟩:=h
  obtain ⟨v,ps,hr,hv⟩:=h1.lookup lawStr Tryz.underlying114 (zeroInt W) (zd:=.lit (.int .i64 0)) (zp:=[]) (intR_mk (by unfold i64B; omega)) (key:=strT K) (keyStr hk)
  subst hK
  rw [h3 j hj hj] at hv
  obtain ⟨c,rfl,hc,_⟩:=plainElem_int_inv Tryz.underlying3 hv
  simp only [Prod.mk.injEq,DataW.lit.injEq,Lit.int.injEq] at hc
  rw [hr,← hc.1.2]
def MkAt (f:Fl) (a:FlA) (R:List (List Ir)) (m b:Nat) (W:World):Prop :=
  m<W.heap.size∧W.cell? ⟨m,0,none⟩=some (.slice a.ta f.terms.length a.tc)∧W.cell? ⟨m,1,none⟩=some (.slice a.na f.nons.length a.nc)∧W.cell? ⟨m,2,none⟩=some (.slice a.pa f.prods.length a.pc)∧W.cell? ⟨m,3,none⟩=some (.map (some b))∧MapP b R.length R.length R W
theorem MkAt.next {f:Fl} {a:FlA} {R:List (List Ir)} {m b:Nat} {W W':World} (h:MkAt f a R m b W) (hb:Below W.heap.size W W'):MkAt f a R m b W':=by
  obtain ⟨h0,h1,h2,h3,h4,h5⟩:=h
  exact ⟨Nat.lt_of_lt_of_le h0 hb.size,(hb.cell (p:=⟨m,0,none⟩) h0).trans h1,(hb.cell (p:=⟨m,1,none⟩) h0).trans h2,(hb.cell (p:=⟨m,2,none⟩) h0).trans h3,(hb.cell (p:=⟨m,3,none⟩) h0).trans h4,h5.next hb⟩
set_option maxRecDepth 100000 in
set_option maxHeartbeats 2000000 in
theorem makerOf_any (f:Fl) (a:FlA) (R:List (List Ir)) (v:Value) (w:World) (hp:FitP f) (hall:allF f=some R) (hR:SlLL R v w) (hR6:R.length≤600) (hRl:∀ x∈R,x.length≤maxI) :
    Calls Tryz.prog 32 #[a.val f,v] w fun e w'=>∃ m b,e=.returned (.pointer (some ⟨m,0,none⟩))∧MkAt f a R m b w'∧Below w.heap.size w w':=by
  have HKO:Hid (∀ l∈R,∀ (u:Value) W,SlL l u W→Calls Tryz.prog 60 #[u] W fun e w'=>e=.returned (strT (dotL l))∧Below W.heap.size W w'):=fun l hl u W hu=>keyOfT_any l u W hu (fun x hx=>fitT_of hp ((sets_fit hp hall hl).2 x hx)) (hRl l hl)
  have HST:Hid (∀ (b n i:Nat) W (hi:i<R.length),MapP b n i R W→n≤1000→∃ W',(Instr.mapUpdate 114 (.map (some b)) (strT (dotL R[i])) (.int .i64 i)).run Tryz.prog W=.ok () W'∧MapP b (n+1) (i+1) R W'∧But (fun k=>k=b) W W'):=fun b n i W hi h hn=>MapP.store hp hall h hn hi hR6 (by
    rw [keyT_len]
    have h1:=dotL_len R[i]
    have h2:=hRl R[i] (List.getElem_mem hi)
    unfold maxI at h2
    omega)
  have HL:Hid (∀ W,Below w.heap.size w W→SlLL R v W):=fun W hW=>hR.next hW
  obtain ⟨la,lc,rfl,_⟩:=hR
  obtain ⟨ta,tc,na,nc,pa,pc⟩:=a
  obtain ⟨wm,hwm⟩:∃ wm,((w.alloc (Obj.cells #[.slice ta f.terms.length tc,.slice na f.nons.length nc,.slice pa f.prods.length pc] 25)).alloc (.map #[] 0)).alloc (Obj.cells #[.slice ta f.terms.length tc,.slice na f.nons.length nc,.slice pa f.prods.length pc,.map (some (w.heap.size+1))] 116)=wm:=⟨_,rfl⟩
  have B0:Below w.heap.size w wm:=by rw [← hwm]; exact (((Below.refl _ _).alloc (Nat.le_refl _) _).alloc (by simp) _).alloc (by simp; omega) _
  have hblk:wm.heap[w.heap.size+1+1]?=some (Obj.cells #[.slice ta f.terms.length tc,.slice na f.nons.length nc,.slice pa f.prods.length pc,.map (some (w.heap.size+1))] 116):=by
    have e:=heap_alloc_new ((w.alloc (Obj.cells #[.slice ta f.terms.length tc,.slice na f.nons.length nc,.slice pa f.prods.length pc] 25)).alloc (.map #[] 0)) (Obj.cells #[.slice ta f.terms.length tc,.slice na f.nons.length nc,.slice pa f.prods.length pc,.map (some (w.heap.size+1))] 116)
    rw [hwm] at e
    simpa using e
  have hML:w.heap.size+1+1<wm.heap.size:=(Array.getElem?_eq_some_iff.1 hblk).1
  have m0:wm.cell? ⟨w.heap.size+1+1,0,none⟩=some (.slice ta f.terms.length tc):=by rw [Lib.cell_of_heap hblk]; rfl
  have m1:wm.cell? ⟨w.heap.size+1+1,1,none⟩=some (.slice na f.nons.length nc):=by rw [Lib.cell_of_heap hblk]; rfl
  have m2:wm.cell? ⟨w.heap.size+1+1,2,none⟩=some (.slice pa f.prods.length pc):=by rw [Lib.cell_of_heap hblk]; rfl
  have m3:wm.cell? ⟨w.heap.size+1+1,3,none⟩=some (.map (some (w.heap.size+1))):=by rw [Lib.cell_of_heap hblk]; rfl
  have HM0:Hid (MapP (w.heap.size+1) 0 0 R wm):=by
    show MapP (w.heap.size+1) 0 0 R wm
    rw [← hwm]
    have h1:=MapP.made R (w.alloc (Obj.cells #[.slice ta f.terms.length tc,.slice na f.nons.length nc,.slice pa f.prods.length pc] 25))
    have e:(w.alloc (Obj.cells #[.slice ta f.terms.length tc,.slice na f.nons.length nc,.slice pa f.prods.length pc] 25)).heap.size=w.heap.size+1:=by simp
    rw [e] at h1
    exact h1.next ((Below.refl _ _).alloc (Nat.le_refl _) _)
  have hne:¬ (w.heap.size+1+1=w.heap.size+1):=by omega
  have hbw:w.heap.size≤w.heap.size+1:=by omega
  unfold FlA.val
  simp only
  clear hblk
  go_enter Tryz.func32,Tryz.ntmps32
  go_wp2_with fail
  simp only [run_makeMap,Result.andThen]
  rw [Oper.upon_value]
  go_wp2_with fail
  try rw [hwm]
  clear hwm
  generalize w.heap.size+1+1=m at *
  generalize w.heap.size+1=b at *
  have HCM:Hid (∀ W,But (fun k=>k=b) wm W→W.cell? ⟨m,0,none⟩=some (.slice ta f.terms.length tc)∧W.cell? ⟨m,1,none⟩=some (.slice na f.nons.length nc)∧W.cell? ⟨m,2,none⟩=some (.slice pa f.prods.length pc)∧W.cell? ⟨m,3,none⟩=some (.map (some b))):=fun W hW=>by
    exact ⟨(hW.cell (p:=⟨m,0,none⟩) hML hne).trans m0,(hW.cell (p:=⟨m,1,none⟩) hML hne).trans m1,(hW.cell (p:=⟨m,2,none⟩) hML hne).trans m2,(hW.cell (p:=⟨m,3,none⟩) hML hne).trans m3⟩
  have HBW:Hid (∀ W,But (fun k=>k=b) wm W→Below w.heap.size w W):=fun W hW=>B0.trans (hW.below B0.size (fun k e=>by rw [e]; exact hbw))
  clear m0 m1 m2 m3
  go_loopw [14] (fun iv wr=>∃ (i:Nat),iv=.int .i64 i∧i≤R.length∧MapP b i i R wr∧But (fun k=>k=b) wm wr) (fun i _=>R.length - (Go.RowKit.intOf i).toNat)
  case atStart=>exact ⟨0,rfl,Nat.zero_le _,HM0.out,But.refl _ _⟩
  case round =>
  clear HM0
  obtain ⟨i,rfl,hi,hM,BR⟩:=hrel
  have BW:=HBW.out _ BR
  by_cases hlt:i<R.length
  case neg =>
    obtain rfl:i=R.length:=by omega
    have HR:Hid (MkAt f ⟨ta,tc,na,nc,pa,pc⟩ R m b wr):=by
      obtain ⟨h1,h2,h3,h4⟩:=HCM.out _ BR
      exact ⟨Nat.lt_of_lt_of_le hML BR.size,h1,h2,h3,h4,hM⟩
    clear hM HKO HST HL HCM
    go_wp2_with fail
    go_ret
    exact ⟨m,b,rfl,HR.out,BW⟩
  obtain ⟨_,_,e0,hrl,_⟩:=HL.out _ BW
  cases e0
  obtain ⟨b2,o2,u,rfl,hb2,c0,hsl⟩:=hrl.at (Below.refl _ _) hlt
  have HK1:=HKO.out R[i] (List.getElem_mem hlt) u wr.drew (hsl.next (Below.refl _ wr).drew)
  have HS1:=HST.out b i i
  have HMN:Hid (∀ W,Below wr.heap.size wr W→MapP b i i R W):=fun W hW=>hM.next hW
  obtain ⟨ua,uc,rfl,_⟩:=hsl
  have hS0:(fun W:World=>(W.cell? ⟨m,3,none⟩=some (.map (some b)))) wr.drew:=(HCM.out _ BR).2.2.2
  have HSK:Hid (∀ W,Below wr.heap.size wr W→(fun W:World=>(W.cell? ⟨m,3,none⟩=some (.map (some b)))) W):=fun W hW=>(hW.cell (p:=⟨m,3,none⟩) (Nat.lt_of_lt_of_le hML BR.size)).trans hS0
  have HIL:Hid (i<R.length):=hlt
  clear hM hrl HKO HST HL HCM
  generalize R[i].length=rn at *
  go_wp2_with fail
  refine wp_region_L (fun W=>W.cell? ⟨m,3,none⟩=some (.map (some b))) 7 (by kernel_rfl) 8 rfl ?_
  refine tk 0 ⟨some 19,.move (.tmp 5),62, "make.go:23",#[],none⟩ hS0 ?_;simp only [Act.put,sA,s0,sS]
  refine tk 1 ⟨some 20,.nilCheck (.tmp 19),0, "make.go:23",#[⟨0,.data⟩],none⟩ hS0 ?_;simp only [Act.put,sA,s0,sS]
  refine tk 2 ⟨some 21,.fieldAddr 116 (.tmp 20) 1,0, "make.go:23",#[⟨1,.data⟩],none⟩ hS0 ?_;simp only [Act.put,sA,s0,sS]
  refine tk 3 ⟨some 22,.load 114 (.tmp 21),114, "make.go:23",#[⟨2,.data⟩],none⟩ hS0 ?_;simp only [Act.put,sA,s0,sS]
  refine tk 4 ⟨some 23,.move (.tmp 7),64, "make.go:23",#[],none⟩ hS0 ?_;simp only [Act.put,sA,s0,sS]
  refine tk 6 ⟨some 25,.move (.tmp 6),3, "make.go:23",#[],none⟩ hS0 ?_;simp only [Act.put,sA,s0,sS]
  refine wpAnyL_one' (i:=5) (o:=⟨some 24,.call ⟨.value (.func 60),#[.tmp 23],#[64]⟩,9, "make.go:23",#[⟨4,.data⟩],none⟩) (by kernel_rfl) rfl rfl (fun KQ hK=>?_)
  go_simp
  refine HK1.mono ?_
  rintro e w6 ⟨rfl,b6⟩
  have b6':Below wr.heap.size wr w6:=(Below.refl _ wr).drew.trans b6
  refine hK.out _ _ (fun _=>HSK.out w6 b6') ?_
  have hS1:=HSK.out w6 b6'
  obtain ⟨W',hr,hM',hbt⟩:=HS1 w6 HIL.out (HMN.out w6 b6') (by omega)
  unfold strT at hr
  unfold strT
  clear hK
  refine wpAnyL_one' (i:=7) (o:=⟨none,.mapUpdate 114 (.tmp 22) (.tmp 24) (.tmp 25),0, "make.go:23",#[⟨3,.data⟩,⟨5,.data⟩,⟨6,.data⟩,⟨5,.chain⟩,⟨0,.phase⟩,⟨1,.phase⟩,⟨2,.phase⟩,⟨3,.phase⟩,⟨4,.phase⟩,⟨5,.phase⟩,⟨6,.phase⟩],none⟩) (by kernel_rfl) rfl rfl (fun KQ hK=>?_)
  go_simp
  refine hK.out _ _ (fun h=>absurd h (by omega)) ?_
  clear hK
  refine wpAnyL_done (by kernel_rfl) ?_ _
  have HF:Hid (MapP b (i+1) (i+1) R W'∧But (fun k=>k=b) wm W'):=⟨hM',(BR.trans (But.of_next b6')).trans hbt⟩
  clear hM' hbt hr HS1 HMN HK1 hS0 hS1 HSK c0 b6 b6'
  go_wp2_with fail
  exact ⟨⟨i+1,by go_num,by omega,HF.out⟩,by simp [Go.RowKit.intOf]; omega⟩
structure RowI (B b1 g n:Nat) (w0:World) (G:Int→Option Ac) (U:Int→Value) (L:List Wr) (W:World):Prop where
  mp:MapA B b1 n G U W
  ws:WsAt B g L W
  dis:∀ k,inA b1 G U k→inW g W k→False
  o1:∀ k,inA b1 G U k→k=b1∨w0.heap.size≤k
  o2:∀ k,inW g W k→k=g∨w0.heap.size≤k
  bt:But (fun k=>k=b1∨k=g) w0 W
theorem RowI.keep {B b1 g n:Nat} {w0:World} {G:Int→Option Ac} {U:Int→Value} {L:List Wr} {W W':World} {D:Nat→Prop} (h:RowI B b1 g n w0 G U L W) (hb:But D W W') (hA:∀ k,inA b1 G U k→¬ D k) (hW:∀ k,inW g W k→¬ D k) (h0:∀ k,D k→w0.heap.size≤k):RowI B b1 g n w0 G U L W':=by
  have hi:=inW_same (g:=g) (hb.block g h.ws.lt (hW g (.inl rfl)))
  exact ⟨h.mp.keep hb hA,h.ws.keep hb hW,fun k h1 h2=>h.dis k h1 ((hi k).1 h2),h.o1,fun k hk=>h.o2 k ((hi k).1 hk),
    ⟨hb.os.trans h.bt.os,hb.tape.trans h.bt.tape,hb.output.trans h.bt.output,Nat.le_trans h.bt.size hb.size,fun k hk hd=>(hb.block k (Nat.lt_of_lt_of_le hk h.bt.size) (fun e=>by have:=h0 k e; omega)).trans (h.bt.block k hk hd)⟩⟩
theorem RowI.next {B b1 g n:Nat} {w0:World} {G:Int→Option Ac} {U:Int→Value} {L:List Wr} {W W':World} (h:RowI B b1 g n w0 G U L W) (hb:Below W.heap.size W W'):RowI B b1 g n w0 G U L W' :=
  h.keep (D:=fun _=>False) (But.of_next hb) (fun _ _ h=>h) (fun _ _ h=>h) (fun _ h=>h.elim)
theorem RowI.ended {B b1 g n:Nat} {w0:World} {G:Int→Option Ac} {U:Int→Value} {L:List Wr} {W W':World} {t:Int} {a:Ac} (h:RowI B b1 g n w0 G U L W) (he:Ended B b1 n G U t a W W'):∃ U',RowI B b1 g (n+1) w0 (updG G t a) U' L W':=by
  obtain ⟨u,hm,hb,hin⟩:=he
  have hn:∀ k,inW g W k→¬ inA b1 G U k:=fun k h1 h2=>h.dis k h2 h1
  have hi:=inW_same (g:=g) (hb.block g h.ws.lt (hn g (.inl rfl)))
  refine ⟨_,hm,h.ws.keep hb hn,fun k h1 h2=>?_,fun k hk=>?_,fun k hk=>h.o2 k ((hi k).1 hk),⟨hb.os.trans h.bt.os,hb.tape.trans h.bt.tape,hb.output.trans h.bt.output,Nat.le_trans h.bt.size hb.size,fun k hk hd=>(hb.block k (Nat.lt_of_lt_of_le hk h.bt.size) (fun e=>?_)).trans (h.bt.block k hk hd)⟩⟩
  · have h3:=(hi k).1 h2
    rcases hin k h1 with h4 | h4
    · exact h.dis k h4 h3
    · have:=(h.ws.inLt h3).2; omega
  · rcases hin k hk with h4 | h4
    · exact h.o1 k h4
    · exact .inr (Nat.le_trans h.bt.size h4)
  · rcases h.o1 k e with e1 | e1
    · exact hd (.inl e1)
    · omega
theorem RowI.wrote {B b1 g n:Nat} {w0:World} {G:Int→Option Ac} {U:Int→Value} {L L':List Wr} {W W':World} (h:RowI B b1 g n w0 G U L W) (hw:Wrote g W W') (hs:WsAt B g L' W'):RowI B b1 g n w0 G U L' W':=by
  obtain ⟨hb,hin⟩:=hw
  refine ⟨h.mp.keep hb (fun k h1 h2=>h.dis k h1 h2),hs,fun k h1 h2=>?_,h.o1,fun k hk=>?_,⟨hb.os.trans h.bt.os,hb.tape.trans h.bt.tape,hb.output.trans h.bt.output,Nat.le_trans h.bt.size hb.size,fun k hk hd=>(hb.block k (Nat.lt_of_lt_of_le hk h.bt.size) (fun e=>?_)).trans (h.bt.block k hk hd)⟩⟩
  · rcases hin k h2 with h4 | h4
    · exact h.dis k h1 h4
    · have:=(h.mp.inLt h1).2; omega
  · rcases hin k hk with h4 | h4
    · exact h.o2 k h4
    · exact .inr (Nat.le_trans h.bt.size h4)
  · rcases h.o2 k e with e1 | e1
    · exact hd (.inr e1)
    · omega
theorem made3 (a b c:Value) {n i j:Nat} (hi:i<n) (hj:j<3):(madeCells #[a,b,c] (n * 3))[i * 3+j]?=some #[a,b,c][j]! := by
  unfold madeCells
  rw [Array.getElem?_map,Array.getElem?_range,if_pos (by omega)]
  have e:(i * 3+j) % (#[a,b,c]:Array Value).size=j:=by show (i * 3+j) % 3=j; omega
  simp only [Option.map_some,e]
theorem ws_made {B g n:Nat} {W:World} (hB:B≤g) (h:W.heap[g]?=some (.cells (madeCells #[.pointer none,.slice none 0 0,.bool false] (n * 3)) 102 (0,0))):WsAt B g (List.replicate n ⟨[],false⟩) W:=by
  have hz:∀ (i:Nat) (x:Wr),(List.replicate n (⟨[],false⟩:Wr))[i]?=some x→i<n∧x=⟨[],false⟩:=fun i x hx=>by
    rw [List.getElem?_replicate] at hx
    split at hx
    · rename_i hi; exact ⟨hi,(Option.some.inj hx).symm⟩
    · cases hx
  have hs:(madeCells #[.pointer none,.slice none 0 0,.bool false] (n * 3)).size=n * 3:=size_madeCells _ _
  have hb:∀ (i:Nat) (v:Value),W.cell? ⟨g,i * 3+1,none⟩=some v→v=.slice none 0 0:=fun i v hv=>by
    rw [Lib.cell_of_heap h] at hv
    have hi:i<n:=by have:=(Array.getElem?_eq_some_iff.1 hv).1; omega
    rw [made3 _ _ _ hi (by omega)] at hv
    exact (Option.some.inj hv).symm
  refine ⟨hB,⟨_,h,by rw [hs,List.length_replicate]⟩,fun i x hx=>?_,fun i x hx=>?_,fun i x hx=>?_,fun i x v _ _ hv=>hb i v hv,fun i j u v k _ hu _ hk=>?_⟩
  · obtain ⟨hi,rfl⟩:=hz i x hx
    exact .inl (by rw [Lib.cell_of_heap h]; exact made3 _ _ _ hi (j:=0) (by omega))
  · obtain ⟨hi,rfl⟩:=hz i x hx
    exact ⟨.slice none 0 0,by rw [Lib.cell_of_heap h]; exact made3 _ _ _ hi (j:=1) (by omega),World.ownsRow_nil _ _ _ _⟩
  · obtain ⟨hi,rfl⟩:=hz i x hx
    rw [Lib.cell_of_heap h]; exact made3 _ _ _ hi (j:=2) (by omega)
  · rw [hb i u hu] at hk; cases hk
theorem wL_nil (f:Fl):wL f []=List.replicate f.n ⟨[],false⟩:=by
  unfold wL
  refine List.ext_getElem? (fun i=>?_)
  rw [List.getElem?_map,List.getElem?_replicate]
  by_cases hi:i<f.n
  · simp [hi,movedL,keyT]
  · simp [hi]
end Go.Proofs.YtbilbgjojdlobaaGreatDoor
