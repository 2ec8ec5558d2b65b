import Derived.Test.YtbilbgjojdlobaaGreatDoorJ01
import Derived.Test.YtbilbgjojdlobaaGreatDoorJ02
import Derived.Test.YtbilbgjojdlobaaGreatDoorJ03
import Derived.Laws.StructEq
import Derived.Deep.MidRow
import Derived.Deep.Onto
import Derived.Deep.Upon

namespace Go.Proofs.YtbilbgjojdlobaaGreatDoor
open Go.RowKit
theorem SlI.nil12 (W:World):SlI [] (.slice none 0 0) W:=⟨none,0,rfl,RowAt.nil _ _ _,fun _=>rfl,Nat.le_refl _,fun x hx=>by cases hx⟩
set_option maxRecDepth 100000 in
set_option maxHeartbeats 1600000 in
theorem ract_any (l:List Rw) (v:Value) (s y:Int) (w:World) (hl:SlW l v w) :
    Calls Tryz.prog 21 #[.agg #[v],.int .i64 s,.int .i64 y] w fun e w'=>∃ u,e=.returned (.agg #[.int .i64 (actF l s y).look,.int .i64 (actF l s y).to,u,.bool (actF l s y).acc])∧SlI (actF l s y).red u w'∧(actF l s y).red.length≤140737488351232∧Below w.heap.size w w':=by
  have HL:Hid (∀ W,Below w.heap.size w W→SlW l v W):=fun W hb=>hl.next hb
  obtain ⟨la,lc,rfl,_,_,_,hlb⟩:=hl
  have B0:Below w.heap.size w ((w.alloc (Obj.cells #[.slice la l.length lc] 30)).alloc (Obj.cells #[.int .i64 0,.int .i64 0,.slice none 0 0,.bool false] 45)):=((Below.refl _ _).alloc (Nat.le_refl _) _).alloc (by simp) _
  have BN:Below w.heap.size w ((w.alloc (Obj.cells #[.slice la l.length lc] 30)).alloc (Obj.cells #[.int .i64 y,.int .i64 (-1),.slice none 0 0,.bool false] 45)):=((Below.refl _ _).alloc (Nat.le_refl _) _).alloc (by simp) _
  go_enter Tryz.func21,Tryz.ntmps21
  go_upto_region 1 with fail
  by_cases hin:0≤s∧s<l.length
  case neg =>
    have HE:Hid (actF l s y=⟨y,-1,[],false⟩):=by
      show _=_
      unfold actF; rw [rowF_out hin]; rfl
    have hcase:(decide (s ≥ 0)=false∧¬ s ≥ 0)∨((decide (s ≥ 0)=true∧s ≥ 0)∧decide (s<l.length)=false∧¬ s<l.length):=by
      by_cases g:s ≥ 0
      · exact .inr ⟨⟨decide_eq_true g,g⟩,decide_eq_false (by omega),by omega⟩
      · exact .inl ⟨decide_eq_false g,g⟩
    clear hin
    rcases hcase with ⟨c1,c2⟩ | ⟨⟨c1,c2⟩,c3,c4⟩
    all_goals
      go_wp2_with fail
      refine bodyPost_ret (results_cell_row rfl _ _ (w.heap.size+1) 45 #[.int .i64 y,.int .i64 (-1),.slice none 0 0,.bool false] (0,0) _ rfl (heap_alloc2_new _ _ _) Tryz.underlying45 rfl (by kernel_rfl)) rfl ?_
      exact ⟨_,by rw [HE.out],by rw [HE.out]; exact SlI.nil12 _,by rw [HE.out]; simp,BN⟩
  obtain ⟨k,rfl⟩:∃ k:Nat,s=k:=⟨s.toNat,by omega⟩
  have hk:k<l.length:=by omega
  have HE:Hid (rowF l (k:Int)=l[k]):=rowF_in hk
  obtain ⟨_,_,e0,hrws,_⟩:=HL.out _ (Below.refl _ _)
  cases e0
  obtain ⟨b,off,va,vg,rfl,hb,ca0,cg0,hA,hG⟩:=hrws.at (Below.refl _ _) hk
  have ca:=(B0.cell (p:=⟨b,off+k * 2,none⟩) hb).trans ca0
  have HA:Hid (∀ W,Below w.heap.size w W→SlA l[k].acts va W):=fun W hb=>hA.next hb
  obtain ⟨aa,ac,rfl,_,_,_,hab⟩:=hA
  generalize l[k]=r at *
  have HR:Hid (actF l (k:Int) y=(r.acts.find? (fun a=>a.look == y)).getD ⟨y,-1,[],false⟩):=by
    show _=_
    unfold actF; rw [HE.out]
  have c1:decide ((k:Int) ≥ 0)=true:=decide_eq_true (by omega)
  clear hrws hin HE ca0 cg0 hG
  go_wp2_with fail
  clear ca
  go_loopw [8] (fun iv wr=>∃ (j:Nat),iv=.int .i64 j∧j≤r.acts.length∧(∀ k,(hk:k<r.acts.length)→k<j→(r.acts[k].look == y)=false)∧wr=(w.alloc (Obj.cells #[.slice (some ⟨b,off,none⟩) l.length lc] 30)).alloc (Obj.cells #[.int .i64 0,.int .i64 0,.slice none 0 0,.bool false] 45)) (fun i _=>r.acts.length - (intOf i).toNat)
  case atStart=>exact ⟨0,rfl,Nat.zero_le _,fun k _ hk=>by omega,rfl⟩
  case round =>
  obtain ⟨j,rfl,hj,hall,rfl⟩:=hrel
  have HAL:Hid (∀ k,(hk:k<r.acts.length)→k<j→(r.acts[k].look == y)=false):=hall
  clear hall
  by_cases hlt:j<r.acts.length
  case neg =>
    have HN:Hid (actF l (k:Int) y=⟨y,-1,[],false⟩):=by
      show _=_
      rw [HR.out,find_none _ (fun q hq=>HAL.out q hq (by omega))]; rfl
    clear HR HAL HA
    go_wp2_with fail
    refine bodyPost_ret (results_cell_row rfl _ _ (w.heap.size+1) 45 #[.int .i64 y,.int .i64 (-1),.slice none 0 0,.bool false] (0,0) _ rfl (heap_alloc2_new _ _ _) Tryz.underlying45 rfl (by kernel_rfl)) rfl ?_
    exact ⟨_,by rw [HN.out],by rw [HN.out]; exact SlI.nil12 _,by rw [HN.out]; simp,BN⟩
  obtain ⟨_,_,e0,hacs,_⟩:=HA.out _ (Below.refl _ w)
  cases e0
  obtain ⟨b2,off2,v2,rfl,hb2,d0',d1',d2',d3',hred,_,_,hrb⟩:=hacs.at (Below.refl _ _) hlt
  have d0:=(B0.cell (p:=⟨b2,off2+j * 4,none⟩) hb2).trans d0'
  have d1:=(B0.cell (p:=⟨b2,off2+j * 4+1,none⟩) hb2).trans d1'
  have d2:=(B0.cell (p:=⟨b2,off2+j * 4+2,none⟩) hb2).trans d2'
  have d3:=(B0.cell (p:=⟨b2,off2+j * 4+3,none⟩) hb2).trans d3'
  clear d0' d1' d2' d3'
  have HA2:Hid ((r.acts[j].look == y)=false→∀ k,(hk:k<r.acts.length)→k<j+1→(r.acts[k].look == y)=false):=fun he q hq hqj=>by
    rcases Nat.lt_or_ge q j with h | h
    · exact HAL.out q hq h
    · obtain rfl:q=j:=by omega
      exact he
  have HN:Hid (r.acts[j].look=y→actF l (k:Int) y=r.acts[j]):=fun he=>by
    rw [HR.out,find_take _ hlt HAL.out (by simpa using he)]; rfl
  have HRD:Hid (∀ W,Below w.heap.size w W→SlI r.acts[j].red v2 W):=fun W hb=>hred.next hb
  generalize r.acts[j]=x at *
  obtain ⟨da,dc,rfl,_⟩:=hred
  have BX:Below w.heap.size w ((w.alloc (Obj.cells #[.slice (some ⟨b,off,none⟩) l.length lc] 30)).alloc (Obj.cells #[.int .i64 x.look,.int .i64 x.to,.slice da x.red.length dc,.bool x.acc] 45)):=((Below.refl _ _).alloc (Nat.le_refl _) _).alloc (by simp) _
  clear HR HAL hacs HA
  by_cases he:x.look=y
  · have HN2:Hid (actF l (k:Int) y=x):=HN.out he
    have he':(x.look == y)=true:=by simpa using he
    rw [he] at BX
    have HLK:Hid (x.look=y):=he
    clear HN HA2
    go_wp2_with fail
    refine bodyPost_ret (results_cell_row rfl _ _ (w.heap.size+1) 45 #[.int .i64 y,.int .i64 x.to,.slice da x.red.length dc,.bool x.acc] (0,0) _ rfl (heap_alloc2_new _ _ _) Tryz.underlying45 rfl (by kernel_rfl)) rfl ?_
    exact ⟨_,by rw [HN2.out,HLK.out],by rw [HN2.out]; exact HRD.out _ BX,by rw [HN2.out]; exact hrb,BX⟩
  · have he':(x.look == y)=false:=by simpa using he
    have HA3:Hid (∀ k,(hk:k<r.acts.length)→k<j+1→(r.acts[k].look == y)=false):=HA2.out he'
    clear HN HA2
    go_wp2_with fail
    exact ⟨⟨j+1,by go_num,by omega,HA3.out,trivial⟩,by simp [intOf]; omega⟩
theorem ext_le {α:Type} {l m:List α} (hlen:l.length=m.length) (h:∀ k:Nat,k<l.length→l[k]?=m[k]?):l=m:=by
  apply List.ext_getElem?
  intro k
  rcases Nat.lt_or_ge k l.length with hk | hk
  · exact h k hk
  · rw [List.getElem?_eq_none hk,List.getElem?_eq_none (by omega)]
theorem neqGo (a b c d:Int) (w:World):(binOp .neq 75 (.agg #[.int .i64 a,.int .i64 b]) (.agg #[.int .i64 c,.int .i64 d])).run Tryz.prog w=.ok (.bool (!(a == c && b == d))) w:=by
  have u3:=Tryz.underlying3
  have a3:=Tryz.isAgg3
  have z3:=Tryz.sizeOf3
  have hS:Tryz.prog.underlying 75=some (.struct (Tryz.prog.fieldsOf 75)):=by kernel_rfl
  have hp:Tryz.prog.stoodInHeld 75=false:=by kernel_rfl
  rw [run_neq_struct,show (10000:Nat)=9999+1 from rfl,run_equalIn_agg w 9999 75 _ _ hS hp]
  simp only [Program.fieldsOf,Tryz.underlying75]
  go_simp
  by_cases h1:a=c <;> by_cases h2:b=d <;> simp [h1,h2]
set_option maxRecDepth 100000 in
set_option maxHeartbeats 4000000 in
theorem rsame12_any (l m:List Rw) (u v:Value) (w:World) (hl:SlW l u w) (hm:SlW m v w) :
    Calls Tryz.prog 14 #[.agg #[u],.agg #[v]] w fun e w'=>e=.returned (.bool (decide (l=m)))∧Below w.heap.size w w':=by
  have HSA:Hid (∀ (a b:Ac) (u v:Value) W,SlI a.red u W→SlI b.red v W→a.red.length≤140737488351232→Calls Tryz.prog 39 #[.agg #[.int .i64 a.look,.int .i64 a.to,u,.bool a.acc],.agg #[.int .i64 b.look,.int .i64 b.to,v,.bool b.acc]] W fun e w'=>e=.returned (.bool (decide (a=b)))∧Below W.heap.size W w'):=fun a b u v W h1 h2 h3=>rsameAct_any a b u v W h1 h2 h3
  have HL:Hid (SlW l u w∧SlW m v w):=⟨hl,hm⟩
  obtain ⟨la,lc,rfl,_,_,_,hlb⟩:=hl
  obtain ⟨ma,mc,rfl,_,_,_,hmb⟩:=hm
  have B0:Below w.heap.size w ((w.alloc (Obj.cells #[.slice la l.length lc] 30)).alloc (Obj.cells #[.slice ma m.length mc] 30)):=((Below.refl _ _).alloc (Nat.le_refl _) _).alloc (by simp) _
  have t0:((w.alloc (Obj.cells #[.slice la l.length lc] 30)).alloc (Obj.cells #[.slice ma m.length mc] 30)).cell? ⟨w.heap.size,0,none⟩=some (.slice la l.length lc):=by simp
  have t1:((w.alloc (Obj.cells #[.slice la l.length lc] 30)).alloc (Obj.cells #[.slice ma m.length mc] 30)).cell? ⟨w.heap.size+1,0,none⟩=some (.slice ma m.length mc):=by simp
  have hs2:((w.alloc (Obj.cells #[.slice la l.length lc] 30)).alloc (Obj.cells #[.slice ma m.length mc] 30)).heap.size=w.heap.size+2:=by simp
  go_enter Tryz.func14,Tryz.ntmps14
  go_upto_region 1 with fail
  generalize (w.alloc (Obj.cells #[.slice la l.length lc] 30)).alloc (Obj.cells #[.slice ma m.length mc] 30)=w0 at *
  by_cases e2:l.length=m.length
  case neg =>
    have HE:Hid (decide (l=m)=false):=decide_eq_false (fun h=>e2 (by rw [h]))
    have e2':((l.length:Int) != (m.length:Int))=true:=by simp; omega
    have e2'':¬ (l.length:Int)=(m.length:Int):=by omega
    go_wp2_with fail
    go_ret
    exact ⟨by rw [HE.out]; rfl,B0⟩
  have HEQ:Hid ((∀ k:Nat,k<l.length→l[k]?=m[k]?)→decide (l=m)=true):=fun h=>decide_eq_true (ext_le e2 h)
  have HNE:Hid (∀ k:Nat,l[k]?≠m[k]?→decide (l=m)=false):=fun k h=>decide_eq_false (fun e=>h (by rw [e]))
  have HT:Hid (∀ W,Below w0.heap.size w0 W→(W.cell? ⟨w.heap.size,0,none⟩=some (.slice la l.length lc)∧W.cell? ⟨w.heap.size+1,0,none⟩=some (.slice ma m.length mc))∧Below w.heap.size w W):=fun W hb=>⟨⟨(hb.cell (p:=⟨w.heap.size,0,none⟩) (by simp only; omega)).trans t0,(hb.cell (p:=⟨w.heap.size+1,0,none⟩) (by simp only; omega)).trans t1⟩,below_then B0 hb B0.size⟩
  have e2':((l.length:Int) != (m.length:Int))=false:=by simp; omega
  have e2'':(l.length:Int)=(m.length:Int):=by omega
  go_wp2_with fail
  have HLE:Hid (l.length=m.length):=e2
  clear t0 t1 e2' e2'' e2
  go_loopw [5] (fun iv wr=>∃ (i:Nat),iv=.int .i64 i∧i≤l.length∧(∀ k:Nat,k<i→l[k]?=m[k]?)∧Below w0.heap.size w0 wr) (fun i _=>l.length - (intOf i).toNat)
  case atStart=>exact ⟨0,rfl,Nat.zero_le _,fun k hk=>by omega,Below.refl _ _⟩
  case round =>
  obtain ⟨i,rfl,hi,hall,BR⟩:=hrel
  have HAL:Hid (∀ k:Nat,k<i→l[k]?=m[k]?):=hall
  clear hall
  obtain ⟨⟨t0,t1⟩,BW⟩:=HT.out _ BR
  by_cases hlt:i<l.length
  case neg =>
    obtain rfl:i=l.length:=by omega
    have HE:Hid (decide (l=m)=true):=HEQ.out HAL.out
    clear HEQ HNE
    go_wp2_with fail
    go_ret
    exact ⟨by rw [HE.out]; rfl,BW⟩
  have hlt2:i<m.length:=by have:=HLE.out; omega
  obtain ⟨⟨_,_,e0,hrl,_⟩,⟨_,_,e1,hrm,_⟩⟩:=HL.out
  cases e0
  cases e1
  obtain ⟨b,off,va,vg,rfl,hb,ca,cg,hA,hG⟩:=hrl.at BW hlt
  obtain ⟨b',off',va',vg',rfl,hb',ca',cg',hA',hG'⟩:=hrm.at BW hlt2
  have HX1:Hid (l[i]?=some l[i]∧m[i]?=some m[i]):=by constructor <;> simp
  generalize l[i]=x at *
  generalize m[i]=z at *
  have HAX:Hid (∀ W,Below wr.heap.size wr W→(SlA x.acts va W∧SlA z.acts va' W)∧SlG x.goes vg W∧SlG z.goes vg' W):=fun W hb=>⟨⟨hA.next hb,hA'.next hb⟩,hG.next hb,hG'.next hb⟩
  obtain ⟨aa,ac,rfl,_,_,_,hab⟩:=hA
  obtain ⟨ga,gc,rfl,_,_,_,hgb⟩:=hG
  obtain ⟨ba,bc,rfl,_⟩:=hA'
  obtain ⟨ha,hc,rfl,_⟩:=hG'
  have HNX:Hid (x≠z→decide (l=m)=false):=fun h=>HNE.out i (by rw [HX1.out.1,HX1.out.2]; simpa using h)
  have HAN:Hid (x=z→∀ k:Nat,k<i+1→l[k]?=m[k]?):=fun h k hk=>by
    rcases Nat.lt_or_ge k i with h' | h'
    · exact HAL.out k h'
    · obtain rfl:k=i:=by omega
      rw [HX1.out.1,HX1.out.2,h]
  have BX:Below w0.heap.size w0 ((wr.alloc (Obj.cells #[.slice aa x.acts.length ac,.slice ga x.goes.length gc] 68)).alloc (Obj.cells #[.slice ba z.acts.length bc,.slice ha z.goes.length hc] 68)):=(BR.alloc BR.size _).alloc (by have:=BR.size; simp; omega) _
  have bx:Below wr.heap.size wr ((wr.alloc (Obj.cells #[.slice aa x.acts.length ac,.slice ga x.goes.length gc] 68)).alloc (Obj.cells #[.slice ba z.acts.length bc,.slice ha z.goes.length hc] 68)):=((Below.refl _ _).alloc (Nat.le_refl _) _).alloc (by simp) _
  have x0:((wr.alloc (Obj.cells #[.slice aa x.acts.length ac,.slice ga x.goes.length gc] 68)).alloc (Obj.cells #[.slice ba z.acts.length bc,.slice ha z.goes.length hc] 68)).cell? ⟨wr.heap.size,0,none⟩=some (.slice aa x.acts.length ac):=by simp
  have x1:((wr.alloc (Obj.cells #[.slice aa x.acts.length ac,.slice ga x.goes.length gc] 68)).alloc (Obj.cells #[.slice ba z.acts.length bc,.slice ha z.goes.length hc] 68)).cell? ⟨wr.heap.size,1,none⟩=some (.slice ga x.goes.length gc):=by simp
  have y0:((wr.alloc (Obj.cells #[.slice aa x.acts.length ac,.slice ga x.goes.length gc] 68)).alloc (Obj.cells #[.slice ba z.acts.length bc,.slice ha z.goes.length hc] 68)).cell? ⟨wr.heap.size+1,0,none⟩=some (.slice ba z.acts.length bc):=by simp
  have y1:((wr.alloc (Obj.cells #[.slice aa x.acts.length ac,.slice ga x.goes.length gc] 68)).alloc (Obj.cells #[.slice ba z.acts.length bc,.slice ha z.goes.length hc] 68)).cell? ⟨wr.heap.size+1,1,none⟩=some (.slice ha z.goes.length hc):=by simp
  have hsx:((wr.alloc (Obj.cells #[.slice aa x.acts.length ac,.slice ga x.goes.length gc] 68)).alloc (Obj.cells #[.slice ba z.acts.length bc,.slice ha z.goes.length hc] 68)).heap.size=wr.heap.size+2:=by simp
  have bx1:Below wr.heap.size wr (wr.alloc (Obj.cells #[.slice aa x.acts.length ac,.slice ga x.goes.length gc] 68)):=(Below.refl _ _).alloc (Nat.le_refl _) _
  have hw1:w.heap.size+1<wr.heap.size:=by have:=BR.size; omega
  have t1':=(bx1.cell (p:=⟨w.heap.size+1,0,none⟩) hw1).trans t1
  have ca'':=(bx1.cell (p:=⟨b',off'+i * 2,none⟩) hb').trans ca'
  have cg'':=(bx1.cell (p:=⟨b',off'+i * 2+1,none⟩) hb').trans cg'
  clear hrl hrm HX1 HAL HEQ HNE bx1
  go_upto_region 8 with fail
  clear ca cg ca' cg' t0 t1 t1' ca'' cg'' hw1
  have HAY:Hid (∀ W,Below ((wr.alloc (Obj.cells #[.slice aa x.acts.length ac,.slice ga x.goes.length gc] 68)).alloc (Obj.cells #[.slice ba z.acts.length bc,.slice ha z.goes.length hc] 68)).heap.size ((wr.alloc (Obj.cells #[.slice aa x.acts.length ac,.slice ga x.goes.length gc] 68)).alloc (Obj.cells #[.slice ba z.acts.length bc,.slice ha z.goes.length hc] 68)) W→(SlA x.acts (.slice aa x.acts.length ac) W∧SlA z.acts (.slice ba z.acts.length bc) W)∧SlG x.goes (.slice ga x.goes.length gc) W∧SlG z.goes (.slice ha z.goes.length hc) W):=fun W hb=>HAX.out W (below_then bx hb bx.size)
  clear HAX bx
  generalize (wr.alloc (Obj.cells #[.slice aa x.acts.length ac,.slice ga x.goes.length gc] 68)).alloc (Obj.cells #[.slice ba z.acts.length bc,.slice ha z.goes.length hc] 68)=w2 at *
  generalize wr.heap.size=P at *
  have HS:Hid (∀ W,Below w2.heap.size w2 W→(W.cell? ⟨P,0,none⟩=some (.slice aa x.acts.length ac)∧W.cell? ⟨P,1,none⟩=some (.slice ga x.goes.length gc)∧W.cell? ⟨P+1,0,none⟩=some (.slice ba z.acts.length bc)∧W.cell? ⟨P+1,1,none⟩=some (.slice ha z.goes.length hc))):=fun W hb=>⟨(hb.cell (p:=⟨P,0,none⟩) (by simp only; omega)).trans x0,(hb.cell (p:=⟨P,1,none⟩) (by simp only; omega)).trans x1,(hb.cell (p:=⟨P+1,0,none⟩) (by simp only; omega)).trans y0,(hb.cell (p:=⟨P+1,1,none⟩) (by simp only; omega)).trans y1⟩
  have HBX:Hid (∀ W,Below w2.heap.size w2 W→Below w0.heap.size w0 W∧Below w.heap.size w W):=fun W hb=>⟨below_then BX hb BX.size,(HT.out _ (below_then BX hb BX.size)).2⟩
  clear BX BR BW
  by_cases f1:x.acts.length=z.acts.length
  case neg =>
    have HE:Hid (decide (l=m)=false):=HNX.out (fun h=>f1 (by rw [h]))
    have f1':((x.acts.length:Int) != (z.acts.length:Int))=true:=by simp; omega
    have f1'':¬ (x.acts.length:Int)=(z.acts.length:Int):=by omega
    clear HNX HAN
    go_wp2_with fail
    go_ret
    exact ⟨by rw [HE.out]; rfl,(HBX.out _ (Below.refl _ _)).2⟩
  have f1':((x.acts.length:Int) != (z.acts.length:Int))=false:=by simp; omega
  have f1'':(x.acts.length:Int)=(z.acts.length:Int):=by omega
  by_cases f2:x.goes.length=z.goes.length
  case neg =>
    have HE:Hid (decide (l=m)=false):=HNX.out (fun h=>f2 (by rw [h]))
    have f2':((x.goes.length:Int) != (z.goes.length:Int))=true:=by simp; omega
    have f2'':¬ (x.goes.length:Int)=(z.goes.length:Int):=by omega
    clear HNX HAN
    go_wp2_with fail
    go_ret
    exact ⟨by rw [HE.out]; rfl,(HBX.out _ (Below.refl _ _)).2⟩
  have f2':((x.goes.length:Int) != (z.goes.length:Int))=false:=by simp; omega
  have f2'':(x.goes.length:Int)=(z.goes.length:Int):=by omega
  have HNA:Hid (∀ k:Nat,x.acts[k]?≠z.acts[k]?→decide (l=m)=false):=fun k h=>HNX.out (fun e=>h (by rw [e]))
  have HNG:Hid (∀ k:Nat,x.goes[k]?≠z.goes[k]?→decide (l=m)=false):=fun k h=>HNX.out (fun e=>h (by rw [e]))
  have HEX:Hid ((∀ k:Nat,k<x.acts.length→x.acts[k]?=z.acts[k]?)→(∀ k:Nat,k<x.goes.length→x.goes[k]?=z.goes[k]?)→∀ k:Nat,k<i+1→l[k]?=m[k]?):=fun h1 h2=>HAN.out (by
    obtain ⟨xa,xg⟩:=x
    obtain ⟨za,zg⟩:=z
    rw [show xa=za from ext_le f1 h1,show xg=zg from ext_le f2 h2])
  clear HNX HAN
  go_wp2_with fail
  have HF1:Hid (x.acts.length=z.acts.length):=f1
  have HF2:Hid (x.goes.length=z.goes.length):=f2
  clear x0 x1 y0 y1 f1' f1'' f2' f2'' f1 f2
  go_loopw [8] (fun iv wr=>∃ (j:Nat),iv=.int .i64 j∧j≤x.acts.length∧(∀ k:Nat,k<j→x.acts[k]?=z.acts[k]?)∧Below w2.heap.size w2 wr) (fun i _=>x.acts.length - (intOf i).toNat)
  case atStart=>exact ⟨0,rfl,Nat.zero_le _,fun k hk=>by omega,Below.refl _ _⟩
  case round =>
  obtain ⟨j,rfl,hj,hall,BK⟩:=hrel
  have HAL:Hid (∀ k:Nat,k<j→x.acts[k]?=z.acts[k]?):=hall
  clear hall
  obtain ⟨x0,x1,y0,y1⟩:=HS.out _ BK
  by_cases hjl:j<x.acts.length
  case neg =>
    obtain rfl:j=x.acts.length:=by omega
    have HAA:Hid (∀ k:Nat,k<x.acts.length→x.acts[k]?=z.acts[k]?):=HAL.out
    clear HAL
    have HSK:Hid (∀ W,Below wr.heap.size wr W→(W.cell? ⟨P,0,none⟩=some (.slice aa x.acts.length ac)∧W.cell? ⟨P,1,none⟩=some (.slice ga x.goes.length gc)∧W.cell? ⟨P+1,0,none⟩=some (.slice ba z.acts.length bc)∧W.cell? ⟨P+1,1,none⟩=some (.slice ha z.goes.length hc))):=fun W hb=>HS.out W (below_then BK hb BK.size)
    have HAK:Hid (∀ W,Below wr.heap.size wr W→SlG x.goes (.slice ga x.goes.length gc) W∧SlG z.goes (.slice ha z.goes.length hc) W):=fun W hb=>(HAY.out W (below_then BK hb BK.size)).2
    have HBK:Hid (∀ W,Below wr.heap.size wr W→Below w0.heap.size w0 W∧Below w.heap.size w W):=fun W hb=>HBX.out W (below_then BK hb BK.size)
    generalize wr=w5 at *
    go_wp2_with fail
    clear x0 x1 y0 y1
    go_loopw [9] (fun iv wr=>∃ (j:Nat),iv=.int .i64 j∧j≤x.goes.length∧(∀ k:Nat,k<j→x.goes[k]?=z.goes[k]?)∧Below w5.heap.size w5 wr) (fun i _=>x.goes.length - (intOf i).toNat)
    case atStart=>exact ⟨0,rfl,Nat.zero_le _,fun k hk=>by omega,Below.refl _ _⟩
    case round =>
    obtain ⟨j,rfl,hj,hall,BG⟩:=hrel
    have HAL:Hid (∀ k:Nat,k<j→x.goes[k]?=z.goes[k]?):=hall
    clear hall
    obtain ⟨x0,x1,y0,y1⟩:=HSK.out _ BG
    by_cases hjl:j<x.goes.length
    case neg =>
      obtain rfl:j=x.goes.length:=by omega
      have HEN:Hid (∀ k:Nat,k<i+1→l[k]?=m[k]?):=HEX.out HAA.out HAL.out
      clear HEX HNA HNG HAA HAL
      go_wp2_with fail
      exact ⟨⟨i+1,by go_num,by omega,HEN.out,(HBK.out _ BG).1⟩,by simp [intOf]; omega⟩
    obtain ⟨⟨_,_,e0,hxa,_⟩,⟨_,_,e1,hza,_⟩⟩:=HAK.out _ BG
    cases e0
    cases e1
    have hjl2:j<z.goes.length:=by have:=HF2.out; omega
    obtain ⟨b2,o2,rfl,hb2,p0,p1,_⟩:=hxa.at (Below.refl _ _) hjl
    obtain ⟨b3,o3,rfl,hb3,q0,q1,_⟩:=hza.at (Below.refl _ _) hjl2
    have HX1:Hid (x.goes[j]?=some x.goes[j]∧z.goes[j]?=some z.goes[j]):=by constructor <;> simp
    generalize x.goes[j]=p at *
    generalize z.goes[j]=q at *
    clear hxa hza
    have HSD:Hid (∀ W,Below wr.heap.size wr W→((W.cell? ⟨P,1,none⟩=some (.slice (some ⟨b2,o2,none⟩) x.goes.length gc)∧W.cell? ⟨P+1,1,none⟩=some (.slice (some ⟨b3,o3,none⟩) z.goes.length hc))∧(W.cell? ⟨b2,o2+j * 2,none⟩=some (.int .i64 p.1)∧W.cell? ⟨b2,o2+j * 2+1,none⟩=some (.int .i64 p.2))∧(W.cell? ⟨b3,o3+j * 2,none⟩=some (.int .i64 q.1)∧W.cell? ⟨b3,o3+j * 2+1,none⟩=some (.int .i64 q.2)))):=fun W hb=>⟨⟨(HSK.out _ (below_then BG hb BG.size)).2.1,(HSK.out _ (below_then BG hb BG.size)).2.2.2⟩,⟨(hb.cell (p:=⟨b2,o2+j * 2,none⟩) hb2).trans p0,(hb.cell (p:=⟨b2,o2+j * 2+1,none⟩) hb2).trans p1⟩,⟨(hb.cell (p:=⟨b3,o3+j * 2,none⟩) hb3).trans q0,(hb.cell (p:=⟨b3,o3+j * 2+1,none⟩) hb3).trans q1⟩⟩
    have hS0:=HSD.out _ (Below.refl _ wr).drew
    clear p0 p1 q0 q1
    go_wp2_with fail
    have hnq:=neqGo p.1 p.2 q.1 q.2
    obtain ⟨p1,p2⟩:=p
    obtain ⟨q1,q2⟩:=q
    simp only at *
    by_cases hpq:p1=q1∧p2=q2
    · obtain ⟨rfl,rfl⟩:=hpq
      have HA2:Hid (∀ k:Nat,k<j+1→x.goes[k]?=z.goes[k]?):=fun k hk=>by
        rcases Nat.lt_or_ge k j with h | h
        · exact HAL.out k h
        · obtain rfl:k=j:=by omega
          rw [HX1.out.1,HX1.out.2]
      have hnq2:∀ W:World,(binOp .neq 75 (.agg #[.int .i64 p1,.int .i64 p2]) (.agg #[.int .i64 p1,.int .i64 p2])).run Tryz.prog W=.ok (.bool false) W:=fun W=>by rw [hnq W]; simp
      clear hnq HX1 HAL
      refine wp_region_L (fun W=>(W.cell? ⟨P,1,none⟩=some (.slice (some ⟨b2,o2,none⟩) x.goes.length gc)∧W.cell? ⟨P+1,1,none⟩=some (.slice (some ⟨b3,o3,none⟩) z.goes.length hc))∧(W.cell? ⟨b2,o2+j * 2,none⟩=some (.int .i64 p1)∧W.cell? ⟨b2,o2+j * 2+1,none⟩=some (.int .i64 p2))∧(W.cell? ⟨b3,o3+j * 2,none⟩=some (.int .i64 p1)∧W.cell? ⟨b3,o3+j * 2+1,none⟩=some (.int .i64 p2))) 11 (by kernel_rfl) 11 rfl ?_
      refine tk 0 ⟨some 76,.fieldAddr 68 (.tmp 6) 1,0, "ref.go:91",#[],none⟩ hS0 ?_;simp only [Act.put,sA,s0,sS]
      refine tk 1 ⟨some 77,.load 66 (.tmp 76),66, "ref.go:91",#[⟨0,.data⟩],none⟩ hS0 ?_;simp only [Act.put,sA,s0,sS]
      refine tk 2 ⟨some 78,.move (.tmp 9),3, "ref.go:91",#[],none⟩ hS0 ?_;simp only [Act.put,sA,s0,sS]
      refine tk 3 ⟨some 79,.indexAddr 66 (.tmp 77) (.tmp 78),0, "ref.go:91",#[⟨1,.data⟩,⟨2,.data⟩],none⟩ hS0 ?_;simp only [Act.put,sA,s0,sS]
      refine tk 4 ⟨some 80,.load 75 (.tmp 79),75, "ref.go:91",#[⟨3,.data⟩],none⟩ hS0 ?_;simp only [Act.put,sA,s0,sS]
      refine tk 5 ⟨some 81,.fieldAddr 68 (.tmp 7) 1,0, "ref.go:91",#[],none⟩ hS0 ?_;simp only [Act.put,sA,s0,sS]
      refine tk 6 ⟨some 82,.load 66 (.tmp 81),66, "ref.go:91",#[⟨5,.data⟩],none⟩ hS0 ?_;simp only [Act.put,sA,s0,sS]
      refine tk 7 ⟨some 83,.move (.tmp 9),3, "ref.go:91",#[],none⟩ hS0 ?_;simp only [Act.put,sA,s0,sS]
      refine tk 8 ⟨some 84,.indexAddr 66 (.tmp 82) (.tmp 83),0, "ref.go:91",#[⟨6,.data⟩,⟨7,.data⟩],none⟩ hS0 ?_;simp only [Act.put,sA,s0,sS]
      refine tk 9 ⟨some 85,.load 75 (.tmp 84),75, "ref.go:91",#[⟨8,.data⟩],none⟩ hS0 ?_;simp only [Act.put,sA,s0,sS]
      refine tk 10 ⟨some 86,.binOp .neq 75 (.tmp 80) (.tmp 85) 75,4, "ref.go:91",#[⟨4,.data⟩,⟨9,.data⟩],none⟩ hS0 ?_;simp only [Act.put,sA,s0,sS]
      refine wpAnyL_done (by kernel_rfl) ?_ _
      clear hS0 HSD hnq2
      go_wp2_with fail
      exact ⟨⟨j+1,by go_num,by omega,HA2.out,BG.drew⟩,by simp [intOf]; omega⟩
    · have HE:Hid (decide (l=m)=false):=HNG.out j (by rw [HX1.out.1,HX1.out.2]; simpa using hpq)
      have hnq2:∀ W:World,(binOp .neq 75 (.agg #[.int .i64 p1,.int .i64 p2]) (.agg #[.int .i64 q1,.int .i64 q2])).run Tryz.prog W=.ok (.bool true) W:=fun W=>by
        rw [hnq W]
        have:(p1 == q1 && p2 == q2)=false:=by
          cases h:(p1 == q1 && p2 == q2)
          · rfl
          · exact absurd (by simpa using h) hpq
        rw [this]; rfl
      clear hnq HX1 HAL hpq
      refine wp_region_L (fun W=>(W.cell? ⟨P,1,none⟩=some (.slice (some ⟨b2,o2,none⟩) x.goes.length gc)∧W.cell? ⟨P+1,1,none⟩=some (.slice (some ⟨b3,o3,none⟩) z.goes.length hc))∧(W.cell? ⟨b2,o2+j * 2,none⟩=some (.int .i64 p1)∧W.cell? ⟨b2,o2+j * 2+1,none⟩=some (.int .i64 p2))∧(W.cell? ⟨b3,o3+j * 2,none⟩=some (.int .i64 q1)∧W.cell? ⟨b3,o3+j * 2+1,none⟩=some (.int .i64 q2))) 11 (by kernel_rfl) 11 rfl ?_
      refine tk 0 ⟨some 76,.fieldAddr 68 (.tmp 6) 1,0, "ref.go:91",#[],none⟩ hS0 ?_;simp only [Act.put,sA,s0,sS]
      refine tk 1 ⟨some 77,.load 66 (.tmp 76),66, "ref.go:91",#[⟨0,.data⟩],none⟩ hS0 ?_;simp only [Act.put,sA,s0,sS]
      refine tk 2 ⟨some 78,.move (.tmp 9),3, "ref.go:91",#[],none⟩ hS0 ?_;simp only [Act.put,sA,s0,sS]
      refine tk 3 ⟨some 79,.indexAddr 66 (.tmp 77) (.tmp 78),0, "ref.go:91",#[⟨1,.data⟩,⟨2,.data⟩],none⟩ hS0 ?_;simp only [Act.put,sA,s0,sS]
      refine tk 4 ⟨some 80,.load 75 (.tmp 79),75, "ref.go:91",#[⟨3,.data⟩],none⟩ hS0 ?_;simp only [Act.put,sA,s0,sS]
      refine tk 5 ⟨some 81,.fieldAddr 68 (.tmp 7) 1,0, "ref.go:91",#[],none⟩ hS0 ?_;simp only [Act.put,sA,s0,sS]
      refine tk 6 ⟨some 82,.load 66 (.tmp 81),66, "ref.go:91",#[⟨5,.data⟩],none⟩ hS0 ?_;simp only [Act.put,sA,s0,sS]
      refine tk 7 ⟨some 83,.move (.tmp 9),3, "ref.go:91",#[],none⟩ hS0 ?_;simp only [Act.put,sA,s0,sS]
      refine tk 8 ⟨some 84,.indexAddr 66 (.tmp 82) (.tmp 83),0, "ref.go:91",#[⟨6,.data⟩,⟨7,.data⟩],none⟩ hS0 ?_;simp only [Act.put,sA,s0,sS]
      refine tk 9 ⟨some 85,.load 75 (.tmp 84),75, "ref.go:91",#[⟨8,.data⟩],none⟩ hS0 ?_;simp only [Act.put,sA,s0,sS]
      refine tk 10 ⟨some 86,.binOp .neq 75 (.tmp 80) (.tmp 85) 75,4, "ref.go:91",#[⟨4,.data⟩,⟨9,.data⟩],none⟩ hS0 ?_;simp only [Act.put,sA,s0,sS]
      refine wpAnyL_done (by kernel_rfl) ?_ _
      clear hS0 HSD hnq2
      go_wp2_with fail
      go_ret
      exact ⟨by rw [HE.out]; rfl,(HBK.out _ BG.drew).2⟩
  obtain ⟨⟨⟨_,_,e0,hxa,_⟩,⟨_,_,e1,hza,_⟩⟩,_⟩:=HAY.out _ BK
  cases e0
  cases e1
  have hjl2:j<z.acts.length:=by have:=HF1.out; omega
  obtain ⟨b2,o2,pv,rfl,hb2,p0,p1,p2,p3,hpr,_,_,hpb⟩:=hxa.at (Below.refl _ _) hjl
  obtain ⟨b3,o3,qv,rfl,hb3,q0,q1,q2,q3,hqr,_⟩:=hza.at (Below.refl _ _) hjl2
  have HX1:Hid (x.acts[j]?=some x.acts[j]∧z.acts[j]?=some z.acts[j]):=by constructor <;> simp
  generalize x.acts[j]=p at *
  generalize z.acts[j]=q at *
  have HCA:=HSA.out p q pv qv wr.drew (hpr.next (Below.refl _ _).drew) (hqr.next (Below.refl _ _).drew) hpb
  obtain ⟨pa,pc,rfl,_⟩:=hpr
  obtain ⟨qa,qc,rfl,_⟩:=hqr
  have HSD:Hid (∀ W,Below wr.heap.size wr W→((W.cell? ⟨P,0,none⟩=some (.slice (some ⟨b2,o2,none⟩) x.acts.length ac)∧W.cell? ⟨P+1,0,none⟩=some (.slice (some ⟨b3,o3,none⟩) z.acts.length bc))∧(W.cell? ⟨b2,o2+j * 4,none⟩=some (.int .i64 p.look)∧W.cell? ⟨b2,o2+j * 4+1,none⟩=some (.int .i64 p.to)∧W.cell? ⟨b2,o2+j * 4+2,none⟩=some (.slice pa p.red.length pc)∧W.cell? ⟨b2,o2+j * 4+3,none⟩=some (.bool p.acc))∧(W.cell? ⟨b3,o3+j * 4,none⟩=some (.int .i64 q.look)∧W.cell? ⟨b3,o3+j * 4+1,none⟩=some (.int .i64 q.to)∧W.cell? ⟨b3,o3+j * 4+2,none⟩=some (.slice qa q.red.length qc)∧W.cell? ⟨b3,o3+j * 4+3,none⟩=some (.bool q.acc)))):=fun W hb=>⟨⟨(HS.out _ (below_then BK hb BK.size)).1,(HS.out _ (below_then BK hb BK.size)).2.2.1⟩,⟨(hb.cell (p:=⟨b2,o2+j * 4,none⟩) hb2).trans p0,(hb.cell (p:=⟨b2,o2+j * 4+1,none⟩) hb2).trans p1,(hb.cell (p:=⟨b2,o2+j * 4+2,none⟩) hb2).trans p2,(hb.cell (p:=⟨b2,o2+j * 4+3,none⟩) hb2).trans p3⟩,⟨(hb.cell (p:=⟨b3,o3+j * 4,none⟩) hb3).trans q0,(hb.cell (p:=⟨b3,o3+j * 4+1,none⟩) hb3).trans q1,(hb.cell (p:=⟨b3,o3+j * 4+2,none⟩) hb3).trans q2,(hb.cell (p:=⟨b3,o3+j * 4+3,none⟩) hb3).trans q3⟩⟩
  have hS0:=HSD.out _ (Below.refl _ wr).drew
  clear hxa hza p0 p1 p2 p3 q0 q1 q2 q3
  go_wp2_with fail
  refine wp_region_L (fun W=>(W.cell? ⟨P,0,none⟩=some (.slice (some ⟨b2,o2,none⟩) x.acts.length ac)∧W.cell? ⟨P+1,0,none⟩=some (.slice (some ⟨b3,o3,none⟩) z.acts.length bc))∧(W.cell? ⟨b2,o2+j * 4,none⟩=some (.int .i64 p.look)∧W.cell? ⟨b2,o2+j * 4+1,none⟩=some (.int .i64 p.to)∧W.cell? ⟨b2,o2+j * 4+2,none⟩=some (.slice pa p.red.length pc)∧W.cell? ⟨b2,o2+j * 4+3,none⟩=some (.bool p.acc))∧(W.cell? ⟨b3,o3+j * 4,none⟩=some (.int .i64 q.look)∧W.cell? ⟨b3,o3+j * 4+1,none⟩=some (.int .i64 q.to)∧W.cell? ⟨b3,o3+j * 4+2,none⟩=some (.slice qa q.red.length qc)∧W.cell? ⟨b3,o3+j * 4+3,none⟩=some (.bool q.acc))) 12 (by kernel_rfl) 12 rfl ?_
  refine tk 0 ⟨some 57,.fieldAddr 68 (.tmp 6) 0,0, "ref.go:86",#[],none⟩ hS0 ?_;simp only [Act.put,sA,s0,sS]
  refine tk 1 ⟨some 58,.load 65 (.tmp 57),65, "ref.go:86",#[⟨0,.data⟩],none⟩ hS0 ?_;simp only [Act.put,sA,s0,sS]
  refine tk 2 ⟨some 59,.move (.tmp 8),3, "ref.go:86",#[],none⟩ hS0 ?_;simp only [Act.put,sA,s0,sS]
  refine tk 3 ⟨some 60,.indexAddr 65 (.tmp 58) (.tmp 59),0, "ref.go:86",#[⟨1,.data⟩,⟨2,.data⟩],none⟩ hS0 ?_;simp only [Act.put,sA,s0,sS]
  refine tk 4 ⟨some 61,.load 45 (.tmp 60),45, "ref.go:86",#[⟨3,.data⟩],none⟩ hS0 ?_;simp only [Act.put,sA,s0,sS]
  refine tk 5 ⟨some 62,.fieldAddr 68 (.tmp 7) 0,0, "ref.go:86",#[],none⟩ hS0 ?_;simp only [Act.put,sA,s0,sS]
  refine tk 6 ⟨some 63,.load 65 (.tmp 62),65, "ref.go:86",#[⟨5,.data⟩],none⟩ hS0 ?_;simp only [Act.put,sA,s0,sS]
  refine tk 7 ⟨some 64,.move (.tmp 8),3, "ref.go:86",#[],none⟩ hS0 ?_;simp only [Act.put,sA,s0,sS]
  refine tk 8 ⟨some 65,.indexAddr 65 (.tmp 63) (.tmp 64),0, "ref.go:86",#[⟨6,.data⟩,⟨7,.data⟩],none⟩ hS0 ?_;simp only [Act.put,sA,s0,sS]
  refine tk 9 ⟨some 66,.load 45 (.tmp 65),45, "ref.go:86",#[⟨8,.data⟩],none⟩ hS0 ?_;simp only [Act.put,sA,s0,sS]
  refine wpAnyL_one' (i:=10) (o:=⟨some 67,.call ⟨.value (.func 39),#[.tmp 61,.tmp 66],#[45,45]⟩,4, "ref.go:86",#[⟨4,.data⟩,⟨9,.data⟩],none⟩) (by kernel_rfl) rfl rfl (fun KQ hK=>?_)
  go_simp
  refine HCA.mono ?_
  rintro e w6 ⟨rfl,b6⟩
  have B6:=below_then BK.drew b6 (by have:=BK.size; exact this)
  have hS6:=HSD.out _ (below_then (Below.refl _ wr).drew b6 (Nat.le_refl _))
  refine hK.out _ _ (fun _=>hS6) ?_
  clear hK b6
  refine tk 11 ⟨some 68,.unOp .not 4 (.tmp 67),4, "ref.go:86",#[⟨10,.data⟩],none⟩ hS6 ?_;simp only [Act.put,sA,s0,sS]
  refine wpAnyL_done (by kernel_rfl) ?_ _
  clear hS0 hS6 HCA HSD
  by_cases hpq:p=q
  · have HA2:Hid (∀ k:Nat,k<j+1→x.acts[k]?=z.acts[k]?):=fun k hk=>by
      rcases Nat.lt_or_ge k j with h | h
      · exact HAL.out k h
      · obtain rfl:k=j:=by omega
        rw [HX1.out.1,HX1.out.2,hpq]
    have hd:decide (p=q)=true:=decide_eq_true hpq
    rw [hd]
    clear hd hpq HX1 HAL
    go_wp2_with fail
    exact ⟨⟨j+1,by go_num,by omega,HA2.out,B6⟩,by simp [intOf]; omega⟩
  · have HE:Hid (decide (l=m)=false):=HNA.out j (by rw [HX1.out.1,HX1.out.2]; simpa using hpq)
    have hd:decide (p=q)=false:=decide_eq_false hpq
    rw [hd]
    clear hd HX1 HAL hpq
    go_wp2_with fail
    go_ret
    exact ⟨by rw [HE.out]; rfl,(HBX.out _ B6).2⟩
set_option maxRecDepth 100000 in
theorem rSameAct_any (a b:Ac) (u v:Value) (w:World) (hu:SlI a.red u w) (hv:SlI b.red v w) (hbd:a.red.length≤140737488351232) :
    Calls Tryz.prog 19 #[.agg #[.int .i64 a.look,.int .i64 a.to,u,.bool a.acc],.agg #[.int .i64 b.look,.int .i64 b.to,v,.bool b.acc]] w fun e w'=>e=.returned (.bool (decide (a=b)))∧Below w.heap.size w w':=by
  have B0:Below w.heap.size w ((w.alloc (Obj.cells #[.int .i64 a.look,.int .i64 a.to,u,.bool a.acc] 45)).alloc (Obj.cells #[.int .i64 b.look,.int .i64 b.to,v,.bool b.acc] 45)):=((Below.refl _ _).alloc (Nat.le_refl _) _).alloc (by simp) _
  have H:=rsameAct_any a b u v _ (hu.next B0) (hv.next B0) hbd
  obtain ⟨ua,uc,rfl,_⟩:=hu
  obtain ⟨va,vc,rfl,_⟩:=hv
  go_enter Tryz.func19,Tryz.ntmps19
  go_wp2_with fail
  refine H.mono ?_
  rintro e w1 ⟨rfl,b1⟩
  have B1:=below_then B0 b1 B0.size
  clear H b1 B0
  go_wp2_with fail
  go_ret
  exact ⟨rfl,B1⟩
set_option maxRecDepth 100000 in
theorem nothing_any (y:Int) (w:World) :
    Calls Tryz.prog 46 #[.int .i64 y] w fun e w'=>e=.returned (.agg #[.int .i64 y,.int .i64 (-1),.slice none 0 0,.bool false])∧Below w.heap.size w w':=by
  have B0:Below w.heap.size w (w.alloc (Obj.cells #[.int .i64 y,.int .i64 (-1),.slice none 0 0,.bool false] 45)):=(Below.refl _ _).alloc (Nat.le_refl _) _
  go_enter Tryz.func46,Tryz.ntmps46
  go_wp2_with fail
  refine bodyPost_ret (results_cell_row rfl _ _ w.heap.size 45 #[.int .i64 y,.int .i64 (-1),.slice none 0 0,.bool false] (0,0) _ rfl (heap_alloc_new _ _) Tryz.underlying45 rfl (by kernel_rfl)) rfl ?_
  exact ⟨rfl,B0⟩
end Go.Proofs.YtbilbgjojdlobaaGreatDoor
namespace Go.Proofs.YtbilbgjojdlobaaGreatDoor
open Go.RowKit Go.Maps
def heldR (v:Value):Option (DataW Value × List MemPlace):=some (.held v,[])
theorem heldR_inv {v x:Value} {ps:List MemPlace} (h:heldR v=some (.held x,ps)):v=x:=by
  unfold heldR at h
  simp at h
  exact h.1
def acVal (a:Ac) (u:Value):Value:=.agg #[.int .i64 a.look,.int .i64 a.to,u,.bool a.acc]
def OwnI (B:Nat) (l:List Int) (v:Value) (W:World):Prop:=W.ownsRow B 3 1 v l.length (l.map encI)
theorem lawInt:Keyed Tryz.prog 3:=int_keyed Tryz.underlying3
theorem keyInt {t:Int} (h:i64B t):keyOf Tryz.prog 3 (.int .i64 t)=some (.int .i64 t):=keyOf_int_mk Tryz.underlying3 (wf64 h)
structure MapA (B b n:Nat) (G:Int→Option Ac) (U:Int→Value) (W:World):Prop where
  hB:B≤b
  keys:∀ t a,G t=some a→i64B t
  own:∃ D:DataW Value,W.ownsMap Tryz.prog 3 heldR b n D∧(∀ t,i64B t→Maps.has D (.int .i64 t)=(G t).isSome)∧∀ t a,G t=some a→∀ z,D.atKey (.int .i64 t) z=.held (acVal a (U t))
  rows:∀ t a,G t=some a→OwnI B a.red (U t) W
  apart:∀ t t' a a' k,t≠t'→G t=some a→G t'=some a'→(U t).ownBlock=some k→(U t').ownBlock=some k→False
def inA (b:Nat) (G:Int→Option Ac) (U:Int→Value) (k:Nat):Prop:=k=b∨∃ t a,G t=some a∧(U t).ownBlock=some k
theorem MapA.lt {B b n:Nat} {G:Int→Option Ac} {U:Int→Value} {W:World} (h:MapA B b n G U W):b<W.heap.size:=by
  obtain ⟨D,h,_⟩:=h.own; exact h.lt
theorem MapA.inLt {B b n:Nat} {G:Int→Option Ac} {U:Int→Value} {W:World} (h:MapA B b n G U W) {k:Nat} (hk:inA b G U k):B≤k∧k<W.heap.size:=by
  rcases hk with rfl | ⟨t,a,ha,hk⟩
  · exact ⟨h.hB,h.lt⟩
  · exact World.ownsRow.lt (h.rows t a ha) k hk
theorem MapA.keep {B b n:Nat} {G:Int→Option Ac} {U:Int→Value} {W W':World} {D:Nat→Prop} (h:MapA B b n G U W) (hb:But D W W') (hd:∀ k,inA b G U k→¬ D k):MapA B b n G U W':=by
  obtain ⟨M,⟨es,clock,h1,h2⟩,h3⟩:=h.own
  exact ⟨h.hB,h.keys,⟨M,⟨es,clock,(hb.block b h.lt (hd b (.inl rfl))).trans h1,h2⟩,h3⟩,fun t a ha=>ownsRow_keep (h.rows t a ha) hb (fun k hk=>hd k (.inr ⟨t,a,ha,hk⟩)),h.apart⟩
theorem MapA.next {B b n:Nat} {G:Int→Option Ac} {U:Int→Value} {W W':World} (h:MapA B b n G U W) (hb:Below W.heap.size W W'):MapA B b n G U W' :=
  h.keep (D:=fun _=>False) (But.of_next hb) (fun _ _ h=>h)
theorem MapA.made {B:Nat} (W:World) (hB:B≤W.heap.size) (U:Int→Value):MapA B W.heap.size 0 (fun _=>none) U (W.alloc (.map #[] 0)) :=
  ⟨hB,fun _ _ h=>(by cases h),⟨.map [],World.ownsMap_made W _ _ _,fun t _=>by simp [Maps.has],fun _ _ h=>(by cases h)⟩,fun _ _ h=>(by cases h),fun _ _ _ _ _ _ h=>(by cases h)⟩
def curA (G:Int→Option Ac) (t:Int):Ac:=(G t).getD ⟨t,-1,[],false⟩
def curU (G:Int→Option Ac) (U:Int→Value) (t:Int):Value:=if (G t).isSome then U t else .slice none 0 0
def updG (G:Int→Option Ac) (t:Int) (a:Ac):Int→Option Ac:=fun s=>if s=t then some a else G s
def updU (U:Int→Value) (t:Int) (u:Value):Int→Value:=fun s=>if s=t then u else U s
theorem zeroAct (W:World):(zeroValue 45).run Tryz.prog W=.ok (.agg #[.int .i64 0,.int .i64 0,.slice none 0 0,.bool false]) W:=Tryz.zeroValue45 W
theorem MapA.look {B b n:Nat} {G:Int→Option Ac} {U:Int→Value} {W:World} (h:MapA B b n G U W) {t:Int} (ht:i64B t) :
    ∃ v,(Instr.lookup 119 (.map (some b)) (.int .i64 t) true).run Tryz.prog W=.ok (.tuple #[v,.bool (G t).isSome]) W∧(∀ a,G t=some a→v=acVal a (U t))∧(G t=none→v=.agg #[.int .i64 0,.int .i64 0,.slice none 0 0,.bool false]):=by
  obtain ⟨D,h1,h2,h3⟩:=h.own
  obtain ⟨v,ps,hr,hv⟩:=h1.look_ok lawInt Tryz.underlying119 (zeroAct W) (zd:=.held (.agg #[.int .i64 0,.int .i64 0,.slice none 0 0,.bool false])) (zp:=[]) rfl (keyInt ht)
  rw [h2 t ht] at hr
  refine ⟨v,hr,fun a ha=>?_,fun hn=>?_⟩
  · rw [h3 t a ha] at hv
    exact heldR_inv hv
  · rw [atKey_of_not_has (by rw [h2 t ht,hn]; rfl)] at hv
    exact heldR_inv hv
theorem MapA.look1 {B b n:Nat} {G:Int→Option Ac} {U:Int→Value} {W:World} (h:MapA B b n G U W) {t:Int} {a:Ac} (ha:G t=some a) :
    (Instr.lookup 119 (.map (some b)) (.int .i64 t) false).run Tryz.prog W=.ok (acVal a (U t)) W:=by
  obtain ⟨D,h1,h2,h3⟩:=h.own
  obtain ⟨v,ps,hr,hv⟩:=h1.lookup lawInt Tryz.underlying119 (zeroAct W) (zd:=.held (.agg #[.int .i64 0,.int .i64 0,.slice none 0 0,.bool false])) (zp:=[]) rfl (keyInt (h.keys t a ha))
  rw [h3 t a ha] at hv
  rw [hr,heldR_inv hv]
theorem but_turned {W W':World} {b:Nat} (h:W.mapTurned W' b):But (fun k=>k=b) W W':=by
  have hg:=h.grown
  exact ⟨hg.os,hg.tape,hg.output,hg.size,fun k hk hd=>hg.block k hk (fun e=>hd (by cases e; rfl))⟩
structure MapB (t0:Int) (B b n:Nat) (G:Int→Option Ac) (U:Int→Value) (W:World):Prop where
  hB:B≤b
  keys:∀ t a,G t=some a→i64B t
  own:∃ D:DataW Value,W.ownsMap Tryz.prog 3 heldR b n D∧(∀ t,i64B t→Maps.has D (.int .i64 t)=(G t).isSome)∧∀ t a,G t=some a→∀ z,D.atKey (.int .i64 t) z=.held (acVal a (U t))
  rows:∀ t a,t≠t0→G t=some a→OwnI B a.red (U t) W
  apart:∀ t t' a a' k,t≠t'→G t=some a→G t'=some a'→(U t).ownBlock=some k→(U t').ownBlock=some k→False
theorem MapA.toB {t0:Int} {B b n:Nat} {G:Int→Option Ac} {U:Int→Value} {W:World} (h:MapA B b n G U W):MapB t0 B b n G U W:=⟨h.hB,h.keys,h.own,fun t a _=>h.rows t a,h.apart⟩
theorem MapB.lt {t0:Int} {B b n:Nat} {G:Int→Option Ac} {U:Int→Value} {W:World} (h:MapB t0 B b n G U W):b<W.heap.size:=by
  obtain ⟨D,h,_⟩:=h.own; exact h.lt
theorem MapB.keep {t0:Int} {B b n:Nat} {G:Int→Option Ac} {U:Int→Value} {W W':World} {D:Nat→Prop} (h:MapB t0 B b n G U W) (hb:But D W W') (hd0:¬ D b) (hd:∀ t a k,t≠t0→G t=some a→(U t).ownBlock=some k→¬ D k):MapB t0 B b n G U W':=by
  obtain ⟨M,⟨es,clock,h1,h2⟩,h3⟩:=h.own
  exact ⟨h.hB,h.keys,⟨M,⟨es,clock,(hb.block b h.lt hd0).trans h1,h2⟩,h3⟩,fun t a ht ha=>ownsRow_keep (h.rows t a ht ha) hb (fun k hk=>hd t a k ht ha hk),h.apart⟩
theorem MapB.store {t:Int} {B b n:Nat} {G:Int→Option Ac} {U:Int→Value} {W:World} (h:MapB t B b n G U W) (hn:n<1000000000) (ht:i64B t) (a:Ac) (u:Value) (hu:OwnI B a.red u W)
    (hap:∀ s c k,s≠t→G s=some c→(U s).ownBlock=some k→u.ownBlock=some k→False) :
    ∃ W',(Instr.mapUpdate 119 (.map (some b)) (.int .i64 t) (acVal a u)).run Tryz.prog W=.ok () W'∧MapA B b (n+1) (updG G t a) (updU U t u) W'∧But (fun k=>k=b) W W':=by
  obtain ⟨D,h1,h2,h3⟩:=h.own
  obtain ⟨W',hr,ho,hm⟩:=h1.store lawInt Tryz.underlying119 (by unfold maxLen; omega) (key:=.int .i64 t) (val:=acVal a u) (kl:=.int .i64 t) (d:=.held (acVal a u)) (ps:=[]) (keyInt ht) rfl
  have hb:=but_turned hm
  have hM:=h1.isMap
  have hkey:=lawInt.key (keyInt ht)
  have hne:∀ (l:List Int) (v:Value),OwnI B l v W→v.ownBlock≠some b:=fun l v hv e=>by
    rcases hv.2 with ⟨rfl,_⟩ | ⟨g,cap,cur,rfl,_,hg,_⟩
    · cases e
    · cases e
      obtain ⟨es,clock,hb',_⟩:=h1
      rw [hg] at hb'; cases hb'
  refine ⟨W',hr,⟨h.hB,fun s c hs=>?_,⟨_,ho,fun s hs=>?_,fun s c hs z=>?_⟩,fun s c hs=>?_,fun s s' c c' k hss hs hs' h4 h5=>?_⟩,hb⟩
  · unfold updG at hs
    split at hs
    · rename_i e; rw [e]; exact ht
    · exact h.keys s c hs
  · unfold updG
    split
    · rename_i e; subst e
      exact has_put_same hM hkey _
    · rename_i e
      rw [has_put_other (by simp; exact e)]
      exact h2 s hs
  · unfold updG at hs
    unfold updU
    split at hs
    · rename_i e; subst e
      cases hs
      rw [if_pos rfl]
      exact atKey_put_same hM hkey _ _
    · rename_i e
      rw [atKey_put_other (by simp; exact e),if_neg e]
      exact h3 s c hs z
  · unfold updG at hs
    unfold updU
    split at hs
    · rename_i e; subst e
      cases hs
      rw [if_pos rfl]
      exact ownsRow_keep hu hb (fun j hj e=>hne _ _ hu (by rw [hj,e]))
    · rename_i e
      rw [if_neg e]
      exact ownsRow_keep (h.rows s c e hs) hb (fun j hj e'=>hne _ _ (h.rows s c e hs) (by rw [hj,e']))
  · unfold updG at hs hs'
    unfold updU at h4 h5
    split at hs
    · rename_i e; subst e
      rw [if_neg (fun e=>hss e.symm)] at hs'
      rw [if_pos rfl] at h4
      rw [if_neg (fun e=>hss e.symm)] at h5
      exact hap s' c' k (fun e=>hss e.symm) hs' h5 h4
    · rename_i e
      rw [if_neg e] at h4
      split at hs'
      · rename_i e'; subst e'
        rw [if_pos rfl] at h5
        exact hap s c k e hs h4 h5
      · rename_i e'
        rw [if_neg e'] at h5
        exact h.apart s s' c c' k hss hs hs' h4 h5
theorem MapA.store {B b n:Nat} {G:Int→Option Ac} {U:Int→Value} {W:World} (h:MapA B b n G U W) (hn:n<1000000000) {t:Int} (ht:i64B t) (a:Ac) (u:Value) (hu:OwnI B a.red u W)
    (hap:∀ s c k,s≠t→G s=some c→(U s).ownBlock=some k→u.ownBlock=some k→False) :
    ∃ W',(Instr.mapUpdate 119 (.map (some b)) (.int .i64 t) (acVal a u)).run Tryz.prog W=.ok () W'∧MapA B b (n+1) (updG G t a) (updU U t u) W'∧But (fun k=>k=b) W W' :=
  h.toB.store hn ht a u hu hap
theorem curU_own {B b n:Nat} {G:Int→Option Ac} {U:Int→Value} {W:World} (h:MapA B b n G U W) (t:Int):OwnI B (curA G t).red (curU G U t) W:=by
  unfold curA curU
  cases hg:G t with
  | none=>exact World.ownsRow_nil _ _ _ _
  | some a=>exact h.rows t a hg
end Go.Proofs.YtbilbgjojdlobaaGreatDoor
namespace Go.Proofs.YtbilbgjojdlobaaGreatDoor
open Go.RowKit
theorem results_cell1 {fn:Func} {p:Tmp} {t:TypeId} (h:fn.results=#[.cell p t]) (tmps:Array Value) (P:Program) (w:World) {a:Addr} {x:Value} (ha:tmps.getD p undef=.pointer (some a)) (hx:(loadVar t a).run P w=.ok x w) :
    (results fn tmps).run P w=.ok x w:=by
  have ha':tmps[p]?.getD undef=.pointer (some a):=by simpa using ha
  simp [results,h,ha',asAddr,hx]
theorem set4 {W:World} {R:Nat} {o0 o1 o2 o3:Value} (c0:W.cell? ⟨R,0,none⟩=some o0) (c1:W.cell? ⟨R,1,none⟩=some o1) (c2:W.cell? ⟨R,2,none⟩=some o2) (c3:W.cell? ⟨R,3,none⟩=some o3) (a b c d:Value) :
    ((((W.setCell ⟨R,0,none⟩ a).setCell ⟨R,1,none⟩ b).setCell ⟨R,2,none⟩ c).setCell ⟨R,3,none⟩ d).rangeAt R 0 [a,b,c,d]:=by
  have hne:∀ {i k:Nat},i≠k→(⟨R,i,none⟩:Addr)≠⟨R,k,none⟩:=fun h e=>h (by cases e; rfl)
  intro j v hj
  rcases j with _ | _ | _ | _ | j
  · simp at hj; subst hj
    show World.cell? _ ⟨R,0,none⟩=_
    rw [World.cell?_setCell_other _ _ _ _ (hne (by decide)),World.cell?_setCell_other _ _ _ _ (hne (by decide)),World.cell?_setCell_other _ _ _ _ (hne (by decide))]
    exact World.cell?_setCell_same _ _ _ c0
  · simp at hj; subst hj
    show World.cell? _ ⟨R,1,none⟩=_
    rw [World.cell?_setCell_other _ _ _ _ (hne (by decide)),World.cell?_setCell_other _ _ _ _ (hne (by decide))]
    exact World.cell?_setCell_same _ _ _ ((World.cell?_setCell_other _ _ _ _ (hne (by decide))).trans c1)
  · simp at hj; subst hj
    show World.cell? _ ⟨R,2,none⟩=_
    rw [World.cell?_setCell_other _ _ _ _ (hne (by decide))]
    exact World.cell?_setCell_same _ _ _ ((World.cell?_setCell_other _ _ _ _ (hne (by decide))).trans ((World.cell?_setCell_other _ _ _ _ (hne (by decide))).trans c2))
  · simp at hj; subst hj
    show World.cell? _ ⟨R,3,none⟩=_
    exact World.cell?_setCell_same _ _ _ ((World.cell?_setCell_other _ _ _ _ (hne (by decide))).trans ((World.cell?_setCell_other _ _ _ _ (hne (by decide))).trans ((World.cell?_setCell_other _ _ _ _ (hne (by decide))).trans c3)))
  · simp at hj
theorem rowF_size (l:List Rw) (s:Int):sizeA (rowF l s).acts≤sizeTb l:=by
  by_cases h:0≤s∧s<l.length
  · obtain ⟨k,rfl⟩:∃ k:Nat,s=k:=⟨s.toNat,by omega⟩
    have hk:k<l.length:=by omega
    rw [rowF_in hk]
    exact sizeTb_acts hk
  · rw [rowF_out h]; simp [sizeA]
theorem red_size {l:List Ac} {j:Nat} (h:j<l.length):l[j].red.length≤sizeA l:=by
  have h1:=sizeA_succ h
  have h2:=sizeA_le l (j+1)
  omega
set_option maxRecDepth 100000 in
set_option maxHeartbeats 4000000 in
theorem act12_any (l:List Rw) (v:Value) (s y:Int) (w:World) (hl:SlW l v w) (hsz:sizeTb l≤100000000) :
    Calls Tryz.prog 20 #[.agg #[v],.int .i64 s,.int .i64 y] w fun e w'=>∃ u,e=.returned (.agg #[.int .i64 (actF l s y).look,.int .i64 (actF l s y).to,u,.bool (actF l s y).acc])∧SlI (actF l s y).red u w'∧Apart w.heap.size u∧Below w.heap.size w w':=by
  obtain ⟨i0,hi0,hz0,hz1,hz2⟩:=info_parts info3
  have B0:Below w.heap.size w ((w.alloc (Obj.cells #[v] 30)).alloc (Obj.cells #[.int .i64 0,.int .i64 0,.slice none 0 0,.bool false] 45)):=((Below.refl _ _).alloc (Nat.le_refl _) _).alloc (by simp) _
  have hR:((w.alloc (Obj.cells #[v] 30)).alloc (Obj.cells #[.int .i64 0,.int .i64 0,.slice none 0 0,.bool false] 45)).heap[w.heap.size+1]?=some (Obj.cells #[.int .i64 0,.int .i64 0,.slice none 0 0,.bool false] 45):=heap_alloc2_new _ _ _
  have HRO:=rowOf_any l v s _ (hl.next B0)
  obtain ⟨la,lc,rfl,_,_,_,hlb⟩:=hl
  have t0:((w.alloc (Obj.cells #[.slice la l.length lc] 30)).alloc (Obj.cells #[.int .i64 0,.int .i64 0,.slice none 0 0,.bool false] 45)).cell? ⟨w.heap.size,0,none⟩=some (.slice la l.length lc):=by simp
  have HR:Hid (actF l s y=((rowF l s).acts.find? (fun a=>a.look == y)).getD ⟨y,-1,[],false⟩):=rfl
  have hrsz:sizeA (rowF l s).acts≤100000000:=Nat.le_trans (rowF_size l s) hsz
  generalize rowF l s=r at *
  have HNT:Hid (∀ W,Calls Tryz.prog 46 #[.int .i64 y] W fun e w'=>e=.returned (.agg #[.int .i64 y,.int .i64 (-1),.slice none 0 0,.bool false])∧Below W.heap.size W w'):=fun W=>nothing_any y W
  go_enter Tryz.func20,Tryz.ntmps20
  go_wp2_with fail
  generalize (w.alloc (Obj.cells #[.slice la l.length lc] 30)).alloc (Obj.cells #[.int .i64 0,.int .i64 0,.slice none 0 0,.bool false] 45)=w0 at *
  refine HRO.mono ?_
  rintro e w1 ⟨va,vg,rfl,hA,hG,b1⟩
  have B1:=below_then B0 b1 B0.size
  have hRl:w.heap.size+1<w0.heap.size:=(Array.getElem?_eq_some_iff.1 hR).1
  have HRC:Hid (∀ W,Below w1.heap.size w1 W→W.heap[w.heap.size+1]?=some (Obj.cells #[.int .i64 0,.int .i64 0,.slice none 0 0,.bool false] 45)):=fun W hb=>((below_then b1 hb b1.size).block _ hRl).trans hR
  have HAA:Hid (∀ W,Below w1.heap.size w1 W→SlA r.acts va W):=fun W hb=>hA.next hb
  obtain ⟨aa,ac,rfl,_,_,_,hab⟩:=hA
  obtain ⟨ga,gc,rfl,_⟩:=hG
  have hfd:∀ W:World,(Instr.field 68 (.agg #[.slice aa r.acts.length ac,.slice ga r.goes.length gc]) 0).run Tryz.prog W=.ok (.slice aa r.acts.length ac) W:=fun _=>by kernel_rfl
  have hw1:=b1.size
  clear HRO t0 b1 B0 hR
  go_wp2_with fail
  clear hfd
  go_loopw [14] (fun iv wr=>∃ (j:Nat),iv=.int .i64 j∧j≤r.acts.length∧(∀ k,(hk:k<r.acts.length)→k<j→(r.acts[k].look == y)=false)∧Below w1.heap.size w1 wr) (fun i _=>r.acts.length - (intOf i).toNat)
  case atStart=>exact ⟨0,rfl,Nat.zero_le _,fun k _ hk=>by omega,Below.refl _ _⟩
  case round =>
  obtain ⟨j,rfl,hj,hall,BR⟩:=hrel
  have HAL:Hid (∀ k,(hk:k<r.acts.length)→k<j→(r.acts[k].look == y)=false):=hall
  clear hall
  have BW:=below_then B1 BR B1.size
  by_cases hlt:j<r.acts.length
  case neg =>
    have HN:Hid (actF l s y=⟨y,-1,[],false⟩):=by
      show _=_
      rw [HR.out,find_none _ (fun q hq=>HAL.out q hq (by omega))]; rfl
    have HNW:=HNT.out wr
    clear HR HAL HAA
    go_wp2_with fail
    refine HNW.mono ?_
    rintro e w4 ⟨rfl,b4⟩
    have B4:=below_then BW b4 BW.size
    have hR4:=HRC.out _ (below_then BR b4 BR.size)
    have c0:w4.cell? ⟨w.heap.size+1,0,none⟩=some (.int .i64 0):=by simp [World.cell?,hR4]
    have c1:w4.cell? ⟨w.heap.size+1,1,none⟩=some (.int .i64 0):=by simp [World.cell?,hR4]
    have c2:w4.cell? ⟨w.heap.size+1,2,none⟩=some (.slice none 0 0):=by simp [World.cell?,hR4]
    have c3:w4.cell? ⟨w.heap.size+1,3,none⟩=some (.bool false):=by simp [World.cell?,hR4]
    have z:∀ k,w4.frozen? ⟨w.heap.size+1,k,none⟩=false:=fun k=>by simp [World.frozen?,hR4]
    clear HNW b4 HNT
    go_wp2_with fail
    have hB:Below w.heap.size w ((((w4.setCell ⟨w.heap.size+1,0,none⟩ (.int .i64 y)).setCell ⟨w.heap.size+1,1,none⟩ (.int .i64 (-1))).setCell ⟨w.heap.size+1,2,none⟩ (.slice none 0 0)).setCell ⟨w.heap.size+1,3,none⟩ (.bool false)):=(((B4.setCell (by simp) _).setCell (by simp) _).setCell (by simp) _).setCell (by simp) _
    refine bodyPost_ret (results_cell1 rfl _ _ _ rfl (run_loadVar_mid _ _ _ _ _ _ (set4 c0 c1 c2 c3 _ _ _ _) Tryz.underlying45 rfl (by kernel_rfl))) rfl ?_
    exact ⟨_,by rw [HN.out],by rw [HN.out]; exact SlI.nil12 _,Apart.none _ _ _,hB⟩
  obtain ⟨_,_,e0,hacs,_⟩:=HAA.out _ BR
  cases e0
  obtain ⟨b2,off2,v2,rfl,hb2,d0,d1,d2,d3,hred,_,_,hrb⟩:=hacs.at (Below.refl _ _) hlt
  have HA2:Hid ((r.acts[j].look == y)=false→∀ k,(hk:k<r.acts.length)→k<j+1→(r.acts[k].look == y)=false):=fun he q hq hqj=>by
    rcases Nat.lt_or_ge q j with h | h
    · exact HAL.out q hq h
    · obtain rfl:q=j:=by omega
      exact he
  have HN:Hid (r.acts[j].look=y→actF l s y=r.acts[j]):=fun he=>by
    rw [HR.out,find_take _ hlt HAL.out (by simpa using he)]; rfl
  have hxl:r.acts[j].red.length≤100000000:=Nat.le_trans (red_size hlt) hrsz
  generalize r.acts[j]=x at *
  have HRD:Hid (∀ W,Below wr.heap.size wr W→SlI x.red v2 W):=fun W hb=>hred.next hb
  obtain ⟨da,dc,rfl,_⟩:=hred
  clear HR HAL hacs HNT
  have BX:Below w1.heap.size w1 (wr.alloc (Obj.cells #[.int .i64 x.look,.int .i64 x.to,.slice da x.red.length dc,.bool x.acc] 45)):=BR.alloc BR.size _
  have bx:Below wr.heap.size wr (wr.alloc (Obj.cells #[.int .i64 x.look,.int .i64 x.to,.slice da x.red.length dc,.bool x.acc] 45)):=(Below.refl _ _).alloc (Nat.le_refl _) _
  have hQ:(wr.alloc (Obj.cells #[.int .i64 x.look,.int .i64 x.to,.slice da x.red.length dc,.bool x.acc] 45)).heap[wr.heap.size]?=some (Obj.cells #[.int .i64 x.look,.int .i64 x.to,.slice da x.red.length dc,.bool x.acc] 45):=heap_alloc_new _ _
  by_cases he:x.look=y
  case neg =>
    have he':(x.look == y)=false:=by simpa using he
    have HA3:Hid (∀ k,(hk:k<r.acts.length)→k<j+1→(r.acts[k].look == y)=false):=HA2.out he'
    clear HN HA2 hQ bx
    go_wp2_with fail
    exact ⟨⟨j+1,by go_num,by omega,HA3.out,BX⟩,by simp [intOf]; omega⟩
  have HN2:Hid (actF l s y=x∧x.look=y):=⟨HN.out he,he⟩
  clear HN HA2
  obtain ⟨x0,x1,xr,x3⟩:=x
  simp only at *
  subst he
  have HSX:=HRD.out _ bx
  have HNN:Hid (da=none→xr.length=0∧dc=0):=fun e=>by
    obtain ⟨_,_,e1,_,hcn,hle,_⟩:=HSX
    cases e1
    have:=hcn e
    exact ⟨by omega,this⟩
  have HNW:Hid (∀ ad,da=some ad→∀ (k:Nat) (u:Value),(xr.map encI)[k]?=some u→(wr.alloc (Obj.cells #[.int .i64 x0,.int .i64 x1,.slice da xr.length dc,.bool x3] 45)).cell? (ad.add k)=some u):=fun ad e k u hk=>by
    obtain ⟨_,_,e1,hrow,_⟩:=HSX
    cases e1
    rw [List.getElem?_map] at hk
    obtain ⟨q,hq,rfl⟩:=Option.map_eq_some_iff.1 hk
    obtain ⟨b3,o3,e3,_,c⟩:=hrow k q hq
    rw [e] at e3
    cases e3
    rw [add_plain]; exact c
  have HE6:Hid (∀ u∈xr.map encI,u.oneCell'=true):=by
    intro u hu
    obtain ⟨q,_,rfl⟩:=List.mem_map.1 hu
    rfl
  have HI64:Hid (∀ q∈xr,i64B q):=by
    obtain ⟨_,_,e1,_,_,_,h64⟩:=HSX
    exact h64
  have hm1:(xr.map encI).length=xr.length * 1:=by simp
  clear HSX HRD
  go_wp2_with (at_builtin; refine wpList_append_any rfl (.const (.slice none 0 0)) (.tmp 23) 43 rfl (wr.alloc (Obj.cells #[.int .i64 x0,.int .i64 x1,.slice da xr.length dc,.bool x3] 45)).heap.size 3 i0 _ 1 8 Tryz.underlying43 hi0 hz0 hz1 hz2 rfl (by decide) _ 0 [] rfl (World.ownsRow_nil _ _ _ _) da xr.length dc (xr.map encI) rfl HNN.out hm1 HNW.out HE6.out (by unfold maxLen; omega) (by omega) (Nat.le_refl _) ?_)
  intro v9 w9 hown9 hg9
  have hbn:Below (wr.heap.size+1) (wr.alloc (Obj.cells #[.int .i64 x0,.int .i64 x1,.slice da xr.length dc,.bool x3] 45)) w9:=(Below.refl _ _).grown hg9 (by simp) (fun k e=>by cases e)
  obtain ⟨a9,c9,rfl⟩:=slice_of_own hown9
  have hsw:w1.heap.size≤wr.heap.size:=BR.size
  have hR9:w9.heap[w.heap.size+1]?=some (Obj.cells #[.int .i64 0,.int .i64 0,.slice none 0 0,.bool false] 45):=(hbn.block _ (by omega)).trans (HRC.out _ BX)
  have hQ9:w9.heap[wr.heap.size]?=some (Obj.cells #[.int .i64 x0,.int .i64 x1,.slice da xr.length dc,.bool x3] 45):=(hbn.block _ (by omega)).trans hQ
  have hne:wr.heap.size≠w.heap.size+1:=by omega
  have hne2:¬ w.heap.size+1=wr.heap.size:=by omega
  have q2:w9.cell? ⟨wr.heap.size,2,none⟩=some (.slice da xr.length dc):=by simp [World.cell?,hQ9]
  have zq:w9.frozen? ⟨wr.heap.size,2,none⟩=false:=by simp [World.frozen?,hQ9]
  have p0:(w9.setCell ⟨wr.heap.size,2,none⟩ (.slice a9 xr.length c9)).cell? ⟨wr.heap.size,0,none⟩=some (.int .i64 x0):=(World.cell?_setCell_other _ _ _ _ (by simp)).trans (by simp [World.cell?,hQ9])
  have p1:(w9.setCell ⟨wr.heap.size,2,none⟩ (.slice a9 xr.length c9)).cell? ⟨wr.heap.size,1,none⟩=some (.int .i64 x1):=(World.cell?_setCell_other _ _ _ _ (by simp)).trans (by simp [World.cell?,hQ9])
  have p2:(w9.setCell ⟨wr.heap.size,2,none⟩ (.slice a9 xr.length c9)).cell? ⟨wr.heap.size,2,none⟩=some (.slice a9 xr.length c9):=World.cell?_setCell_same _ _ _ q2
  have p3:(w9.setCell ⟨wr.heap.size,2,none⟩ (.slice a9 xr.length c9)).cell? ⟨wr.heap.size,3,none⟩=some (.bool x3):=(World.cell?_setCell_other _ _ _ _ (by simp)).trans (by simp [World.cell?,hQ9])
  have c0:(w9.setCell ⟨wr.heap.size,2,none⟩ (.slice a9 xr.length c9)).cell? ⟨w.heap.size+1,0,none⟩=some (.int .i64 0):=(World.cell?_setCell_far _ _ _ _ hne).trans (by simp [World.cell?,hR9])
  have c1:(w9.setCell ⟨wr.heap.size,2,none⟩ (.slice a9 xr.length c9)).cell? ⟨w.heap.size+1,1,none⟩=some (.int .i64 0):=(World.cell?_setCell_far _ _ _ _ hne).trans (by simp [World.cell?,hR9])
  have c2:(w9.setCell ⟨wr.heap.size,2,none⟩ (.slice a9 xr.length c9)).cell? ⟨w.heap.size+1,2,none⟩=some (.slice none 0 0):=(World.cell?_setCell_far _ _ _ _ hne).trans (by simp [World.cell?,hR9])
  have c3:(w9.setCell ⟨wr.heap.size,2,none⟩ (.slice a9 xr.length c9)).cell? ⟨w.heap.size+1,3,none⟩=some (.bool false):=(World.cell?_setCell_far _ _ _ _ hne).trans (by simp [World.cell?,hR9])
  have z:∀ k,(w9.setCell ⟨wr.heap.size,2,none⟩ (.slice a9 xr.length c9)).frozen? ⟨w.heap.size+1,k,none⟩=false:=fun k=>by rw [World.frozen?_setCell]; simp [World.frozen?,hR9]
  have HO10:Hid ((w9.setCell ⟨wr.heap.size,2,none⟩ (.slice a9 xr.length c9)).ownsRow (wr.heap.size+1) 3 1 (.slice a9 xr.length c9) xr.length (xr.map encI)):=ownsRow_setCell_below hown9 (by simp) _
  have B10:Below w.heap.size w (w9.setCell ⟨wr.heap.size,2,none⟩ (.slice a9 xr.length c9)):=(below_then (BW.alloc BW.size _) (by simpa using hbn) (by have:=BW.size; simp; omega)).setCell (by have:=BW.size; simp only; omega) _
  have HAP:Hid (Apart (wr.heap.size+1) (.slice a9 xr.length c9)):=own_apart2 hown9
  clear hown9 hg9 hbn hQ hQ9 hR9 HRC bx BX
  go_upto_region 6 with fail
  clear q2 zq
  generalize w9.setCell ⟨wr.heap.size,2,none⟩ (.slice a9 xr.length c9)=w10 at *
  go_wp2_with fail
  have hB:Below w.heap.size w ((((w10.setCell ⟨w.heap.size+1,0,none⟩ (.int .i64 x0)).setCell ⟨w.heap.size+1,1,none⟩ (.int .i64 x1)).setCell ⟨w.heap.size+1,2,none⟩ (.slice a9 xr.length c9)).setCell ⟨w.heap.size+1,3,none⟩ (.bool x3)):=(((B10.setCell (by simp) _).setCell (by simp) _).setCell (by simp) _).setCell (by simp) _
  have hlo:w.heap.size+1<wr.heap.size+1:=by omega
  have hO:World.ownsRow ((((w10.setCell ⟨w.heap.size+1,0,none⟩ (.int .i64 x0)).setCell ⟨w.heap.size+1,1,none⟩ (.int .i64 x1)).setCell ⟨w.heap.size+1,2,none⟩ (.slice a9 xr.length c9)).setCell ⟨w.heap.size+1,3,none⟩ (.bool x3)) (wr.heap.size+1) 3 1 (.slice a9 xr.length c9) xr.length (xr.map encI):=ownsRow_setCell_below (ownsRow_setCell_below (ownsRow_setCell_below (ownsRow_setCell_below HO10.out hlo _) hlo _) hlo _) hlo _
  refine bodyPost_ret (results_cell1 rfl _ _ _ rfl (run_loadVar_mid _ _ _ _ _ _ (set4 c0 c1 c2 c3 _ _ _ _) Tryz.underlying45 rfl (by kernel_rfl))) rfl ?_
  exact ⟨_,by rw [HN2.out.1],by rw [HN2.out.1]; exact sli_own hO HI64.out,HAP.out.mono (by omega),hB⟩
end Go.Proofs.YtbilbgjojdlobaaGreatDoor
namespace Go.Proofs.YtbilbgjojdlobaaGreatDoor
open Go.RowKit Go.Maps
set_option maxRecDepth 100000 in
set_option maxHeartbeats 1000000 in
theorem at_any {B b n:Nat} {G:Int→Option Ac} {U:Int→Value} (t:Int) (w:World) (h:MapA B b n G U w) (ht:i64B t) :
    Calls Tryz.prog 101 #[.map (some b),.int .i64 t] w fun e w'=>e=.returned (acVal (curA G t) (curU G U t))∧Below w.heap.size w w':=by
  have B0:Below w.heap.size w (w.alloc (Obj.cells #[.int .i64 0,.int .i64 0,.slice none 0 0,.bool false] 45)):=(Below.refl _ _).alloc (Nat.le_refl _) _
  obtain ⟨v,hr,hv1,hv2⟩:=(h.next B0).look ht
  have HNT:Hid (∀ W,Calls Tryz.prog 46 #[.int .i64 t] W fun e w'=>e=.returned (.agg #[.int .i64 t,.int .i64 (-1),.slice none 0 0,.bool false])∧Below W.heap.size W w'):=fun W=>nothing_any t W
  cases hg:G t with
  | some a =>
    have hrow:=h.rows t a hg
    have hc:acVal (curA G t) (curU G U t)=acVal a (U t):=by unfold curA curU; rw [hg]; rfl
    rw [hc]
    obtain rfl:=hv1 a hg
    rw [hg] at hr
    obtain ⟨ua,uc,hU⟩:=slice_of_ownK hrow
    rw [hU] at hr ⊢
    unfold acVal at hr ⊢
    clear hv1 hv2 hc hrow h HNT
    simp only [Option.isSome_some] at hr
    go_enter Tryz.func101,Tryz.ntmps101
    go_wp2_with fail
    have B1:Below w.heap.size w ((w.alloc (Obj.cells #[.int .i64 a.look,.int .i64 a.to,.slice ua a.red.length uc,.bool a.acc] 45)).alloc (Obj.cells #[.int .i64 a.look,.int .i64 a.to,.slice ua a.red.length uc,.bool a.acc] 45)):=((Below.refl _ _).alloc (Nat.le_refl _) _).alloc (by simp) _
    refine bodyPost_ret (results_cell_row rfl _ _ w.heap.size 45 #[.int .i64 a.look,.int .i64 a.to,.slice ua a.red.length uc,.bool a.acc] (0,0) _ rfl ((Lib.alloc_old _ _ _ (by simp)).trans (heap_alloc_new _ _)) Tryz.underlying45 rfl (by kernel_rfl)) rfl ?_
    exact ⟨rfl,B1⟩
  | none =>
    have hc:acVal (curA G t) (curU G U t)=acVal ⟨t,-1,[],false⟩ (.slice none 0 0):=by unfold curA curU; rw [hg]; rfl
    rw [hc]
    obtain rfl:=hv2 hg
    rw [hg] at hr
    unfold acVal
    clear hv1 hv2 hc h
    simp only [Option.isSome_none] at hr
    have B1:Below w.heap.size w ((w.alloc (Obj.cells #[.int .i64 0,.int .i64 0,.slice none 0 0,.bool false] 45)).alloc (Obj.cells #[.int .i64 0,.int .i64 0,.slice none 0 0,.bool false] 45)):=B0.alloc (by simp) _
    have hR1:((w.alloc (Obj.cells #[.int .i64 0,.int .i64 0,.slice none 0 0,.bool false] 45)).alloc (Obj.cells #[.int .i64 0,.int .i64 0,.slice none 0 0,.bool false] 45)).heap[w.heap.size]?=some (Obj.cells #[.int .i64 0,.int .i64 0,.slice none 0 0,.bool false] 45):=(Lib.alloc_old _ _ _ (by simp)).trans (heap_alloc_new _ _)
    go_enter Tryz.func101,Tryz.ntmps101
    go_upto_region 4 with fail
    clear hr
    generalize (w.alloc (Obj.cells #[.int .i64 0,.int .i64 0,.slice none 0 0,.bool false] 45)).alloc (Obj.cells #[.int .i64 0,.int .i64 0,.slice none 0 0,.bool false] 45)=w3 at *
    have HN3:=HNT.out w3
    go_wp2_with fail
    refine HN3.mono ?_
    rintro e w4 ⟨rfl,b4⟩
    have B4:=below_then B1 b4 B1.size
    have hR4:w4.heap[w.heap.size]?=some (Obj.cells #[.int .i64 0,.int .i64 0,.slice none 0 0,.bool false] 45):=(b4.block _ (Array.getElem?_eq_some_iff.1 hR1).1).trans hR1
    have c0:w4.cell? ⟨w.heap.size,0,none⟩=some (.int .i64 0):=by simp [World.cell?,hR4]
    have c1:w4.cell? ⟨w.heap.size,1,none⟩=some (.int .i64 0):=by simp [World.cell?,hR4]
    have c2:w4.cell? ⟨w.heap.size,2,none⟩=some (.slice none 0 0):=by simp [World.cell?,hR4]
    have c3:w4.cell? ⟨w.heap.size,3,none⟩=some (.bool false):=by simp [World.cell?,hR4]
    have z:∀ k,w4.frozen? ⟨w.heap.size,k,none⟩=false:=fun k=>by simp [World.frozen?,hR4]
    clear HN3 b4 HNT hR1 hR4 B0
    go_wp2_with fail
    have hB:Below w.heap.size w ((((w4.setCell ⟨w.heap.size,0,none⟩ (.int .i64 t)).setCell ⟨w.heap.size,1,none⟩ (.int .i64 (-1))).setCell ⟨w.heap.size,2,none⟩ (.slice none 0 0)).setCell ⟨w.heap.size,3,none⟩ (.bool false)):=(((B4.setCell (by simp) _).setCell (by simp) _).setCell (by simp) _).setCell (by simp) _
    refine bodyPost_ret (results_cell1 rfl _ _ _ rfl (run_loadVar_mid _ _ _ _ _ _ (set4 c0 c1 c2 c3 _ _ _ _) Tryz.underlying45 rfl (by kernel_rfl))) rfl ?_
    exact ⟨rfl,hB⟩
set_option maxRecDepth 100000 in
set_option maxHeartbeats 1000000 in
theorem shift_any {B b n:Nat} {G:Int→Option Ac} {U:Int→Value} (t y:Int) (w:World) (h:MapA B b n G U w) (ht:i64B t) (hn:n<1000000000) :
    Calls Tryz.prog 65 #[.map (some b),.int .i64 t,.int .i64 y] w fun e w'=>e=.returned (.tuple #[])∧MapA B b (n+1) (updG G t ⟨(curA G t).look,y,(curA G t).red,(curA G t).acc⟩) (updU U t (curU G U t)) w'∧But (fun k=>k=b) w w':=by
  have HAT:=at_any t w h ht
  have hrow:=curU_own h t
  obtain ⟨ua,uc,hU⟩:=slice_of_ownK hrow
  have HST:Hid (∀ W,Below w.heap.size w W→∃ W',(Instr.mapUpdate 119 (.map (some b)) (.int .i64 t) (.agg #[.int .i64 (curA G t).look,.int .i64 y,.slice ua (curA G t).red.length uc,.bool (curA G t).acc])).run Tryz.prog W=.ok () W'∧MapA B b (n+1) (updG G t ⟨(curA G t).look,y,(curA G t).red,(curA G t).acc⟩) (updU U t (curU G U t)) W'∧But (fun k=>k=b) W W'):=fun W hW=>by
    have hM:=h.next hW
    have:=hM.store hn ht ⟨(curA G t).look,y,(curA G t).red,(curA G t).acc⟩ (curU G U t) (curU_own hM t) (fun s c k hs hc h1 h2=>by
      unfold curU at h2
      split at h2
      · rename_i hsome
        obtain ⟨a,ha⟩:=Option.isSome_iff_exists.1 hsome
        exact h.apart s t c a k hs hc ha h1 h2
      · cases h2)
    unfold acVal at this
    rw [hU] at this ⊢
    exact this
  rw [hU] at HAT ⊢
  unfold acVal at HAT
  clear hrow
  rw [← hU]
  generalize (updG G t ⟨(curA G t).look,y,(curA G t).red,(curA G t).acc⟩)=G' at *
  generalize (updU U t (curU G U t))=U' at *
  generalize (curA G t).look=a0 at *
  generalize (curA G t).to=a1 at *
  generalize (curA G t).red.length=rn at *
  generalize (curA G t).acc=a3 at *
  go_enter Tryz.func65,Tryz.ntmps65
  go_wp2_with fail
  refine HAT.mono ?_
  rintro e w1 ⟨rfl,b1⟩
  have B1:Below w.heap.size w (w1.alloc (Obj.cells #[.int .i64 a0,.int .i64 y,.slice ua rn uc,.bool a3] 45)):=b1.alloc b1.size _
  obtain ⟨W',hr,hM,hb⟩:=HST.out _ B1
  have HR:Hid (MapA B b (n+1) G' U' W'∧But (fun k=>k=b) w W'):=⟨hM,(But.of_next B1).trans hb⟩
  clear HAT HST hM hb h
  go_wp2_with fail
  go_end0
  exact ⟨rfl,HR.out⟩
theorem infoInt1:(Tryz.prog.info? 3).map (fun i=>(i.zero,i.size,i.bytes))=some (some (.int .i64 0),1,8):=by kernel_rfl
def endA (a:Ac) (p:Int):Ac:=if p=-1 then ⟨a.look,a.to,a.red,true⟩ else ⟨a.look,a.to,a.red++[p],a.acc⟩
def Ended (B b n:Nat) (G:Int→Option Ac) (U:Int→Value) (t:Int) (a:Ac) (w w':World):Prop :=
  ∃ u,MapA B b (n+1) (updG G t a) (updU U t u) w'∧But (inA b G U) w w'∧∀ k,inA b (updG G t a) (updU U t u) k→inA b G U k∨w.heap.size≤k
theorem ended_in {b:Nat} {G:Int→Option Ac} {U:Int→Value} {t:Int} {a:Ac} {u:Value} {m:Nat} (hu:∀ k,u.ownBlock=some k→inA b G U k∨m≤k):∀ k,inA b (updG G t a) (updU U t u) k→inA b G U k∨m≤k:=by
  rintro k (rfl | ⟨s,c,hs,hk⟩)
  · exact .inl (.inl rfl)
  · unfold updG at hs
    unfold updU at hk
    split at hs
    · rename_i e; rw [if_pos e] at hk; exact hu k hk
    · rename_i e; rw [if_neg e] at hk; exact .inl (.inr ⟨s,c,hs,hk⟩)
theorem curU_in {G:Int→Option Ac} {U:Int→Value} {t:Int} {k:Nat} (h:(curU G U t).ownBlock=some k):∃ a,G t=some a∧(U t).ownBlock=some k:=by
  unfold curU at h
  split at h
  · rename_i hs
    obtain ⟨a,ha⟩:=Option.isSome_iff_exists.1 hs
    exact ⟨a,ha,h⟩
  · cases h
set_option maxRecDepth 100000 in
set_option maxHeartbeats 2000000 in
theorem endAct_any {B b n:Nat} {G:Int→Option Ac} {U:Int→Value} (x:Ir) (w:World) (h:MapA B b n G U w) (hx:okR x) (hn:n<1000000000) (hl:(curA G x.2.2).red.length≤100000000) (hBw:B≤w.heap.size) :
    Calls Tryz.prog 62 #[.map (some b),valR x] w fun e w'=>e=.returned (.tuple #[])∧Ended B b n G U x.2.2 (endA (curA G x.2.2) x.1) w w':=by
  obtain ⟨i0,hi0,hz0,hz1,hz2⟩:=info_parts infoInt1
  obtain ⟨x0,x1,t⟩:=x
  obtain ⟨hx0,hx1,ht⟩:=hx
  unfold valR
  simp only at *
  have BX:Below w.heap.size w (w.alloc (Obj.cells #[.int .i64 x0,.int .i64 x1,.int .i64 t] 77)):=(Below.refl _ _).alloc (Nat.le_refl _) _
  have hM0:=h.next BX
  have HAT:=at_any t _ hM0 ht
  obtain ⟨ua,uc,hU⟩:=slice_of_ownK (curU_own h t)
  have hlt:=h.lt
  rw [hU] at HAT
  unfold acVal at HAT
  have d0:(w.alloc (Obj.cells #[.int .i64 x0,.int .i64 x1,.int .i64 t] 77)).cell? ⟨w.heap.size,0,none⟩=some (.int .i64 x0):=by simp
  have d2:(w.alloc (Obj.cells #[.int .i64 x0,.int .i64 x1,.int .i64 t] 77)).cell? ⟨w.heap.size,2,none⟩=some (.int .i64 t):=by simp
  have hxl:w.heap.size<(w.alloc (Obj.cells #[.int .i64 x0,.int .i64 x1,.int .i64 t] 77)).heap.size:=by simp
  obtain ⟨c,hc⟩:∃ c,curA G t=c:=⟨_,rfl⟩
  rw [hc] at HAT hl hU ⊢
  have HC:Hid (curA G t=c):=hc
  clear hc hM0
  go_enter Tryz.func62,Tryz.ntmps62
  go_wp2_with fail
  generalize w.alloc (Obj.cells #[.int .i64 x0,.int .i64 x1,.int .i64 t] 77)=w0 at *
  refine HAT.mono ?_
  rintro e w1 ⟨rfl,b1⟩
  have B1:Below w.heap.size w w1:=below_then BX b1 BX.size
  have e0:=(b1.cell (p:=⟨w.heap.size,0,none⟩) hxl).trans d0
  have e2:=(b1.cell (p:=⟨w.heap.size,2,none⟩) hxl).trans d2
  have hx1l:w.heap.size<w1.heap.size:=Nat.lt_of_lt_of_le hxl b1.size
  clear HAT b1 d0 d2 BX
  by_cases hp:x0=-1
  · subst hp
    have hEA:endA c (-1)=⟨c.look,c.to,c.red,true⟩:=if_pos rfl
    have BA:Below w.heap.size w (w1.alloc (Obj.cells #[.int .i64 c.look,.int .i64 c.to,.slice ua c.red.length uc,.bool true] 45)):=B1.alloc B1.size _
    have hM:=h.next BA
    obtain ⟨W',hr,hM',hb⟩:=hM.store hn ht ⟨c.look,c.to,c.red,true⟩ (curU G U t) (by have:=curU_own hM t; rw [HC.out] at this; exact this) (fun s c' k hs hc' h1 h2=>by
      obtain ⟨a,ha,h3⟩:=curU_in h2
      exact h.apart s t c' a k hs hc' ha h1 h3)
    rw [hU] at hr
    unfold acVal at hr
    have HR:Hid (Ended B b n G U t (endA c (-1)) w W'):=hEA ▸ ⟨_,hM',(But.of_next BA).trans (hb.mono (fun k _ e=>.inl e)),ended_in (fun k hk=>by
      obtain ⟨a,ha,h3⟩:=curU_in hk
      exact .inl (.inr ⟨t,a,ha,h3⟩))⟩
    clear hM hM' hb h hEA
    go_wp2_with fail
    go_end0
    exact ⟨rfl,HR.out⟩
  · have hp':(x0 == -1)=false:=by simpa using hp
    have hEA:endA c x0=⟨c.look,c.to,c.red++[x0],c.acc⟩:=if_neg hp
    have BA:Below w.heap.size w (w1.alloc (Obj.cells #[.int .i64 c.look,.int .i64 c.to,.slice ua c.red.length uc,.bool c.acc] 45)):=B1.alloc B1.size _
    have a0:(w1.alloc (Obj.cells #[.int .i64 c.look,.int .i64 c.to,.slice ua c.red.length uc,.bool c.acc] 45)).heap[w1.heap.size]?=some (Obj.cells #[.int .i64 c.look,.int .i64 c.to,.slice ua c.red.length uc,.bool c.acc] 45):=heap_alloc_new _ _
    have hal:w1.heap.size<(w1.alloc (Obj.cells #[.int .i64 c.look,.int .i64 c.to,.slice ua c.red.length uc,.bool c.acc] 45)).heap.size:=by simp
    have e0':(w1.alloc (Obj.cells #[.int .i64 c.look,.int .i64 c.to,.slice ua c.red.length uc,.bool c.acc] 45)).cell? ⟨w.heap.size,0,none⟩=some (.int .i64 x0):=(World.cell?_of_block (Lib.alloc_old w1 _ _ hx1l)).trans e0
    have e2':(w1.alloc (Obj.cells #[.int .i64 c.look,.int .i64 c.to,.slice ua c.red.length uc,.bool c.acc] 45)).cell? ⟨w.heap.size,2,none⟩=some (.int .i64 t):=(World.cell?_of_block (Lib.alloc_old w1 _ _ hx1l)).trans e2
    go_upto_region 4 with fail
    generalize w1.alloc (Obj.cells #[.int .i64 c.look,.int .i64 c.to,.slice ua c.red.length uc,.bool c.acc] 45)=wa at *
    have hcw:curA G t=c:=HC.out
    have hrow:OwnI B c.red (.slice ua c.red.length uc) wa:=by
      have:=curU_own (h.next BA) t
      rw [hcw,hU] at this
      exact this
    have hMB:MapB t B b n G U (wa.alloc (Obj.cells #[.int .i64 x0] 3)):=((h.next BA).next ((Below.refl _ wa).alloc (Nat.le_refl _) _)).toB
    have HMB:Hid (MapB t B b n G U (wa.alloc (Obj.cells #[.int .i64 x0] 3))):=hMB
    have HON:Hid ((wa.alloc (Obj.cells #[.int .i64 x0] 3)).ownsRow B 3 1 (.slice ua c.red.length uc) c.red.length (c.red.map encI)):=World.ownsRow.alloc hrow _
    have a0':(wa.alloc (Obj.cells #[.int .i64 x0] 3)).heap[w1.heap.size]?=some (Obj.cells #[.int .i64 c.look,.int .i64 c.to,.slice ua c.red.length uc,.bool c.acc] 45):=(Lib.alloc_old wa _ _ hal).trans a0
    have HA0:Hid ((wa.alloc (Obj.cells #[.int .i64 x0] 3)).heap[w1.heap.size]?=some (Obj.cells #[.int .i64 c.look,.int .i64 c.to,.slice ua c.red.length uc,.bool c.acc] 45)):=a0'
    have q2:wa.cell? ⟨w1.heap.size,2,none⟩=some (.slice ua c.red.length uc):=by rw [Lib.cell_of_heap a0]; rfl
    have HE2:Hid (w.heap.size<wa.heap.size∧(wa.alloc (Obj.cells #[.int .i64 x0] 3)).cell? ⟨w.heap.size,2,none⟩=some (.int .i64 t)):=by
      have:w.heap.size<wa.heap.size:=Nat.lt_trans hx1l hal
      exact ⟨this,(World.cell?_of_block (Lib.alloc_old wa _ _ this)).trans e2'⟩
    have BAN:Below w.heap.size w (wa.alloc (Obj.cells #[.int .i64 x0] 3)):=BA.alloc BA.size _
    have HBN:Hid (Below w.heap.size w (wa.alloc (Obj.cells #[.int .i64 x0] 3))):=BAN
    have hszn:B≤(wa.alloc (Obj.cells #[.int .i64 x0] 3)).heap.size:=Nat.le_trans hBw BAN.size
    have HUL:Hid (∀ k,(Value.slice ua c.red.length uc).ownBlock=some k→∃ a,G t=some a∧(U t).ownBlock=some k):=fun k hk=>curU_in (by rw [hU]; exact hk)
    have HNW:=cell_one_new wa (.int .i64 x0) 3
    have HIN:Hid (∀ s a k,G s=some a→(U s).ownBlock=some k→k<w.heap.size):=fun s a k ha hk=>(h.inLt (.inr ⟨s,a,ha,hk⟩)).2
    have HAPT:Hid (∀ s a a' k,s≠t→G s=some a→G t=some a'→(U s).ownBlock=some k→(U t).ownBlock=some k→False):=fun s a a' k h1 h2 h3 h4 h5=>h.apart s t a a' k h1 h2 h3 h4 h5
    have hbl:b<w.heap.size:=hlt
    clear h hMB hrow a0' BAN BA e0 e2 hU hcw HC a0
    go_wp2_with (at_builtin; refine wpList_append_own_at _ rfl (.tmp 14) (.tmp 17) 43 rfl B 3 i0 _ 1 8 Tryz.underlying43 hi0 hz0 hz1 hz2 rfl (by omega) _ _ _ rfl HON.out _ 1 1 [.int .i64 x0] rfl rfl HNW (by simp [Value.oneCell']) (by unfold maxLen; omega) (by omega) hszn ?_)
    intro v' w2 hown' hgrow _ hat
    have hne:=Lib.ownBlock_ne HON.out HA0.out (by decide)
    have hgb:w2.heap[w1.heap.size]?=some (Obj.cells #[.int .i64 c.look,.int .i64 c.to,.slice ua c.red.length uc,.bool c.acc] 45):=(hgrow.block _ (Array.getElem?_eq_some_iff.1 HA0.out).1 (fun e=>hne e.symm)).trans HA0.out
    have hup:=HUL.out
    obtain ⟨va',vc',rfl⟩:=slice_of_ownK hown'
    have hx2:w2.cell? ⟨w.heap.size,2,none⟩=some (.int .i64 t):=by
      rw [← HE2.out.2]
      refine World.cell?_of_block (hgrow.block _ (by have:=HE2.out.1; simp; omega) (fun e=>?_))
      obtain ⟨a,ha,hk⟩:=hup _ e.symm
      have:=HIN.out t a _ ha hk
      simp only at this
      omega
    have hD:But (fun k=>(Value.slice ua c.red.length uc).ownBlock=some k∨k=w1.heap.size) (wa.alloc (Obj.cells #[.int .i64 x0] 3)) (w2.setCell ⟨w1.heap.size,2,none⟩ (.slice va' (c.red.length+1) vc')) :=
      But.setCell ⟨hgrow.os,hgrow.tape,hgrow.output,hgrow.size,fun k hk hd=>hgrow.block k hk (fun e=>hd (.inl e.symm))⟩ _ _ (.inr (.inr rfl))
    have hM3:MapB t B b n G U (w2.setCell ⟨w1.heap.size,2,none⟩ (.slice va' (c.red.length+1) vc')):=by
      refine HMB.out.keep hD ?_ ?_
      · rintro (e | e)
        · have:=HMB.out.own
          obtain ⟨D,⟨es,clock,hbk,_⟩,_⟩:=this
          rcases HON.out.2 with ⟨e1,_⟩ | ⟨g,cap,cur,e1,_,hg,_⟩
          · rw [e1] at e; cases e
          · rw [e1] at e; cases e
            rw [hg] at hbk; cases hbk
        · omega
      · rintro s a k hs ha hk (e | e)
        · obtain ⟨a',ha',hk'⟩:=hup k e
          exact HAPT.out s a a' k hs ha ha' hk hk'
        · have:=HIN.out s a k ha hk
          omega
    have hne':=Lib.ownBlock_ne hown' hgb (by decide)
    have hO3:OwnI B (c.red++[x0]) (.slice va' (c.red.length+1) vc') (w2.setCell ⟨w1.heap.size,2,none⟩ (.slice va' (c.red.length+1) vc')):=by
      have h1:w2.ownsRow B 3 1 (.slice va' (c.red.length+1) vc') (c.red++[x0]).length ((c.red++[x0]).map encI):=by
        simpa [encI] using hown'
      exact ownsRow_keep (D:=fun k=>k=w1.heap.size) h1 ((But.refl _ w2).setCell _ _ (.inr rfl)) (fun j hj e=>hne' (by rw [hj,e]))
    obtain ⟨W',hr,hM',hb⟩:=hM3.store hn ht ⟨c.look,c.to,c.red++[x0],c.acc⟩ _ hO3 (fun s c' k hs hc' h1 h2=>by
      rcases hat with e | e
      · rw [e] at h2
        obtain ⟨a',ha',hk'⟩:=hup k h2
        exact HAPT.out s c' a' k hs hc' ha' h1 hk'
      · rw [e] at h2; cases h2
        have:=HIN.out s c' _ hc' h1
        have:=HE2.out.1
        omega)
    unfold acVal at hr
    simp only at hr
    have hbn:=HBN.out
    have hAll:But (inA b G U) w W':=⟨hb.os.trans (hD.os.trans hbn.os),hb.tape.trans (hD.tape.trans hbn.tape),hb.output.trans (hD.output.trans hbn.output),Nat.le_trans hbn.size (Nat.le_trans hD.size hb.size),fun k hk hd=>by
      have k1:k<(wa.alloc (Obj.cells #[.int .i64 x0] 3)).heap.size:=Nat.lt_of_lt_of_le hk hbn.size
      refine (hb.block k (Nat.lt_of_lt_of_le k1 hD.size) (fun e=>hd (.inl e))).trans ((hD.block k k1 ?_).trans (hbn.block k hk))
      rintro (e | e)
      · obtain ⟨a',ha',hk'⟩:=hup k e
        exact hd (.inr ⟨t,a',ha',hk'⟩)
      · omega⟩
    have HR:Hid (Ended B b n G U t (endA c x0) w W'):=hEA ▸ ⟨_,hM',hAll,ended_in (fun k hk=>by
      rcases hat with e | e
      · rw [e] at hk
        obtain ⟨a',ha',hk'⟩:=hup k hk
        exact .inl (.inr ⟨t,a',ha',hk'⟩)
      · rw [e] at hk; cases hk
        have:=HE2.out.1
        exact .inr (by omega))⟩
    have g0:w2.cell? ⟨w1.heap.size,0,none⟩=some (.int .i64 c.look):=by rw [Lib.cell_of_heap hgb]; rfl
    have g1:w2.cell? ⟨w1.heap.size,1,none⟩=some (.int .i64 c.to):=by rw [Lib.cell_of_heap hgb]; rfl
    have g2:w2.cell? ⟨w1.heap.size,2,none⟩=some (.slice ua c.red.length uc):=by rw [Lib.cell_of_heap hgb]; rfl
    have g3:w2.cell? ⟨w1.heap.size,3,none⟩=some (.bool c.acc):=by rw [Lib.cell_of_heap hgb]; rfl
    have gz:w2.frozen? ⟨w1.heap.size,2,none⟩=false:=Lib.frozen_of_heap hgb _
    clear hM3 hM' hb hD hO3 hgb hgrow hown' hat hAll HMB HON HA0 HE2 HBN HUL HIN HAPT hup hne hne' hEA hbn HNW q2 e0' e2'
    go_wp2_with fail
    go_end0
    exact ⟨rfl,HR.out⟩
end Go.Proofs.YtbilbgjojdlobaaGreatDoor
namespace Go.Proofs.YtbilbgjojdlobaaGreatDoor
open Go.RowKit
theorem infoBd:(Tryz.prog.info? 100).map (·.size)=some 2:=by kernel_rfl
theorem cellsWr:Tryz.prog.cellsOf 102=3:=by kernel_rfl
theorem row_lies (P:Program) (fits:TypeId→Bool) (d e n i s:Nat) (hs:P.cellsOf e=s) (h0:s≠0) (hi:i<n):Go.rowAt P fits (d+1) e n (i * s) 1=Go.rowAt P fits (d+1) e 1 0 1:=by
  have e1:i * s / s=i:=Nat.mul_div_cancel _ (by omega)
  have e2:i * s % s=0:=Nat.mul_mod_left _ _
  unfold Go.rowAt
  simp only [hs,h0,if_false,e1,e2,Nat.zero_div,Nat.zero_mod,Nat.zero_add]
  have e3:(i+1≤n)=True:=by simp; omega
  have e4:(i<n)=True:=by simp [hi]
  simp only [e3,e4,Nat.le_refl,decide_true,Nat.zero_lt_one,Bool.true_and,Bool.and_true]
theorem liesWr {n i:Nat} (h:i<n):liesAt Tryz.prog Tryz.prog.depth 102 (n * 3 / Tryz.prog.cellsOf 102) (i * 3) 100 1=true:=by
  have h1:liesAt Tryz.prog Tryz.prog.depth 102 1 0 100 1=true:=by kernel_rfl
  rw [cellsWr,Nat.mul_div_cancel _ (by omega)]
  obtain ⟨m,hm⟩:∃ m,Tryz.prog.depth=m+1:=⟨Tryz.prog.depth - 1,by have:0<Tryz.prog.depth:=of_decide_eq_true (by kernel_rfl); omega⟩
  rw [hm] at h1 ⊢
  unfold liesAt at h1 ⊢
  rw [hm] at h1 ⊢
  rw [row_lies _ _ _ _ _ _ 3 cellsWr (by omega) h]
  simp only [Tryz.underlying100] at h1 ⊢
  exact h1
set_option maxHeartbeats 1000000 in
set_option maxRecDepth 100000 in
theorem check_used (a:Addr) (w:World) (h0:w.cell? a=some (.pointer (some a))) :
    Calls Tryz.prog 141 #[.pointer (some a)] w fun e w'=>e=.returned (.tuple #[])∧w'=w:=by
  obtain ⟨j,hj,_⟩:=Option.map_eq_some_iff.1 infoBd
  obtain ⟨b,o,x⟩:=a
  go_enter Tryz.func141,Tryz.ntmps141
  go_wp2
  rw [Lib.run_neq_ptr_same w _ Tryz.underlying97 hj]
  go_wp2
  go_end0
  exact ⟨rfl,rfl⟩
set_option maxHeartbeats 1000000 in
set_option maxRecDepth 100000 in
theorem check_fresh {B g i:Nat} {L:List Wr} {x:Wr} (w:World) (h:WsAt B g L w) (hx:L[i]?=some x) (h0:w.cell? ⟨g,i * 3,none⟩=some (.pointer none)) :
    Calls Tryz.prog 141 #[.pointer (some ⟨g,i * 3,none⟩)] w fun e w'=>e=.returned (.tuple #[])∧w'=w.setCell ⟨g,i * 3,none⟩ (.pointer (some ⟨g,i * 3,none⟩)):=by
  obtain ⟨j,hj,hjs⟩:=Option.map_eq_some_iff.1 infoBd
  obtain ⟨cs,hc,hs⟩:=h.blk
  have hi:i<L.length:=(List.getElem?_eq_some_iff.1 hx).1
  have hsh:w.shape? g=some (102,L.length * 3):=by simp [World.shape?,hc,hs]
  have hfz:w.frozen? ⟨g,i * 3,none⟩=false:=Lib.frozen_of_heap hc _
  have hlt:i * 3<L.length * 3:=by omega
  have hli:=liesWr hi
  generalize L.length=n at *
  generalize i * 3=o at *
  clear h hx hi hc hs
  go_enter Tryz.func141,Tryz.ntmps141
  go_wp2
  rw [Lib.run_to_unsafe w ⟨g,o,none⟩ Tryz.underlying97 Tryz.underlying225 hj (by rw [hjs]; decide) hsh hlt]
  simp only [Result.andThen]
  rw [Oper.upon_value]
  go_wp2
  rw [run_callFunc_extern Tryz.func164 (by kernel_rfl) (by kernel_rfl) (by kernel_rfl) (e:=Extern.AbiNoEscape.same) (by kernel_rfl)]
  rw [Lib.run_noEscape]
  simp only [Result.andThen]
  rw [Oper.upon_value]
  go_wp2
  rw [Lib.run_from_unsafe w ⟨g,o,none⟩ Tryz.underlying225 Tryz.underlying97 hj hsh hli]
  simp only [Result.andThen]
  rw [Oper.upon_value]
  go_wp2
  go_end0
  exact ⟨rfl,rfl⟩
theorem check_any {B g i:Nat} {L:List Wr} {x:Wr} (w:World) (h:WsAt B g L w) (hx:L[i]?=some x) :
    Calls Tryz.prog 141 #[.pointer (some ⟨g,i * 3,none⟩)] w fun e w'=>e=.returned (.tuple #[])∧WsAt B g L w'∧Wrote g w w':=by
  rcases h.ptr i x hx with h0 | h0
  · exact (check_fresh w h hx h0).mono fun _ _ ⟨he,hw⟩=>⟨he,by rw [hw]; exact (h.setPtr hx).1,by rw [hw]; exact (h.setPtr hx).2⟩
  · exact (check_used _ w h0).mono fun _ _ ⟨he,hw⟩=>⟨he,by rw [hw]; exact h,by rw [hw]; exact Wrote.refl _ _⟩
set_option maxHeartbeats 2000000 in
set_option maxRecDepth 100000 in
theorem byte_any {B g i:Nat} {L:List Wr} {x:Wr} (u:UInt8) (w:World) (h:WsAt B g L w) (hx:L[i]?=some x) (hl:x.bs.length≤1000000000) (hBw:B≤w.heap.size) :
    Calls Tryz.prog 117 #[.pointer (some ⟨g,i * 3,none⟩),.int .u8 u.toNat] w fun e w'=>e=.returned .nilIface∧WsAt B g (L.set i ⟨x.bs++[u],x.bad⟩) w'∧Wrote g w w':=by
  obtain ⟨i0,hi,hz0,hz1,hz2⟩:=info_parts infoU8
  have HC:Hid (Calls Tryz.prog 141 #[.pointer (some ⟨g,i * 3,none⟩)] w fun e w'=>e=.returned (.tuple #[])∧WsAt B g L w'∧Wrote g w w'):=check_any w h hx
  clear h
  obtain ⟨o,ho⟩:∃ o,i * 3=o:=⟨_,rfl⟩
  rw [ho] at HC ⊢
  go_enter Tryz.func117,Tryz.ntmps117
  go_wp2_with fail
  refine HC.out.mono ?_
  rintro e w1 ⟨rfl,hW,hw1⟩
  obtain ⟨v,hv,hown⟩:=hW.buf i x hx
  obtain ⟨va,vc,rfl⟩:=slice_of_ownK hown
  obtain ⟨cs,hc,hs⟩:=hW.blk
  rw [ho] at hv
  have hfz:w1.frozen? ⟨g,o+1,none⟩=false:=Lib.frozen_of_heap hc _
  have hsz:=hw1.1.size
  have HON:Hid ((w1.alloc (Obj.cells #[.int .u8 u.toNat] 5)).ownsRow B 5 1 (.slice va x.bs.length vc) x.bs.length (x.bs.map encU8)):=World.ownsRow.alloc hown _
  have hWa:=hW.next ((Below.refl _ w1).alloc (Nat.le_refl _) (Obj.cells #[.int .u8 u.toNat] 5))
  have HW:Hid (WsAt B g L (w1.alloc (Obj.cells #[.int .u8 u.toNat] 5))∧Wrote g w (w1.alloc (Obj.cells #[.int .u8 u.toNat] 5))):=⟨hWa,hw1.trans (hW.wrote ((Below.refl _ w1).alloc (Nat.le_refl _) _))⟩
  have HV:Hid ((w1.alloc (Obj.cells #[.int .u8 u.toNat] 5)).cell? ⟨g,i * 3+1,none⟩=some (.slice va x.bs.length vc)):=by
    show _=_
    rw [ho,← hv]
    exact World.cell?_of_block (Below.heap_alloc w1 _ g hW.lt)
  have hszn:B≤(w1.alloc (Obj.cells #[.int .u8 u.toNat] 5)).heap.size:=by simp; omega
  have HNW:=cell_one_new w1 (.int .u8 u.toNat) 5
  have HLT:Hid (g<w1.heap.size):=hW.lt
  have hca:(w1.alloc (Obj.cells #[.int .u8 u.toNat] 5)).heap[g]?=some (.cells cs 102 (0,0)):=(Below.heap_alloc w1 _ g hW.lt).trans hc
  have HCA:Hid ((w1.alloc (Obj.cells #[.int .u8 u.toNat] 5)).heap[g]?=some (.cells cs 102 (0,0))):=hca
  have HOS:Hid (o+1<cs.size):=by
    have:i<L.length:=(List.getElem?_eq_some_iff.1 hx).1
    show o+1<cs.size
    omega
  clear hWa hW hw1 hown hc hs HC hca
  go_wp2_with (at_builtin; refine wpList_append_own_at _ rfl (.tmp 11) (.tmp 13) 98 rfl B 5 i0 _ 1 1 Tryz.underlying98 hi hz0 hz1 hz2 rfl (by omega) _ _ _ rfl HON.out _ 1 1 [.int .u8 u.toNat] rfl rfl HNW (by simp [Value.oneCell']) (by unfold maxLen; omega) (by omega) hszn ?_)
  intro v' w2 hown' hgrow _ hat
  have HP:Hid (WsAt B g (L.set i ⟨x.bs++[u],x.bad⟩) (w2.setCell ⟨g,i * 3+1,none⟩ v')∧Wrote g w (w2.setCell ⟨g,i * 3+1,none⟩ v')):=by
    have:=HW.out.1.put hx HV.out hgrow (l:=x.bs++[u]) (by simpa [OwnB,encU8] using hown') (by simpa using hat) (by simp)
    exact ⟨this.1,HW.out.2.trans this.2⟩
  have hne:=Lib.ownBlock_ne HON.out HCA.out (by decide)
  have hc2:w2.heap[g]?=some (.cells cs 102 (0,0)):=(hgrow.block g (Array.getElem?_eq_some_iff.1 HCA.out).1 (fun e=>hne e.symm)).trans HCA.out
  have hf2:w2.frozen? ⟨g,o+1,none⟩=false:=Lib.frozen_of_heap hc2 _
  obtain ⟨u1,hu1⟩:∃ u1,w2.cell? ⟨g,o+1,none⟩=some u1:=⟨cs[o+1]'HOS.out,by rw [Lib.cell_of_heap hc2]; simp⟩
  obtain ⟨va',vc',rfl⟩:=slice_of_ownK hown'
  rw [ho] at HP
  clear hown' hgrow hat hc2 HON HCA HW HV
  go_wp2_with fail
  go_ret
  exact ⟨rfl,HP.out⟩
end Go.Proofs.YtbilbgjojdlobaaGreatDoor
namespace Go.Proofs.YtbilbgjojdlobaaGreatDoor
open Go.RowKit
end Go.Proofs.YtbilbgjojdlobaaGreatDoor
namespace Go.Proofs.YtbilbgjojdlobaaGreatDoor
open Go.RowKit
def IrssAt (R:List (List Ir)) (ao:Option Addr) (W:World):Prop :=
  ∀ (i:Nat) (l:List Ir),R[i]?=some l→∃ b off v,ao=some ⟨b,off,none⟩∧b<W.heap.size∧W.cell? ⟨b,off+i,none⟩=some v∧SlL l v W
theorem IrssAt.next {R:List (List Ir)} {ao:Option Addr} {W W':World} (h:IrssAt R ao W) (hb:Below W.heap.size W W'):IrssAt R ao W':=fun i r hr=>by
  obtain ⟨b,off,v,h0,h1,h2,h3⟩:=h i r hr
  exact ⟨b,off,v,h0,Nat.lt_of_lt_of_le h1 hb.size,(hb.cell (p:=⟨b,off+i,none⟩) h1).trans h2,h3.next hb⟩
theorem IrssAt.at {R:List (List Ir)} {ao:Option Addr} {w W:World} (h:IrssAt R ao w) (hb:Below w.heap.size w W) {j:Nat} (hj:j<R.length) :
    ∃ b off v,ao=some ⟨b,off,none⟩∧b<W.heap.size∧W.cell? ⟨b,off+j,none⟩=some v∧SlL R[j] v W:=h.next hb j R[j] (by simp [hj])
def SlLL (R:List (List Ir)) (v:Value) (W:World):Prop :=
  ∃ ao cap,v=.slice ao R.length cap∧IrssAt R ao W∧(ao=none→cap=0)∧R.length≤cap
theorem SlLL.next {R:List (List Ir)} {v:Value} {W W':World} (h:SlLL R v W) (hb:Below W.heap.size W W'):SlLL R v W':=by
  obtain ⟨ao,cap,h0,h1,h2⟩:=h
  exact ⟨ao,cap,h0,h1.next hb,h2⟩
theorem SlLL.nil (W:World):SlLL [] (.slice none 0 0) W:=⟨none,0,rfl,fun i l h=>by simp at h,fun _=>rfl,Nat.le_refl _⟩
def findI (A:List (List Ir)) (l:List Ir):Nat:=A.findIdx fun x=>decide (x=l)
theorem findI_at {A:List (List Ir)} {l:List Ir} {j:Nat} (h0:∀ k (hk:k<A.length),k<j→A[k]≠l) (hj:j<A.length) (h1:A[j]=l):findI A l=j:=by
  unfold findI
  rw [List.findIdx_eq hj]
  exact ⟨by simp [h1],fun k hk=>by simpa using h0 k (by omega) hk⟩
theorem findI_le (A:List (List Ir)) (l:List Ir):findI A l≤A.length:=List.findIdx_le_length
def QRow (D:Nat→Prop) (size:Nat) (v:Value) (n:Nat) (xs:List Value) (W:World):Prop :=
  ∃ ao b off cap,v=.slice ao n cap∧Came W size ao b off n cap xs∧(0<cap→D b)
theorem QRow.nil (D:Nat→Prop) (size:Nat) (W:World):QRow D size (.slice none 0 0) 0 [] W :=
  ⟨none,0,0,0,rfl,⟨Nat.le_refl _,fun h=>by omega,fun h=>by omega,by simp,by simp,fun j h=>by simp at h⟩,fun h=>by omega⟩
theorem QRow.of_own {D:Nat→Prop} {W:World} {B n size:Nat} {e:TypeId} {v:Value} {xs:List Value} (h:W.ownsRow B e size v n xs) (hD:∀ k,B≤k→D k):QRow D size v n xs W:=by
  have h0:=h
  obtain ⟨h1,h2⟩:=h
  rcases h2 with ⟨rfl,hn⟩ | ⟨g,cap,cur,rfl,hB,hg,hcap,hm,hsz,hx⟩
  · subst hn
    obtain rfl:xs=[]:=List.eq_nil_of_length_eq_zero (by simpa using h1)
    exact QRow.nil _ _ _
  · refine ⟨_,g,0,cap,rfl,⟨hcap,fun _=>rfl,fun _=>(Array.getElem?_eq_some_iff.1 hg).1,h1,fun j u hj=>?_,fun j hj=>?_⟩,fun _=>hD g hB⟩
    · have:=World.ownsRow.cells h0 (g:=g) rfl j u hj
      rwa [add_plain] at this
    · have hlt:n * size+j<cur.size:=by rw [hsz]; rw [Nat.sub_mul] at hj; omega
      refine ⟨?_,World.ownsRow.frozenAt h0 _⟩
      simp [World.cell?,hg,hlt]
theorem QRow.but {D E:Nat→Prop} {W W':World} {n size:Nat} {v:Value} {xs:List Value} (h:QRow D size v n xs W) (hb:But E W W') (hE:∀ k,D k→¬ E k):QRow D size v n xs W':=by
  obtain ⟨ao,b,off,cap,h0,h1,h2⟩:=h
  rcases Nat.eq_zero_or_pos cap with hz | hz
  · subst hz
    have hn:n=0:=Nat.le_zero.1 h1.le
    subst hn
    obtain rfl:xs=[]:=List.eq_nil_of_length_eq_zero (by simpa using h1.oldsLen)
    exact ⟨ao,b,off,0,h0,⟨Nat.le_refl _,fun h=>by omega,fun h=>by omega,by simp,by simp,fun j h=>by simp at h⟩,fun h=>by omega⟩
  · have hbl:=h1.lt hz
    have hE':=hE b (h2 hz)
    refine ⟨ao,b,off,cap,h0,⟨h1.le,h1.addr,fun _=>Nat.lt_of_lt_of_le hbl hb.size,h1.oldsLen,fun j u hj=>?_,fun j hj=>?_⟩,h2⟩
    · exact (hb.cell (p:=⟨b,off+j,none⟩) hbl hE').trans (h1.olds j u hj)
    · have:=h1.spare j hj
      rw [hb.cell (p:=⟨b,off+n * size+j,none⟩) hbl hE',hb.frozen (p:=⟨b,off+n * size+j,none⟩) hbl hE']
      exact this
theorem QRow.next {D:Nat→Prop} {W W':World} {n size:Nat} {v:Value} {xs:List Value} (h:QRow D size v n xs W) (hb:Below W.heap.size W W'):QRow D size v n xs W' :=
  h.but (E:=fun _=>False) (But.of_next hb) (fun _ _ h=>h)
theorem QRow.mono {D E:Nat→Prop} {W:World} {n size:Nat} {v:Value} {xs:List Value} (h:QRow D size v n xs W) (hd:∀ k,k<W.heap.size→D k→E k):QRow E size v n xs W:=by
  obtain ⟨ao,b,off,cap,h0,h1,h2⟩:=h
  exact ⟨ao,b,off,cap,h0,h1,fun h=>hd b (h1.lt h) (h2 h)⟩
theorem QRow.cut {D:Nat→Prop} {W:World} {n size:Nat} {b off cap:Nat} {xs ys:List Value} (h:QRow D size (.slice (some ⟨b,off,none⟩) (n+1) cap) (n+1) (xs++ys) W) (hx:xs.length=size) :
    (1<cap→QRow D size (.slice (some ⟨b,off+size,none⟩) n (cap - 1)) n ys W)∧(cap=1→n=0∧QRow D size (.slice (some ⟨b,off,none⟩) 0 0) n ys W):=by
  obtain ⟨ao,b',off',cap',h0,h1,h2⟩:=h
  cases h0
  have hle:=h1.le
  have hb:=h1.addr (by omega)
  cases hb
  have hl:=h1.oldsLen
  rw [List.length_append,hx,Nat.add_mul,Nat.one_mul] at hl
  refine ⟨fun hc=>⟨_,b,off+size,cap - 1,rfl,⟨by omega,fun _=>rfl,fun _=>h1.lt (by omega),by omega,fun j u hj=>?_,fun j hj=>?_⟩,fun _=>h2 (by omega)⟩,fun hc=>?_⟩
  · have:=h1.olds (size+j) u (by rw [List.getElem?_append_right (by omega),hx,Nat.add_sub_cancel_left]; exact hj)
    rwa [← Nat.add_assoc] at this
  · have:=h1.spare j (by rw [show cap - (n+1)=cap - 1 - n by omega]; exact hj)
    rw [Nat.add_mul,Nat.one_mul,show off+(n * size+size)+j=off+size+n * size+j by omega] at this
    exact this
  · have hn:n=0:=by omega
    subst hn
    obtain rfl:ys=[]:=List.eq_nil_of_length_eq_zero (by omega)
    exact ⟨rfl,_,0,0,0,rfl,⟨Nat.le_refl _,fun h=>by omega,fun h=>by omega,by simp,by simp,fun j h=>by simp at h⟩,fun h=>by omega⟩
theorem tape_setCells (b:Nat):∀ (vs:List Value) (o:Nat) (w:World),(w.setCells b o vs).tape=w.tape
  | [],_,_=>rfl
  | v :: r,o,w=>by rw [World.setCells,tape_setCells b r]; rfl
theorem But.setCells {D:Nat→Prop} (w:World) (b o:Nat) (vs:List Value) (hD:D b):But D w (w.setCells b o vs):=by
  refine ⟨World.os_setCells w b o vs,tape_setCells b vs o w,World.output_setCells w b o vs,?_,fun k hk hd=>World.heap_setCells_other w b o vs hk (fun e=>hd (e ▸ hD))⟩
  have:=(World.keptBut_setCells b (may:=fun _=>True) vs o w (fun _ _=>trivial)).size
  exact this
theorem run_append_q {P:Program} {w:World} {D:Nat→Prop} {n:Nat} {v:Value} {xs:List Value} (t ty e:TypeId) (i:TypeInfo) (z:Value) (size bytes:Nat) (ht:P.underlying t=some (.slice e)) (hi:P.info? e=some i) (hz:i.zero=some z) (hsize:i.size=size) (hby:i.bytes=bytes) (hzs:z.cells.size=size) (hsz:0<size)
    (h:QRow D size v n xs w) (hD:∀ k,w.heap.size≤k→D k) (ad:Addr) (c:Nat) (news:List Value) (hl:news.length=size) (hnews:∀ j u,news[j]?=some u→w.cell? (ad.add j)=some u) (h1:∀ u∈news,u.oneCell'=true)
    (h63:n+1≤maxLen) (hbytes:(n+1) * bytes≤140737488355328) :
    ∃ v' w',(Builtin.append_ #[t,t] ty #[v,.slice (some ad) 1 c]).run P w=.ok v' w'∧QRow D size v' (n+1) (xs++news) w'∧But D w w':=by
  obtain ⟨ao,b,off,cap,rfl,hc,hb⟩:=h
  have hgrow:∀ {w':World},w.grownBy w' none→But D w w':=fun hg=>⟨hg.os,hg.tape,hg.output,hg.size,fun k hk _=>hg.block k hk (by simp)⟩
  by_cases hroom:n+1≤cap
  · have hcap:0<cap:=by omega
    have hao:=hc.addr hcap
    subst hao
    have hfit:size≤(cap - n) * size:=Nat.le_mul_of_pos_left _ (by omega)
    have hrun:=run_append_room_cells (P:=P) w t ty e i ht hi b off n cap ad 1 c news (by rw [hl,hsize,Nat.one_mul]) hnews h1 hroom
      (fun j hj=>by rw [hsize]; exact (hc.spare j (by omega)).1) (fun j hj=>by rw [hsize]; exact (hc.spare j (by omega)).2)
    rw [hsize] at hrun
    have hsome:∀ j,j<news.length→(w.cell? ⟨b,off+n * size+j,none⟩).isSome=true:=fun j hj=>(hc.spare j (by omega)).1
    have hB:But D w (w.setCells b (off+n * size) news):=But.setCells w b _ news (hb hcap)
    have hol:=hc.oldsLen
    refine ⟨_,_,hrun,⟨_,b,off,cap,rfl,⟨hroom,fun _=>rfl,fun _=>Nat.lt_of_lt_of_le (hc.lt hcap) hB.size,by rw [List.length_append,hol,hl,Nat.add_mul,Nat.one_mul],fun j u hj=>?_,fun j hj=>?_⟩,fun _=>hb hcap⟩,hB⟩
    · by_cases hjl:j<xs.length
      · rw [List.getElem?_append_left hjl] at hj
        rw [World.cell?_setCells_out b _ _ _ _ (fun _ _=>Or.inl (by show off+j<_; omega))]
        exact hc.olds j u hj
      · rw [List.getElem?_append_right (by omega)] at hj
        have hlt:=(List.getElem?_eq_some_iff.1 hj).1
        have:=World.cell?_setCells_in b news (off+n * size) w hsome (j - xs.length) hlt
        rw [show off+n * size+(j - xs.length)=off+j by omega] at this
        rw [this,← hj,List.getElem?_eq_getElem hlt]
    · rw [Nat.add_mul,Nat.one_mul,World.frozen?_setCells,World.cell?_setCells_out b _ _ _ _ (fun _ _=>Or.inr (by show _≤off+(n * size+size)+j; omega))]
      have hj':size+j<(cap - n) * size:=by
        have:(cap - n) * size=(cap - (n+1)) * size+size:=by rw [show cap - n=cap - (n+1)+1 by omega,Nat.add_mul,Nat.one_mul]
        omega
      have:=hc.spare (size+j) hj'
      rwa [show off+n * size+(size+j)=off+(n * size+size)+j by omega] at this
  · cases ao with
    | none =>
      have hcap:cap=0:=by
        rcases Nat.eq_zero_or_pos cap with h0 | h0
        · exact h0
        · have:=hc.addr h0; cases this
      subst hcap
      have hn:n=0:=Nat.le_zero.1 hc.le
      subst hn
      obtain rfl:xs=[]:=List.eq_nil_of_length_eq_zero (by simpa using hc.oldsLen)
      obtain ⟨v',w',hrun,r1,r2,_⟩:=run_append_own (P:=P) w w.heap.size t ty e i z size bytes ht hi hz hsize hby hzs hsz (.slice none 0 0) 0 [] (World.ownsRow_nil w _ e size) ad 1 c news (by rw [hl,Nat.one_mul]) hnews h1 h63 hbytes (Nat.le_refl _)
      exact ⟨v',w',hrun,QRow.of_own r1 hD,hgrow r2⟩
    | some a' =>
      have holds:∀ j u,xs[j]?=some u→w.cell? (a'.add j)=some u:=fun j u hj=>by
        rcases Nat.eq_zero_or_pos cap with h0 | h0
        · subst h0
          have hn:n=0:=Nat.le_zero.1 hc.le
          subst hn
          obtain rfl:xs=[]:=List.eq_nil_of_length_eq_zero (by simpa using hc.oldsLen)
          simp at hj
        · have:=hc.addr h0
          cases this
          rw [add_plain]
          exact hc.olds j u hj
      obtain ⟨v',w',hrun,r1,r2⟩:=run_append_arg_grows (P:=P) w t ty e i z size bytes ht hi hz hsize hby hzs hsz a' n cap xs hc.oldsLen holds ad 1 c news (by rw [hl,Nat.one_mul]) hnews (by omega) h63 hbytes
      exact ⟨v',w',hrun,QRow.of_own r1 hD,hgrow r2⟩
theorem wp_append_q {P:Program} {w:World} {o:Oper} {a:Act} {K:Act→World→Prop} {Q:Exit→Act→World→Prop} (s x:Operand) (t:TypeId)
    (ho:o.op=.call { callee:=.builtin .append,args:=#[s,x],argTypes:=#[t,t] }) {D:Nat→Prop} {n:Nat} {v:Value} {xs:List Value} (e:TypeId) (i:TypeInfo) (z:Value) (size bytes:Nat) (ht:P.underlying t=some (.slice e)) (hi:P.info? e=some i) (hz:i.zero=some z) (hsize:i.size=size) (hby:i.bytes=bytes) (hzs:z.cells.size=size) (hsz:0<size)
    (hs:a.eval s=v) (h:QRow D size v n xs w) (hD:∀ k,w.heap.size≤k→D k) (ad:Addr) (c:Nat) (news:List Value) (hx:a.eval x=.slice (some ad) 1 c) (hl:news.length=size) (hnews:∀ j u,news[j]?=some u→w.cell? (ad.add j)=some u) (h1:∀ u∈news,u.oneCell'=true)
    (h63:n+1≤maxLen) (hbytes:(n+1) * bytes≤140737488355328)
    (hK:∀ v' w',QRow D size v' (n+1) (xs++news) w'→But D w w'→K (a.put o.dst v') w'):o.wp P a w K Q:=by
  obtain ⟨v',w',hrun,k1,k2⟩:=run_append_q (P:=P) (w:=w) t o.type e i z size bytes ht hi hz hsize hby hzs hsz h hD ad c news hl hnews h1 h63 hbytes
  unfold Oper.wp
  simp [execOp,ho,resolve,invoke,builtin,hs,hx,hrun,Result.andThen]
  exact hK v' w' k1 k2
theorem QRow.shape {D:Nat→Prop} {W:World} {n size:Nat} {v:Value} {xs:List Value} (h:QRow D size v n xs W):∃ ao cap,v=.slice ao n cap:=by
  obtain ⟨ao,b,off,cap,h0,_⟩:=h; exact ⟨ao,cap,h0⟩
theorem QRow.irs {D:Nat→Prop} {W:World} {v:Value} {l:List Ir} (h:QRow D 3 v l.length (l.flatMap encR) W) (hok:∀ x∈l,okR x):SlL l v W:=by
  obtain ⟨ao,b,off,cap,h0,h1,h2⟩:=h
  refine ⟨ao,cap,h0,fun i x hi=>?_,fun e=>?_,h1.le⟩
  · have hil:=(List.getElem?_eq_some_iff.1 hi).1
    have hcap:0<cap:=by have:=h1.le; omega
    refine ⟨b,off,h1.addr hcap,h1.lt hcap,?_,?_,?_,hok x (List.mem_of_getElem? hi)⟩
    · have:=h1.olds (i * 3+0) (.int .i64 x.1) (by rw [flatR_get hi (by omega)]; rfl)
      simpa using this
    · have:=h1.olds (i * 3+1) (.int .i64 x.2.1) (by rw [flatR_get hi (by omega)]; rfl)
      simpa [Nat.add_assoc] using this
    · have:=h1.olds (i * 3+2) (.int .i64 x.2.2) (by rw [flatR_get hi (by omega)]; rfl)
      simpa [Nat.add_assoc] using this
  · rcases Nat.eq_zero_or_pos cap with hz | hz
    · exact hz
    · have:=h1.addr hz; rw [e] at this; cases this
theorem SlI.but {D:Nat→Prop} {W W':World} {l:List Int} {v:Value} (h:SlI l v W) (hb:But D W W') (hd:∀ ad n c,v=.slice (some ad) n c→l≠[]→¬ D ad.block):SlI l v W':=by
  obtain ⟨ao,cap,h0,h1,h2⟩:=h
  refine ⟨ao,cap,h0,fun i x hi=>?_,h2⟩
  obtain ⟨b,off,e,hbl,hc⟩:=h1 i x hi
  subst e
  have hnd:=hd _ _ _ h0 (fun e=>by subst e; simp at hi)
  exact ⟨b,off,rfl,Nat.lt_of_lt_of_le hbl hb.size,(hb.cell (p:=⟨b,off+i,none⟩) hbl hnd).trans hc⟩
theorem SlL.but {D:Nat→Prop} {W W':World} {l:List Ir} {v:Value} (h:SlL l v W) (hb:But D W W') (hd:∀ ad n c,v=.slice (some ad) n c→l≠[]→¬ D ad.block):SlL l v W':=by
  obtain ⟨ao,cap,h0,h1,h2⟩:=h
  refine ⟨ao,cap,h0,fun i x hi=>?_,h2⟩
  obtain ⟨b,off,e,hbl,c0,c1,c2,hok⟩:=h1 i x hi
  subst e
  have hnd:=hd _ _ _ h0 (fun e=>by subst e; simp at hi)
  exact ⟨b,off,rfl,Nat.lt_of_lt_of_le hbl hb.size,(hb.cell (p:=⟨b,off+i * 3,none⟩) hbl hnd).trans c0,(hb.cell (p:=⟨b,off+i * 3+1,none⟩) hbl hnd).trans c1,(hb.cell (p:=⟨b,off+i * 3+2,none⟩) hbl hnd).trans c2,hok⟩
open Classical in
noncomputable def closF (f:Fl) (S:List Ir):List Ir:=if h:∃ L,ClosI f (fun x=>x∈S) L then h.choose else []
theorem closF_eq {f:Fl} {S L:List Ir} (h:ClosI f (fun x=>x∈S) L):closF f S=L:=by
  unfold closF
  have hx:∃ L,ClosI f (fun x=>x∈S) L:=⟨L,h⟩
  rw [dif_pos hx]
  exact closI_unique hx.choose_spec h
theorem closF_len {f:Fl} (hp:FitP f) (S:List Ir):(closF f S).length≤maxI:=by
  unfold closF
  split
  · rename_i h; exact h.choose_spec.len hp
  · simp
noncomputable def gotoF (f:Fl) (l:List Ir) (s:Int):List Ir:=closF f (movedL f l s)
open Classical in
noncomputable def addA (A:List (List Ir)) (g:List Ir):List (List Ir):=if g≠[]∧g ∉ A then A++[g] else A
noncomputable def rowA (f:Fl) (l:List Ir):Nat→Nat→List (List Ir)→Option (List (List Ir))
  | _,0,A=>some A
  | s,k+1,A=>if (addA A (gotoF f l s)).length > 600 then none else rowA f l (s+1) k (addA A (gotoF f l s))
noncomputable def runA (f:Fl):Nat→Nat→List (List Ir)→Option (List (List Ir))
  | 0,_,A=>some A
  | k+1,i,A=>match A[i]? with
    | none=>some A
    | some l=>match rowA f l 0 f.n A with
      | none=>none
      | some A'=>runA f k (i+1) A'
noncomputable def allF (f:Fl):Option (List (List Ir)):=runA f 601 0 [closF f (begL f)]
theorem runA_end {f:Fl} {i:Nat} {A:List (List Ir)} (hi:i=A.length) (h:i≤600):runA f (601 - i) i A=some A:=by
  rw [show 601 - i=(600 - i)+1 by omega,runA]
  rw [List.getElem?_eq_none (by omega)]
theorem addA_new {A:List (List Ir)} {g:List Ir} (h:g≠[]) (k:g ∉ A):addA A g=A++[g]:=by unfold addA; rw [if_pos ⟨h,k⟩]
theorem addA_nil (A:List (List Ir)):addA A []=A:=by unfold addA; simp
theorem addA_old {A:List (List Ir)} {g:List Ir} (k:g∈A):addA A g=A:=by unfold addA; rw [if_neg (fun h=>h.2 k)]
def inB (v:Value) (k:Nat):Prop:=∃ off n c,v=.slice (some ⟨k,off,none⟩) n c∧0<c
theorem inB.of {ad:Addr} {n c:Nat} {k:Nat} (h:inB (.slice (some ad) n c) k):ad.block=k:=by
  obtain ⟨_,_,_,e,_⟩:=h
  cases e; rfl
theorem QRow.exact {D:Nat→Prop} {W:World} {n size:Nat} {v:Value} {xs:List Value} (h:QRow D size v n xs W):QRow (fun k=>D k∧inB v k∧k<W.heap.size) size v n xs W:=by
  obtain ⟨ao,b,off,cap,h0,h1,h2⟩:=h
  exact ⟨ao,b,off,cap,h0,h1,fun hc=>⟨h2 hc,⟨off,n,cap,by rw [h0,h1.addr hc],hc⟩,h1.lt hc⟩⟩
theorem SlL.lt {l:List Ir} {ad:Addr} {n c:Nat} {W:World} (h:SlL l (.slice (some ad) n c) W) (hl:l≠[]):ad.block<W.heap.size:=by
  obtain ⟨ao,cap,h0,h1,_⟩:=h
  cases h0
  obtain ⟨x,l',rfl⟩:=List.exists_cons_of_ne_nil hl
  obtain ⟨b,off,e,hb,_⟩:=h1 0 x rfl
  cases e; exact hb
def symsN (N:Nat) (l:List It):List Nat:=(l.filter fun x=>decide (0≤x.sym∧x.sym<(N:Int))).map fun x=>x.sym.toNat
theorem symsN_cons_no {N:Nat} {x:It} {l:List It} (h:x.sym<0∨(N:Int)≤x.sym):symsN N (x :: l)=symsN N l:=by
  unfold symsN; rw [List.filter_cons_of_neg (by simp; omega)]
theorem symsN_cons_yes {N:Nat} {x:It} {l:List It} (h:¬ (x.sym<0∨(N:Int)≤x.sym)):symsN N (x :: l)=x.sym.toNat :: symsN N l:=by
  unfold symsN; rw [List.filter_cons_of_pos (by simp; omega)]; rfl
theorem rowAt_gives {P:Nat→Int→Prop} {n:Nat} {R:List (List Int)} (h:GivesR P n R) {s:Nat} (hs:s<n) {t:Int}:t∈rowAt R s↔P s t:=by
  rw [← inR_row (by rw [h.1]; exact hs)]; exact h.2.2 s hs t
theorem onb_gives {base:Nat→Prop} {g:Gr} {n:Nat} {L:List Bool} (h:GivesB base g n L) {s:Nat} (hs:s<n):onb L s=true↔Der base g s:=by
  rw [onb_iff]; exact h.2 s hs
theorem row_le_gives {P:Nat→Int→Prop} {n m:Nat} {R:List (List Int)} (h:GivesR P n R) (hb:∀ s t,P s t→0≤t∧t<m) (s:Nat):(rowAt R s).length≤m:=by
  by_cases hs:s<R.length
  · have hr:Rising (rowAt R s):=by rw [rowAt_get hs]; exact h.2.1 _ (List.getElem_mem hs)
    exact rising_length hr (fun t ht=>hb s t ((rowAt_gives h (by rw [← h.1]; exact hs)).1 ht))
  · have:rowAt R s=[]:=by unfold rowAt; rw [List.getD_eq_getElem?_getD,List.getElem?_eq_none (by omega)]; rfl
    rw [this]; simp
theorem first_row_le {f:Fl} {R:List (List Int)} (hn:f.n≤600) (h:GivesR (FstP f) f.n R) (s:Nat):(rowAt R s).length≤601:=by
  have ht:f.terms.length≤f.n:=by unfold Fl.n; omega
  exact row_le_gives (m:=601) h (fun s t h=>by have h1:=fst_lt h; omega) s
end Go.Proofs.YtbilbgjojdlobaaGreatDoor
namespace Go.Proofs.YtbilbgjojdlobaaGreatDoor
def lookF (R:List (List Int)) (Le:List Bool):List Nat→List Int→List Int × Bool
  | [],A=>(A,true)
  | s :: r,A=>if onb Le s=true then lookF R Le r (unionL A (rowAt R s)) else (unionL A (rowAt R s),false)
def looksL (R:List (List Int)) (Le:List Bool) (sy:List Nat) (k:Int):List Int :=
  if (lookF R Le sy []).2=true then unionL (lookF R Le sy []).1 [k] else (lookF R Le sy []).1
theorem lookF_mem {R:List (List Int)} {Le:List Bool} {N:Nat} {emp:Nat→Prop} {fst:Nat→Int→Prop} (hR:∀ s,s<N→∀ t,t∈rowAt R s↔fst s t) (hL:∀ s,s<N→(onb Le s=true↔emp s)) :
    ∀ {sy:List Nat} {A:List Int} {t:Int},(∀ s∈sy,s<N)→(t∈(lookF R Le sy A).1↔t∈A∨Beg emp fst (fun _=>False) sy t)
  | [],A,t,_=>by
    rw [lookF]
    constructor
    · exact .inl
    · rintro (h | h)
      · exact h
      · cases h with | behind h=>exact h.elim
  | s :: r,A,t,hs=>by
    have hsn:=hs s (by simp)
    rw [lookF]; split
    · rename_i ho
      rw [lookF_mem hR hL (fun x hx=>hs x (by simp [hx])),mem_unionL,hR _ hsn]
      constructor
      · rintro ((h | h) | h)
        · exact .inl h
        · exact .inr (.here h)
        · exact .inr (.next ((hL _ hsn).1 ho) h)
      · rintro (h | h)
        · exact .inl (.inl h)
        · cases h with
          | here h=>exact .inl (.inr h)
          | next _ h=>exact .inr h
    · rename_i ho
      rw [mem_unionL,hR _ hsn]
      constructor
      · rintro (h | h)
        · exact .inl h
        · exact .inr (.here h)
      · rintro (h | h)
        · exact .inl h
        · cases h with
          | here h=>exact .inr h
          | next h _=>exact absurd ((hL _ hsn).2 h) ho
theorem lookF_all {R:List (List Int)} {Le:List Bool} {N:Nat} {emp:Nat→Prop} (hL:∀ s,s<N→(onb Le s=true↔emp s)) :
    ∀ {sy:List Nat} {A:List Int},(∀ s∈sy,s<N)→((lookF R Le sy A).2=true↔∀ s∈sy,emp s)
  | [],A,_=>by rw [lookF]; simp
  | s :: r,A,hs=>by
    have hsn:=hs s (by simp)
    rw [lookF]; split
    · rename_i ho
      rw [lookF_all hL (fun x hx=>hs x (by simp [hx]))]
      simp [(hL _ hsn).1 ho]
    · rename_i ho
      simp only [Bool.false_eq_true,List.mem_cons,forall_eq_or_imp,false_iff,not_and]
      intro h; exact absurd ((hL _ hsn).2 h) ho
theorem looksL_mem {R:List (List Int)} {Le:List Bool} {N:Nat} {emp:Nat→Prop} {fst:Nat→Int→Prop} (hR:∀ s,s<N→∀ t,t∈rowAt R s↔fst s t) (hL:∀ s,s<N→(onb Le s=true↔emp s)) {sy:List Nat} {k t:Int} (hs:∀ s∈sy,s<N) :
    t∈looksL R Le sy k↔Beg emp fst (fun t=>t=k) sy t:=by
  rw [beg_iff]
  unfold looksL
  have h1:=lookF_mem hR hL (A:=[]) (t:=t) hs
  have h2:=lookF_all (R:=R) hL (A:=[]) hs
  simp at h1
  split
  · rename_i h
    rw [mem_unionL,h1]
    simp only [List.mem_singleton]
    exact ⟨fun h'=>h'.imp id (fun e=>⟨h2.1 h,e⟩),fun h'=>h'.imp id (fun e=>e.2)⟩
  · rename_i h
    rw [h1]
    constructor
    · exact .inl
    · rintro (h' | h')
      · exact h'
      · exact absurd (h2.2 h'.1) h
structure FE (f:Fl) (R:List (List Int)) (Le:List Bool):Prop where
  r:GivesR (FstP f) f.n R
  e:GivesB (fun _=>False) f.gr f.n Le
theorem FE.looks {f:Fl} {R:List (List Int)} {Le:List Bool} (h:FE f R Le) (hp:FitP f) {x:Ir} {t:Int}:t∈looksL R Le (behI f x) x.2.2↔LookP f x t :=
  looksL_mem (emp:=EmpP f) (fst:=FstP f) (fun _ hs _=>rowAt_gives h.r hs) (fun _ hs=>onb_gives h.e hs) (behI_lt hp)
def addsL (f:Fl) (R:List (List Int)) (Le:List Bool) (x:Ir):List Ir :=
  match nextI f x with
  | some s=>(ofA f s).flatMap fun q=>(looksL R Le (behI f x) x.2.2).map fun t=>(q,0,t)
  | none=>[]
theorem adds_iff {f:Fl} {R:List (List Int)} {Le:List Bool} (h:FE f R Le) (hp:FitP f) {x y:Ir}:y∈addsL f R Le x↔∃ (s t:Int) (q:Nat) (p:Pr),y=((q:Int),(0:Int),t)∧nextI f x=some s∧f.prods[q]?=some p∧p.left=s∧LookP f x t:=by
  unfold addsL
  cases hn:nextI f x with
  | none=>simp
  | some s =>
    simp only [List.mem_flatMap,List.mem_map]
    constructor
    · rintro ⟨q',hq',t,ht,rfl⟩
      obtain ⟨q,p,rfl,h1,h2⟩:=mem_ofA.1 hq'
      exact ⟨s,t,q,p,rfl,rfl,h1,h2,(h.looks hp).1 ht⟩
    · rintro ⟨s',t,q,p,rfl,e,h1,h2,h3⟩
      cases e
      exact ⟨q,mem_ofA.2 ⟨q,p,rfl,h1,h2⟩,t,(h.looks hp).2 h3,rfl⟩
structure CW (f:Fl) (S:Ir→Prop) (set todo:List Ir):Prop where
  rise:RisingI set
  sound:∀ x∈set,Cl f S x
  tsound:∀ x∈todo,fitI f x=true→Cl f S x
  base:∀ x,S x→fitI f x=true→x∈set∨x∈todo
  closed:∀ x∈set,∀ (s t:Int) (q:Nat) (p:Pr),nextI f x=some s→f.prods[q]?=some p→p.left=s→LookP f x t→((q:Int),(0:Int),t)∈set∨((q:Int),(0:Int),t)∈todo
theorem CW.start (f:Fl) (l:List Ir):CW f (fun x=>x∈l) [] l :=
  ⟨List.Pairwise.nil,by simp,fun x hx hf=>.base hx hf,fun x hx _=>.inr hx,by simp⟩
theorem CW.skip {f:Fl} {S:Ir→Prop} {set rest:List Ir} {x:Ir} (h:CW f S set (x :: rest)) (hx:fitI f x=false∨x∈set):CW f S set rest:=by
  have key:∀ y,fitI f y=true→y∈set∨y∈x :: rest→y∈set∨y∈rest:=fun y hy h'=>by
    rcases h' with h' | h'
    · exact .inl h'
    · rcases List.mem_cons.1 h' with rfl | h'
      · rcases hx with hx | hx
        · rw [hx] at hy; cases hy
        · exact .inl hx
      · exact .inr h'
  refine ⟨h.rise,h.sound,fun y hy=>h.tsound y (by simp [hy]),fun y hy hf=>key y hf (h.base y hy hf),fun y hy s t q p hn hq hl hk=>key _ ?_ (h.closed y hy s t q p hn hq hl hk)⟩
  exact fit_zero hq (look_le (nextI_fit hn) hk)
theorem CW.new {f:Fl} {S:Ir→Prop} {set rest adds:List Ir} {x:Ir} (h:CW f S set (x :: rest)) (hx:fitI f x=true) (hA:∀ y,y∈adds↔∃ (s t:Int) (q:Nat) (p:Pr),y=((q:Int),(0:Int),t)∧nextI f x=some s∧f.prods[q]?=some p∧p.left=s∧LookP f x t):CW f S (putI x set) (rest++adds):=by
  have hcx:=h.tsound x (by simp) hx
  have key:∀ y,y∈set∨y∈x :: rest→y∈putI x set∨y∈rest++adds:=fun y h'=>by
    rcases h' with h' | h'
    · exact .inl (mem_putI.2 (.inr h'))
    · rcases List.mem_cons.1 h' with rfl | h'
      · exact .inl (mem_putI.2 (.inl rfl))
      · exact .inr (List.mem_append.2 (.inl h'))
  refine ⟨rising_putI h.rise,fun y hy=>?_,fun y hy hf=>?_,fun y hy hf=>key y (h.base y hy hf),fun y hy s t q p hn hq hl hk=>?_⟩
  · rcases mem_putI.1 hy with rfl | hy
    · exact hcx
    · exact h.sound y hy
  · rcases List.mem_append.1 hy with hy | hy
    · exact h.tsound y (by simp [hy]) hf
    · obtain ⟨s,t,q,p,rfl,k1,k2,k3,k4⟩:=(hA y).1 hy
      exact .step hcx k1 k2 k3 k4
  · rcases mem_putI.1 hy with rfl | hy
    · exact .inr (List.mem_append.2 (.inr ((hA _).2 ⟨s,t,q,p,rfl,hn,hq,hl,hk⟩)))
    · exact key _ (h.closed y hy s t q p hn hq hl hk)
theorem CW.done {f:Fl} {S:Ir→Prop} {set:List Ir} (h:CW f S set []):ClosI f S set :=
  ⟨h.rise,fun x=>⟨h.sound x,fun hx=>cl_least (A:=fun x=>x∈set) (fun y hy hf=>by rcases h.base y hy hf with h' | h'; exact h'; cases h') (fun y s t q p hy hn hq hl hk=>by rcases h.closed y hy s t q p hn hq hl hk with h' | h'; exact h'; cases h') hx⟩⟩
theorem CW.len {f:Fl} {S:Ir→Prop} {set todo:List Ir} (hp:FitP f) (h:CW f S set todo):set.length≤maxI:=items_le hp h.rise.nodup (fun x hx=>cl_fit (h.sound x hx))
end Go.Proofs.YtbilbgjojdlobaaGreatDoor
