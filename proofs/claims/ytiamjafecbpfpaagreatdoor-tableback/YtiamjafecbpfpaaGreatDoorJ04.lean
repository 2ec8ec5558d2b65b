import Derived.Test.YtiamjafecbpfpaaGreatDoorJ01
import Derived.Test.YtiamjafecbpfpaaGreatDoorJ02
import Derived.Test.YtiamjafecbpfpaaGreatDoorJ03
import Derived.Deep.Cut
import Derived.Laws.StructEq
import Derived.Deep.MidRow
import Derived.Lib.UnsafeStr
import Derived.Shelf.RegionOpenPlain

namespace Go.Proofs.YtiamjafecbpfpaaGreatDoor
open Go.RowKit
set_option maxRecDepth 100000 in
set_option maxHeartbeats 1600000 in
theorem isTorn_any (a:Ac) (u:Value) (w:World) (hu:SlI a.red u w) :
    Calls Tryz.prog 27 #[.agg #[.int .i64 a.look,.int .i64 a.to,u,.bool a.acc]] w fun e w'=>e=.returned (.bool (tornA a))∧Below w.heap.size w w':=by
  obtain ⟨ua,uc,rfl,_⟩:=hu
  obtain ⟨a0,a1,ar,a3⟩:=a
  simp only at *
  have HTF:Hid (¬ (0<ar.length∧1<ar.length+(if a1=-1 then 0 else 1)+(if a3=true then 1 else 0))→tornA ⟨a0,a1,ar,a3⟩=false):=fun h=>torn_false h
  have HTT:Hid ((0<ar.length∧1<ar.length+(if a1=-1 then 0 else 1)+(if a3=true then 1 else 0))→tornA ⟨a0,a1,ar,a3⟩=true):=(torn_iff ⟨a0,a1,ar,a3⟩).2
  have B0:Below w.heap.size w (w.alloc (Obj.cells #[.int .i64 a0,.int .i64 a1,.slice ua ar.length uc,.bool a3] 41)):=(Below.refl _ _).alloc (Nat.le_refl _) _
  go_enter Tryz.func27,Tryz.ntmps27
  rcases Nat.lt_trichotomy ar.length 1 with h | h | h
  · have h0:((ar.length:Int) == 0)=true:=by simp; exact List.eq_nil_of_length_eq_zero (by omega)
    have h0':(ar.length:Int)=0:=by omega
    have HE:Hid (tornA ⟨a0,a1,ar,a3⟩=false):=HTF.out (fun q=>by have:=q.1; omega)
    clear HTF HTT
    go_wp2_with fail
    go_ret
    exact ⟨by rw [HE.out]; rfl,B0⟩
  · have h0:((ar.length:Int) == 0)=false:=by rw [h]; rfl
    have h0':¬ (ar.length:Int)=0:=by omega
    have h1:((ar.length:Int) == 1)=true:=by rw [h]; rfl
    have h1':(ar.length:Int)=1:=by omega
    by_cases ht:a1=-1
    · subst ht
      cases a3 with
      | true =>
        have HE:Hid (tornA ⟨a0,-1,ar,true⟩=true):=HTT.out ⟨by omega,by simp only [reduceIte,Nat.add_zero]; omega⟩
        clear HTF HTT
        go_wp2_with fail
        go_ret
        exact ⟨by rw [HE.out]; rfl,by rw [h] at B0; exact B0⟩
      | false =>
        have HE:Hid (tornA ⟨a0,-1,ar,false⟩=false):=HTF.out (fun q=>by have h2:=q.2; simp only [reduceIte,Bool.false_eq_true,Nat.add_zero] at h2; omega)
        clear HTF HTT
        go_wp2_with fail
        go_ret
        exact ⟨by rw [HE.out]; rfl,by rw [h] at B0; exact B0⟩
    · have ht2:(a1 != -1)=true:=by simpa using ht
      have HE:Hid (tornA ⟨a0,a1,ar,a3⟩=true):=HTT.out ⟨by omega,by simp only [if_neg ht]; omega⟩
      clear HTF HTT
      go_wp2_with fail
      go_ret
      exact ⟨by rw [HE.out]; rfl,by rw [h] at B0; exact B0⟩
  · have h0:((ar.length:Int) == 0)=false:=beq_eq_false_iff_ne.2 (by omega)
    have h0':¬ (ar.length:Int)=0:=by omega
    have h1:((ar.length:Int) == 1)=false:=beq_eq_false_iff_ne.2 (by omega)
    have h1':¬ (ar.length:Int)=1:=by omega
    have HE:Hid (tornA ⟨a0,a1,ar,a3⟩=true):=HTT.out ⟨by omega,by omega⟩
    clear HTF HTT
    go_wp2_with fail
    go_ret
    exact ⟨by rw [HE.out]; rfl,B0⟩
set_option maxRecDepth 100000 in
set_option maxHeartbeats 4000000 in
theorem torn_any (l:List Rw) (v:Value) (w:World) (hl:SlW l v w) (hsz:sizeTb l≤100000000) :
    Calls Tryz.prog 13 #[.agg #[v]] w fun e w'=>∃ v',e=.returned v'∧SlG (tornL l) v' w'∧Apart w.heap.size v'∧Below w.heap.size w w':=by
  obtain ⟨i0,hi0,hz0,hz1,hz2⟩:=info_parts infoArr2
  have HIS:Hid (∀ (a:Ac) (u:Value) W,SlI a.red u W→Calls Tryz.prog 27 #[.agg #[.int .i64 a.look,.int .i64 a.to,u,.bool a.acc]] W fun e w'=>e=.returned (.bool (tornA a))∧Below W.heap.size W w'):=fun a u W h=>isTorn_any a u W h
  have HL:Hid (∀ W,Below w.heap.size w W→SlW l v W):=fun W hb=>hl.next hb
  have HOK:Hid (∀ p∈tornL l,okP p):=ok_torn hl
  have HTL:Hid ((tornL l).length≤sizeTb l):=tornL_len l
  obtain ⟨la,lc,rfl,_,_,_,hlb⟩:=hl
  have B0:=below_box w (.slice la l.length lc) 24
  go_enter Tryz.func13,Tryz.ntmps13
  go_wp2_with fail
  have HT:Hid (∀ W,Below (w.alloc (Obj.cells #[.slice la l.length lc] 24)).heap.size (w.alloc (Obj.cells #[.slice la l.length lc] 24)) W→Below w.heap.size w W):=fun W hb=>below_then B0 hb B0.size
  have HZ:Hid (w.heap.size≤(w.alloc (Obj.cells #[.slice la l.length lc] 24)).heap.size):=B0.size
  clear B0
  generalize w.alloc (Obj.cells #[.slice la l.length lc] 24)=w0 at *
  go_loopw [3,11] (fun ov iv wr=>∃ (i:Nat),iv=.int .i64 i∧i≤l.length∧OwnP 87 w0.heap.size (tornL (l.take i)) ov wr∧Below w0.heap.size w0 wr) (fun _ i _=>l.length - (intOf i).toNat)
  case atStart=>exact ⟨0,rfl,Nat.zero_le _,by simpa [tornL] using OwnP.nil _ _ _,Below.refl _ _⟩
  case round =>
  obtain ⟨i,rfl,hi,hown,BR⟩:=hrel
  obtain ⟨oa,oc,rfl⟩:=own_slice2 hown
  have HO:Hid (OwnP 87 w0.heap.size (tornL (l.take i)) (.slice oa (tornL (l.take i)).length oc) wr):=hown
  clear hown
  have BW:=HT.out _ BR
  by_cases hlt:i<l.length
  case neg =>
    obtain rfl:i=l.length:=by omega
    rw [List.take_of_length_le (Nat.le_refl _)] at HO ⊢
    go_wp2_with fail
    go_ret
    exact ⟨_,rfl,OwnP.sl HO.out HOK.out (by have:=HTL.out; omega),(own_apart2 HO.out).mono HZ.out,BW⟩
  obtain ⟨_,_,e0,hrws,_⟩:=HL.out _ (Below.refl _ w)
  cases e0
  obtain ⟨b,off,va,vg,rfl,hb,ca0,cg0,hA,hG⟩:=hrws.at (Below.refl _ _) hlt
  have ca:=(BW.cell (p:=⟨b,off+i * 2,none⟩) hb).trans ca0
  have cg:=(BW.cell (p:=⟨b,off+i * 2+1,none⟩) hb).trans cg0
  have HSN:Hid (tornL (l.take (i+1))=tornL (l.take i)++tornRow i l[i].acts):=tornL_succ hlt
  have hsA:sizeTb (l.take i)+sizeA l[i].acts≤100000000:=by
    have h1:=sizeTb_succ hlt
    have h2:=sizeTb_le l (i+1)
    unfold sizeR at h1; omega
  have htl:(tornL (l.take i)).length≤sizeTb (l.take i):=tornL_len _
  generalize l[i]=r at *
  have HAA:Hid (∀ W,Below w.heap.size w W→SlA r.acts va W):=fun W hb=>hA.next hb
  obtain ⟨aa,ac,rfl,_,_,_,hab⟩:=hA
  obtain ⟨ga,gc,rfl,_⟩:=hG
  generalize sizeTb (l.take i)=SZ at *
  generalize tornL (l.take i)=T at *
  clear hrws ca0 cg0
  generalize wr=wx at *
  have BX:Below w0.heap.size w0 (wx.alloc (Obj.cells #[.slice aa r.acts.length ac,.slice ga r.goes.length gc] 38)):=BR.alloc BR.size _
  have HOX:Hid (OwnP 87 w0.heap.size T (.slice oa T.length oc) (wx.alloc (Obj.cells #[.slice aa r.acts.length ac,.slice ga r.goes.length gc] 38))):=World.ownsRow.alloc HO.out _
  go_wp2_with fail
  clear ca cg HO
  generalize wx.alloc (Obj.cells #[.slice aa r.acts.length ac,.slice ga r.goes.length gc] 38)=w2 at *
  go_loopw [3,19] (fun ov kv wr=>∃ (k:Nat),kv=.int .i64 k∧k≤r.acts.length∧OwnP 87 w0.heap.size (T++tornRow i (r.acts.take k)) ov wr∧Below w0.heap.size w0 wr) (fun _ i _=>r.acts.length - (intOf i).toNat)
  case atStart=>exact ⟨0,rfl,Nat.zero_le _,by simpa [tornRow] using HOX.out,BX⟩
  case round =>
  clear HOX BW BR BX
  obtain ⟨k,rfl,hk,hown,BK⟩:=hrel
  obtain ⟨pa,pc,rfl⟩:=own_slice2 hown
  have hszk:=BK.size
  have BW:=HT.out _ BK
  by_cases hkl:k<r.acts.length
  case neg =>
    obtain rfl:k=r.acts.length:=by omega
    rw [List.take_of_length_le (Nat.le_refl _)] at hown ⊢
    have HO2:Hid (OwnP 87 w0.heap.size (T++tornRow i r.acts) (.slice pa (T++tornRow i r.acts).length pc) wr):=hown
    clear hown
    generalize T++tornRow i r.acts=T2 at *
    go_wp2_with fail
    exact ⟨⟨i+1,by go_num,by omega,by rw [HSN.out]; exact HO2.out,BK⟩,by simp [intOf]; omega⟩
  obtain ⟨_,_,e0,hacs,_⟩:=HAA.out _ BW
  cases e0
  obtain ⟨b2,off2,v2,rfl,hb2,a0,a1,a2,a3,hred,_,_,hrb⟩:=hacs.at (Below.refl _ _) hkl
  have HTR:Hid (tornRow i (r.acts.take (k+1))=tornRow i (r.acts.take k)++(if tornA r.acts[k] then [((i:Int),r.acts[k].look)] else [])):=tornRow_succ hkl
  have hlen2:(tornRow i (r.acts.take k)).length≤sizeA r.acts:=Nat.le_trans (tornRow_len _ _) (sizeA_le _ _)
  have hlen3:(T++tornRow i (r.acts.take k)).length≤100000000:=by rw [List.length_append]; omega
  unfold OwnP at hown
  obtain ⟨RL,hRL⟩:∃ RL,T++tornRow i (r.acts.take k)=RL:=⟨_,rfl⟩
  have HRL:Hid (T++tornRow i (r.acts.take k)=RL):=hRL
  rw [hRL] at hown hlen3 ⊢
  clear hRL
  generalize r.acts[k]=x at *
  have HNO:Hid (tornA x=false→T++tornRow i (r.acts.take (k+1))=RL):=fun h=>by
    rw [HTR.out,h,← HRL.out]; simp
  have HYES:Hid (tornA x=true→T++tornRow i (r.acts.take (k+1))=RL++[((i:Int),x.look)]):=fun h=>by
    rw [HTR.out,h,← HRL.out]; simp
  have HX:=HIS.out x v2 (wr.alloc (Obj.cells #[.int .i64 x.look,.int .i64 x.to,v2,.bool x.acc] 41)) (hred.next ((Below.refl _ _).alloc (Nat.le_refl _) _))
  obtain ⟨da,dc,rfl,_⟩:=hred
  have HOX:Hid (OwnP 87 w0.heap.size RL (.slice pa RL.length pc) (wr.alloc (Obj.cells #[.int .i64 x.look,.int .i64 x.to,.slice da x.red.length dc,.bool x.acc] 41))):=World.ownsRow.alloc hown _
  have BX:Below w0.heap.size w0 (wr.alloc (Obj.cells #[.int .i64 x.look,.int .i64 x.to,.slice da x.red.length dc,.bool x.acc] 41)):=BK.alloc hszk _
  have y0:(wr.alloc (Obj.cells #[.int .i64 x.look,.int .i64 x.to,.slice da x.red.length dc,.bool x.acc] 41)).cell? ⟨wr.heap.size,0,none⟩=some (.int .i64 x.look):=by simp
  have yl:wr.heap.size<(wr.alloc (Obj.cells #[.int .i64 x.look,.int .i64 x.to,.slice da x.red.length dc,.bool x.acc] 41)).heap.size:=by simp
  clear HTR HRL hown hacs
  go_wp2_with fail
  clear a0 a1 a2 a3
  generalize wr.alloc (Obj.cells #[.int .i64 x.look,.int .i64 x.to,.slice da x.red.length dc,.bool x.acc] 41)=w3 at *
  refine HX.mono ?_
  rintro e w4 ⟨rfl,b4⟩
  have B4:=below_then BX b4 BX.size
  have y4:=(b4.cell (p:=⟨wr.heap.size,0,none⟩) yl).trans y0
  have hown4:w4.ownsRow w0.heap.size 87 2 (.slice pa RL.length pc) RL.length (RL.flatMap encP):=ownsRow_below4 HOX.out b4
  have HO4:Hid (OwnP 87 w0.heap.size RL (.slice pa RL.length pc) w4):=hown4
  obtain ⟨LV,hLV⟩:∃ LV,RL.flatMap encP=LV:=⟨_,rfl⟩
  have HLV:Hid (RL.flatMap encP=LV):=hLV
  rw [hLV] at hown4
  have hsz4:=B4.size
  clear hLV HX b4 y0 yl HOX BX
  cases hx:tornA x with
  | false =>
    have HN:=HNO.out hx
    have HN2:Hid (T++tornRow i (r.acts.take (k+1))=RL):=HN
    clear HNO HYES HN hx
    go_wp2_with fail
    exact ⟨⟨k+1,by go_num,by omega,by rw [HN2.out]; exact HO4.out,B4⟩,by simp [intOf]; omega⟩
  | true =>
    have HN2:Hid (T++tornRow i (r.acts.take (k+1))=RL++[((i:Int),x.look)]):=HYES.out hx
    clear HNO HYES hx
    go_wp2_with (at_builtin; refine wpList_append_own _ rfl (.tmp 25) (.tmp 30) 52 rfl w0.heap.size 87 i0 _ 2 16 Tryz.underlying52 hi0 hz0 hz1 hz2 rfl (by decide) _ RL.length LV rfl (World.ownsRow.alloc hown4 _) ⟨w4.heap.size,0,none⟩ 1 1 (encP ((i:Int),x.look)) rfl rfl (by first | exact new_cellP w4 ((i:Int),x.look) _ | (have:=new_cellP w4 ((i:Int),x.look) 87; simpa [encP] using this)) (by intro u hu; simp [encP] at hu; rcases hu with rfl | rfl <;> rfl) (by unfold maxLen; omega) (by omega) (by simp; omega) ?_)
    intro v9 w9 hown9 hg9 _
    have B9:Below w0.heap.size w0 w9:=(B4.alloc hsz4 _).grown hg9 (by simp; omega) (fun k e=>(World.ownsRow.lt hown4 k e).1)
    obtain ⟨a9,c9,rfl⟩:=own_slice2 hown9
    have HW9:Hid (OwnP 87 w0.heap.size (RL++[((i:Int),x.look)]) (.slice a9 (RL.length+1) c9) w9):=by
      show World.ownsRow _ _ _ _ _ _ _
      have:=hown9
      rw [← HLV.out] at this
      simpa [encP] using this
    clear hown9 hg9 hown4 y4
    go_wp2_with fail
    exact ⟨⟨k+1,by go_num,by omega,by rw [HN2.out]; exact HW9.out,B9⟩,by simp [intOf]; omega⟩
theorem take_ext {l m:List Int} (hlen:l.length=m.length) (h:∀ k,k<l.length→l[k]?=m[k]?):l=m:=by
  apply List.ext_getElem?
  intro k
  rcases Nat.lt_or_ge k l.length with hk | hk
  · exact h k hk
  · rw [List.getElem?_eq_none hk,List.getElem?_eq_none (by omega)]
set_option maxRecDepth 100000 in
set_option maxHeartbeats 1600000 in
theorem rsameAct_any (a b:Ac) (u v:Value) (w:World) (hu:SlI a.red u w) (hv:SlI b.red v w) (hbd:a.red.length≤140737488351232) :
    Calls Tryz.prog 23 #[.agg #[.int .i64 a.look,.int .i64 a.to,u,.bool a.acc],.agg #[.int .i64 b.look,.int .i64 b.to,v,.bool b.acc]] w fun e w'=>e=.returned (.bool (decide (a=b)))∧Below w.heap.size w w':=by
  have HU:Hid (∀ W,Below w.heap.size w W→SlI a.red u W∧SlI b.red v W):=fun W hb=>⟨hu.next hb,hv.next hb⟩
  obtain ⟨ua,uc,rfl,_⟩:=hu
  obtain ⟨va,vc,rfl,_⟩:=hv
  obtain ⟨a0,a1,ar,a3⟩:=a
  obtain ⟨b0,b1,br,b3⟩:=b
  simp only at *
  have B0:Below w.heap.size w ((w.alloc (Obj.cells #[.int .i64 a0,.int .i64 a1,.slice ua ar.length uc,.bool a3] 41)).alloc (Obj.cells #[.int .i64 b0,.int .i64 b1,.slice va br.length vc,.bool b3] 41)):=((Below.refl _ _).alloc (Nat.le_refl _) _).alloc (by simp) _
  have x0:((w.alloc (Obj.cells #[.int .i64 a0,.int .i64 a1,.slice ua ar.length uc,.bool a3] 41)).alloc (Obj.cells #[.int .i64 b0,.int .i64 b1,.slice va br.length vc,.bool b3] 41)).cell? ⟨w.heap.size,0,none⟩=some (.int .i64 a0):=by simp
  have x1:((w.alloc (Obj.cells #[.int .i64 a0,.int .i64 a1,.slice ua ar.length uc,.bool a3] 41)).alloc (Obj.cells #[.int .i64 b0,.int .i64 b1,.slice va br.length vc,.bool b3] 41)).cell? ⟨w.heap.size,1,none⟩=some (.int .i64 a1):=by simp
  have x2:((w.alloc (Obj.cells #[.int .i64 a0,.int .i64 a1,.slice ua ar.length uc,.bool a3] 41)).alloc (Obj.cells #[.int .i64 b0,.int .i64 b1,.slice va br.length vc,.bool b3] 41)).cell? ⟨w.heap.size,2,none⟩=some (.slice ua ar.length uc):=by simp
  have x3:((w.alloc (Obj.cells #[.int .i64 a0,.int .i64 a1,.slice ua ar.length uc,.bool a3] 41)).alloc (Obj.cells #[.int .i64 b0,.int .i64 b1,.slice va br.length vc,.bool b3] 41)).cell? ⟨w.heap.size,3,none⟩=some (.bool a3):=by simp
  have y0:((w.alloc (Obj.cells #[.int .i64 a0,.int .i64 a1,.slice ua ar.length uc,.bool a3] 41)).alloc (Obj.cells #[.int .i64 b0,.int .i64 b1,.slice va br.length vc,.bool b3] 41)).cell? ⟨w.heap.size+1,0,none⟩=some (.int .i64 b0):=by simp
  have y1:((w.alloc (Obj.cells #[.int .i64 a0,.int .i64 a1,.slice ua ar.length uc,.bool a3] 41)).alloc (Obj.cells #[.int .i64 b0,.int .i64 b1,.slice va br.length vc,.bool b3] 41)).cell? ⟨w.heap.size+1,1,none⟩=some (.int .i64 b1):=by simp
  have y2:((w.alloc (Obj.cells #[.int .i64 a0,.int .i64 a1,.slice ua ar.length uc,.bool a3] 41)).alloc (Obj.cells #[.int .i64 b0,.int .i64 b1,.slice va br.length vc,.bool b3] 41)).cell? ⟨w.heap.size+1,2,none⟩=some (.slice va br.length vc):=by simp
  have y3:((w.alloc (Obj.cells #[.int .i64 a0,.int .i64 a1,.slice ua ar.length uc,.bool a3] 41)).alloc (Obj.cells #[.int .i64 b0,.int .i64 b1,.slice va br.length vc,.bool b3] 41)).cell? ⟨w.heap.size+1,3,none⟩=some (.bool b3):=by simp
  have hs2:((w.alloc (Obj.cells #[.int .i64 a0,.int .i64 a1,.slice ua ar.length uc,.bool a3] 41)).alloc (Obj.cells #[.int .i64 b0,.int .i64 b1,.slice va br.length vc,.bool b3] 41)).heap.size=w.heap.size+2:=by simp
  go_enter Tryz.func23,Tryz.ntmps23
  go_upto_region 1 with fail
  generalize (w.alloc (Obj.cells #[.int .i64 a0,.int .i64 a1,.slice ua ar.length uc,.bool a3] 41)).alloc (Obj.cells #[.int .i64 b0,.int .i64 b1,.slice va br.length vc,.bool b3] 41)=w0 at *
  have HC:Hid (∀ W,Below w0.heap.size w0 W→W.cell? ⟨w.heap.size,2,none⟩=some (.slice ua ar.length uc)∧W.cell? ⟨w.heap.size+1,2,none⟩=some (.slice va br.length vc)):=fun W hb=>⟨(hb.cell (p:=⟨w.heap.size,2,none⟩) (by simp only; omega)).trans x2,(hb.cell (p:=⟨w.heap.size+1,2,none⟩) (by simp only; omega)).trans y2⟩
  by_cases e0:a0=b0
  case neg =>
    have HE:Hid (decide ((⟨a0,a1,ar,a3⟩:Ac)=⟨b0,b1,br,b3⟩)=false):=decide_eq_false (fun h=>e0 (by cases h; rfl))
    have e0':(a0 != b0)=true:=by simpa using e0
    go_wp2_with fail
    go_ret
    exact ⟨by rw [HE.out]; rfl,B0⟩
  subst e0
  by_cases e1:a1=b1
  case neg =>
    have HE:Hid (decide ((⟨a0,a1,ar,a3⟩:Ac)=⟨a0,b1,br,b3⟩)=false):=decide_eq_false (fun h=>e1 (by cases h; rfl))
    have e1':(a1 != b1)=true:=by simpa using e1
    go_wp2_with fail
    go_ret
    exact ⟨by rw [HE.out]; rfl,B0⟩
  subst e1
  by_cases e3:a3=b3
  case neg =>
    have HE:Hid (decide ((⟨a0,a1,ar,a3⟩:Ac)=⟨a0,a1,br,b3⟩)=false):=decide_eq_false (fun h=>e3 (by cases h; rfl))
    have e3':(a3 != b3)=true:=by simpa using e3
    go_wp2_with fail
    go_ret
    exact ⟨by rw [HE.out]; rfl,B0⟩
  subst e3
  by_cases e2:ar.length=br.length
  case neg =>
    have HE:Hid (decide ((⟨a0,a1,ar,a3⟩:Ac)=⟨a0,a1,br,a3⟩)=false):=decide_eq_false (fun h=>e2 (by cases h; rfl))
    have e2':((ar.length:Int) != (br.length:Int))=true:=by simp; omega
    have e2'':¬ (ar.length:Int)=(br.length:Int):=by omega
    go_wp2_with fail
    go_ret
    exact ⟨by rw [HE.out]; rfl,B0⟩
  have HEQ:Hid ((∀ k:Nat,k<ar.length→ar[k]?=br[k]?)→decide ((⟨a0,a1,ar,a3⟩:Ac)=⟨a0,a1,br,a3⟩)=true):=fun h=>decide_eq_true (by rw [take_ext e2 h])
  have HNE:Hid (∀ k:Nat,ar[k]?≠br[k]?→decide ((⟨a0,a1,ar,a3⟩:Ac)=⟨a0,a1,br,a3⟩)=false):=fun k h=>decide_eq_false (fun e=>h (by cases e; rfl))
  have e2':((ar.length:Int) != (br.length:Int))=false:=by simp; omega
  have e2'':(ar.length:Int)=(br.length:Int):=by omega
  go_wp2_with fail
  clear x0 x1 x2 x3 y0 y1 y2 y3
  go_loopw [5] (fun iv wr=>∃ (i:Nat),iv=.int .i64 i∧i≤ar.length∧(∀ k,k<i→ar[k]?=br[k]?)∧Below w0.heap.size w0 wr) (fun i _=>ar.length - (intOf i).toNat)
  case atStart=>exact ⟨0,rfl,Nat.zero_le _,fun k hk=>by omega,Below.refl _ _⟩
  case round =>
  obtain ⟨i,rfl,hi,hall,BR⟩:=hrel
  have HAL:Hid (∀ k,k<i→ar[k]?=br[k]?):=hall
  clear hall
  obtain ⟨x2,y2⟩:=HC.out _ BR
  have BW:=below_then B0 BR B0.size
  by_cases hlt:i<ar.length
  case neg =>
    obtain rfl:i=ar.length:=by omega
    have HE:Hid (decide ((⟨a0,a1,ar,a3⟩:Ac)=⟨a0,a1,br,a3⟩)=true):=HEQ.out HAL.out
    clear HEQ HNE
    go_wp2_with fail
    go_ret
    exact ⟨by rw [HE.out]; rfl,BW⟩
  obtain ⟨s1,s2⟩:=HU.out _ BW
  obtain ⟨_,_,ee,hra,_⟩:=s1
  cases ee
  obtain ⟨_,_,ee,hrb,_⟩:=s2
  cases ee
  have hlt2:i<br.length:=by omega
  obtain ⟨ub,uo,rfl,_,c1⟩:=hra.at (Below.refl _ _) hlt
  obtain ⟨vb,vo,rfl,_,c2⟩:=hrb.at (Below.refl _ _) hlt2
  unfold encI at c1 c2
  have HA1:Hid (ar[i]?=some ar[i]∧br[i]?=some br[i]):=by constructor <;> simp
  generalize ar[i]=p at *
  generalize br[i]=q at *
  clear hra hrb
  by_cases hpq:p=q
  · subst hpq
    have HAN:Hid (∀ k,k<i+1→ar[k]?=br[k]?):=fun k hk=>by
      rcases Nat.lt_or_ge k i with h | h
      · exact HAL.out k h
      · obtain rfl:k=i:=by omega
        rw [HA1.out.1,HA1.out.2]
    clear HA1 HEQ HNE HAL
    go_wp2_with fail
    go_quiet (fail)
    go_wp2_with fail
    exact ⟨⟨i+1,by go_num,by omega,HAN.out,below_drewN BR _⟩,by simp [intOf]; omega⟩
  · have hpq':(p != q)=true:=by simpa using hpq
    have HE:Hid (decide ((⟨a0,a1,ar,a3⟩:Ac)=⟨a0,a1,br,a3⟩)=false):=HNE.out i (by rw [HA1.out.1,HA1.out.2]; simpa using hpq)
    clear HA1 HEQ HNE HAL
    go_wp2_with fail
    go_quiet (fail)
    go_wp2_with fail
    go_ret
    exact ⟨by rw [HE.out]; rfl,below_drewN BW _⟩
def rowF (l:List Rw) (s:Int):Rw:=if 0≤s then (l[s.toNat]?).getD ⟨[],[]⟩ else ⟨[],[]⟩
def actF (l:List Rw) (s look:Int):Ac:=((rowF l s).acts.find? (fun a=>a.look == look)).getD ⟨look,-1,[],false⟩
theorem rowF_out {l:List Rw} {s:Int} (h:¬ (0≤s∧s<l.length)):rowF l s=⟨[],[]⟩:=by
  unfold rowF
  by_cases h0:0≤s
  · rw [if_pos h0,List.getElem?_eq_none (by omega)]; rfl
  · rw [if_neg h0]
theorem rowF_in {l:List Rw} {k:Nat} (h:k<l.length):rowF l (k:Int)=l[k]:=by
  unfold rowF
  rw [if_pos (by omega),Int.toNat_natCast,List.getElem?_eq_getElem h]; rfl
set_option maxRecDepth 100000 in
theorem isBelow_any (n m:Int) (w:World):Calls Tryz.prog 44 #[.int .i64 n,.int .i64 m] w fun e w'=>e=.returned (.bool (decide (0≤n∧n<m)))∧w'=w:=by
  go_enter Tryz.func44,Tryz.ntmps44
  by_cases h0:0≤n
  · have d0:decide (0≤n)=true:=decide_eq_true h0
    by_cases h1:n<m
    · have d1:decide (n<m)=true:=decide_eq_true h1
      have HE:Hid (decide (0≤n∧n<m)=true):=decide_eq_true ⟨h0,h1⟩
      go_wp2_with fail
      go_ret
      exact ⟨by first | rfl | (rw [HE.out]; rfl),rfl⟩
    · have d1:decide (n<m)=false:=decide_eq_false h1
      have HE:Hid (decide (0≤n∧n<m)=false):=decide_eq_false (fun h=>h1 h.2)
      go_wp2_with fail
      go_ret
      exact ⟨by first | rfl | (rw [HE.out]; rfl),rfl⟩
  · have d0:decide (0≤n)=false:=decide_eq_false h0
    have HE:Hid (decide (0≤n∧n<m)=false):=decide_eq_false (fun h=>h0 h.1)
    go_wp2_with fail
    go_ret
    exact ⟨by first | rfl | (rw [HE.out]; rfl),rfl⟩
set_option maxRecDepth 100000 in
set_option maxHeartbeats 1600000 in
theorem rowOf_any (l:List Rw) (v:Value) (s:Int) (w:World) (hl:SlW l v w) :
    Calls Tryz.prog 28 #[.agg #[v],.int .i64 s] w fun e w'=>∃ va vg,e=.returned (.agg #[va,vg])∧SlA (rowF l s).acts va w'∧SlG (rowF l s).goes vg w'∧Below w.heap.size w w':=by
  have HL:Hid (∀ W,Below w.heap.size w W→SlW l v W):=fun W hb=>hl.next hb
  have HIB:Hid (∀ (n m:Int) W,Calls Tryz.prog 44 #[.int .i64 n,.int .i64 m] W fun e w'=>e=.returned (.bool (decide (0≤n∧n<m)))∧w'=W):=fun n m W=>isBelow_any n m W
  obtain ⟨la,lc,rfl,_,_,_,hlb⟩:=hl
  have B0:Below w.heap.size w ((w.alloc (Obj.cells #[.slice la l.length lc] 24)).alloc (Obj.cells #[.slice none 0 0,.slice none 0 0] 38)):=((Below.refl _ _).alloc (Nat.le_refl _) _).alloc (by simp) _
  go_enter Tryz.func28,Tryz.ntmps28
  go_wp2_with fail
  refine (HIB.out s l.length _).mono ?_
  rintro e w1 ⟨rfl,rfl⟩
  clear HIB
  by_cases hin:0≤s∧s<l.length
  case neg =>
    have HE:Hid (rowF l s=⟨[],[]⟩):=rowF_out hin
    have hd:decide (0≤s∧s<l.length)=false:=decide_eq_false hin
    rw [hd]
    clear hd hin
    go_wp2_with fail
    refine bodyPost_ret (results_cell_row rfl _ _ (w.heap.size+1) 38 #[.slice none 0 0,.slice none 0 0] (0,0) _ rfl (heap_alloc2_new _ _ _) Tryz.underlying38 rfl (by kernel_rfl)) rfl ?_
    exact ⟨_,_,rfl,by rw [HE.out]; exact SlA.nil _,by rw [HE.out]; exact SlG.nil _,B0⟩
  have hd:decide (0≤s∧s<l.length)=true:=decide_eq_true hin
  rw [hd]
  clear hd
  obtain ⟨k,rfl⟩:∃ k:Nat,s=k:=⟨s.toNat,by omega⟩
  have hk:k<l.length:=by omega
  have HE:Hid (rowF l (k:Int)=l[k]):=rowF_in hk
  obtain ⟨_,_,e0,hrws,_⟩:=HL.out _ (Below.refl _ _)
  cases e0
  obtain ⟨b,off,va,vg,rfl,hb,ca0,cg0,hA,hG⟩:=hrws.at (Below.refl _ _) hk
  have ca:=(B0.cell (p:=⟨b,off+k * 2,none⟩) hb).trans ca0
  have cg:=(B0.cell (p:=⟨b,off+k * 2+1,none⟩) hb).trans cg0
  have HA:Hid (∀ W,Below w.heap.size w W→SlA l[k].acts va W∧SlG l[k].goes vg W):=fun W hb=>⟨hA.next hb,hG.next hb⟩
  obtain ⟨aa,ac,rfl,_⟩:=hA
  obtain ⟨ga,gc,rfl,_⟩:=hG
  generalize l[k]=r at *
  clear hrws ca0 cg0 hin
  have B1:Below w.heap.size w ((w.alloc (Obj.cells #[.slice (some ⟨b,off,none⟩) l.length lc] 24)).alloc (Obj.cells #[.slice aa r.acts.length ac,.slice ga r.goes.length gc] 38)):=((Below.refl _ _).alloc (Nat.le_refl _) _).alloc (by simp) _
  go_wp2_with fail
  refine bodyPost_ret (results_cell_row rfl _ _ (w.heap.size+1) 38 #[.slice aa r.acts.length ac,.slice ga r.goes.length gc] (0,0) _ rfl (heap_alloc2_new _ _ _) Tryz.underlying38 rfl (by kernel_rfl)) rfl ?_
  exact ⟨_,_,rfl,by rw [HE.out]; exact (HA.out _ B1).1,by rw [HE.out]; exact (HA.out _ B1).2,B1⟩
theorem find_take {α:Type} (p:α→Bool) {l:List α} {j:Nat} (hj:j<l.length) (h:∀ k,(hk:k<l.length)→k<j→p l[k]=false) (hp:p l[j]=true):l.find? p=some l[j]:=by
  induction l generalizing j with
  | nil=>simp at hj
  | cons a l ih =>
    cases j with
    | zero=>simp at hp; simp [hp]
    | succ j =>
      have h0:=h 0 (by simp) (by omega)
      simp at h0 hp hj ⊢
      exact .inr ⟨h0,ih hj (fun k hk hkj=>h (k+1) (by simp; exact hk) (by omega)) hp⟩
theorem find_none {α:Type} (p:α→Bool) {l:List α} (h:∀ k,(hk:k<l.length)→p l[k]=false):l.find? p=none:=by
  rw [List.find?_eq_none]
  intro x hx
  obtain ⟨k,hk,rfl⟩:=List.getElem_of_mem hx
  simp [h k hk]
theorem SlI.nil12 (W:World):SlI [] (.slice none 0 0) W:=⟨none,0,rfl,RowAt.nil _ _ _,fun _=>rfl,Nat.le_refl _,fun x hx=>by cases hx⟩
theorem ext_le {α:Type} {l m:List α} (hlen:l.length=m.length) (h:∀ k:Nat,k<l.length→l[k]?=m[k]?):l=m:=by
  apply List.ext_getElem?
  intro k
  rcases Nat.lt_or_ge k l.length with hk | hk
  · exact h k hk
  · rw [List.getElem?_eq_none hk,List.getElem?_eq_none (by omega)]
theorem neqGo (a b c d:Int) (w:World):(binOp .neq 65 (.agg #[.int .i64 a,.int .i64 b]) (.agg #[.int .i64 c,.int .i64 d])).run Tryz.prog w=.ok (.bool (!(a == c && b == d))) w:=by
  have u3:=Tryz.underlying3
  have a3:=Tryz.isAgg3
  have z3:=Tryz.sizeOf3
  have hS:Tryz.prog.underlying 65=some (.struct (Tryz.prog.fieldsOf 65)):=by kernel_rfl
  have hp:Tryz.prog.stoodInHeld 65=false:=by kernel_rfl
  rw [run_neq_struct,show (10000:Nat)=9999+1 from rfl,run_equalIn_agg w 9999 65 _ _ hS hp]
  simp only [Program.fieldsOf,Tryz.underlying65]
  go_simp
  by_cases h1:a=c <;> by_cases h2:b=d <;> simp [h1,h2]
set_option maxRecDepth 100000 in
set_option maxHeartbeats 4000000 in
theorem rsame12_any (l m:List Rw) (u v:Value) (w:World) (hl:SlW l u w) (hm:SlW m v w) :
    Calls Tryz.prog 11 #[.agg #[u],.agg #[v]] w fun e w'=>e=.returned (.bool (decide (l=m)))∧Below w.heap.size w w':=by
  have HSA:Hid (∀ (a b:Ac) (u v:Value) W,SlI a.red u W→SlI b.red v W→a.red.length≤140737488351232→Calls Tryz.prog 23 #[.agg #[.int .i64 a.look,.int .i64 a.to,u,.bool a.acc],.agg #[.int .i64 b.look,.int .i64 b.to,v,.bool b.acc]] W fun e w'=>e=.returned (.bool (decide (a=b)))∧Below W.heap.size W w'):=fun a b u v W h1 h2 h3=>rsameAct_any a b u v W h1 h2 h3
  have HL:Hid (SlW l u w∧SlW m v w):=⟨hl,hm⟩
  obtain ⟨la,lc,rfl,_,_,_,hlb⟩:=hl
  obtain ⟨ma,mc,rfl,_,_,_,hmb⟩:=hm
  have B0:Below w.heap.size w ((w.alloc (Obj.cells #[.slice la l.length lc] 24)).alloc (Obj.cells #[.slice ma m.length mc] 24)):=((Below.refl _ _).alloc (Nat.le_refl _) _).alloc (by simp) _
  have t0:((w.alloc (Obj.cells #[.slice la l.length lc] 24)).alloc (Obj.cells #[.slice ma m.length mc] 24)).cell? ⟨w.heap.size,0,none⟩=some (.slice la l.length lc):=by simp
  have t1:((w.alloc (Obj.cells #[.slice la l.length lc] 24)).alloc (Obj.cells #[.slice ma m.length mc] 24)).cell? ⟨w.heap.size+1,0,none⟩=some (.slice ma m.length mc):=by simp
  have hs2:((w.alloc (Obj.cells #[.slice la l.length lc] 24)).alloc (Obj.cells #[.slice ma m.length mc] 24)).heap.size=w.heap.size+2:=by simp
  go_enter Tryz.func11,Tryz.ntmps11
  go_upto_region 1 with fail
  generalize (w.alloc (Obj.cells #[.slice la l.length lc] 24)).alloc (Obj.cells #[.slice ma m.length mc] 24)=w0 at *
  by_cases e2:l.length=m.length
  case neg =>
    have HE:Hid (decide (l=m)=false):=decide_eq_false (fun h=>e2 (by rw [h]))
    have e2':((l.length:Int) != (m.length:Int))=true:=by simp; omega
    have e2'':¬ (l.length:Int)=(m.length:Int):=by omega
    go_wp2_with fail
    go_ret
    exact ⟨by rw [HE.out]; rfl,B0⟩
  have HEQ:Hid ((∀ k:Nat,k<l.length→l[k]?=m[k]?)→decide (l=m)=true):=fun h=>decide_eq_true (ext_le e2 h)
  have HNE:Hid (∀ k:Nat,l[k]?≠m[k]?→decide (l=m)=false):=fun k h=>decide_eq_false (fun e=>h (by rw [e]))
  have HT:Hid (∀ W,Below w0.heap.size w0 W→(W.cell? ⟨w.heap.size,0,none⟩=some (.slice la l.length lc)∧W.cell? ⟨w.heap.size+1,0,none⟩=some (.slice ma m.length mc))∧Below w.heap.size w W):=fun W hb=>⟨⟨(hb.cell (p:=⟨w.heap.size,0,none⟩) (by simp only; omega)).trans t0,(hb.cell (p:=⟨w.heap.size+1,0,none⟩) (by simp only; omega)).trans t1⟩,below_then B0 hb B0.size⟩
  have e2':((l.length:Int) != (m.length:Int))=false:=by simp; omega
  have e2'':(l.length:Int)=(m.length:Int):=by omega
  go_wp2_with fail
  have HLE:Hid (l.length=m.length):=e2
  clear t0 t1 e2' e2'' e2
  go_loopw [5] (fun iv wr=>∃ (i:Nat),iv=.int .i64 i∧i≤l.length∧(∀ k:Nat,k<i→l[k]?=m[k]?)∧Below w0.heap.size w0 wr) (fun i _=>l.length - (intOf i).toNat)
  case atStart=>exact ⟨0,rfl,Nat.zero_le _,fun k hk=>by omega,Below.refl _ _⟩
  case round =>
  obtain ⟨i,rfl,hi,hall,BR⟩:=hrel
  have HAL:Hid (∀ k:Nat,k<i→l[k]?=m[k]?):=hall
  clear hall
  obtain ⟨⟨t0,t1⟩,BW⟩:=HT.out _ BR
  by_cases hlt:i<l.length
  case neg =>
    obtain rfl:i=l.length:=by omega
    have HE:Hid (decide (l=m)=true):=HEQ.out HAL.out
    clear HEQ HNE
    go_wp2_with fail
    go_ret
    exact ⟨by rw [HE.out]; rfl,BW⟩
  have hlt2:i<m.length:=by have:=HLE.out; omega
  obtain ⟨⟨_,_,e0,hrl,_⟩,⟨_,_,e1,hrm,_⟩⟩:=HL.out
  cases e0
  cases e1
  obtain ⟨b,off,va,vg,rfl,hb,ca,cg,hA,hG⟩:=hrl.at BW hlt
  obtain ⟨b',off',va',vg',rfl,hb',ca',cg',hA',hG'⟩:=hrm.at BW hlt2
  have HX1:Hid (l[i]?=some l[i]∧m[i]?=some m[i]):=by constructor <;> simp
  generalize l[i]=x at *
  generalize m[i]=z at *
  have HAX:Hid (∀ W,Below wr.heap.size wr W→(SlA x.acts va W∧SlA z.acts va' W)∧SlG x.goes vg W∧SlG z.goes vg' W):=fun W hb=>⟨⟨hA.next hb,hA'.next hb⟩,hG.next hb,hG'.next hb⟩
  obtain ⟨aa,ac,rfl,_,_,_,hab⟩:=hA
  obtain ⟨ga,gc,rfl,_,_,_,hgb⟩:=hG
  obtain ⟨ba,bc,rfl,_⟩:=hA'
  obtain ⟨ha,hc,rfl,_⟩:=hG'
  have HNX:Hid (x≠z→decide (l=m)=false):=fun h=>HNE.out i (by rw [HX1.out.1,HX1.out.2]; simpa using h)
  have HAN:Hid (x=z→∀ k:Nat,k<i+1→l[k]?=m[k]?):=fun h k hk=>by
    rcases Nat.lt_or_ge k i with h' | h'
    · exact HAL.out k h'
    · obtain rfl:k=i:=by omega
      rw [HX1.out.1,HX1.out.2,h]
  have BX:Below w0.heap.size w0 ((wr.alloc (Obj.cells #[.slice aa x.acts.length ac,.slice ga x.goes.length gc] 38)).alloc (Obj.cells #[.slice ba z.acts.length bc,.slice ha z.goes.length hc] 38)):=(BR.alloc BR.size _).alloc (by have:=BR.size; simp; omega) _
  have bx:Below wr.heap.size wr ((wr.alloc (Obj.cells #[.slice aa x.acts.length ac,.slice ga x.goes.length gc] 38)).alloc (Obj.cells #[.slice ba z.acts.length bc,.slice ha z.goes.length hc] 38)):=((Below.refl _ _).alloc (Nat.le_refl _) _).alloc (by simp) _
  have x0:((wr.alloc (Obj.cells #[.slice aa x.acts.length ac,.slice ga x.goes.length gc] 38)).alloc (Obj.cells #[.slice ba z.acts.length bc,.slice ha z.goes.length hc] 38)).cell? ⟨wr.heap.size,0,none⟩=some (.slice aa x.acts.length ac):=by simp
  have x1:((wr.alloc (Obj.cells #[.slice aa x.acts.length ac,.slice ga x.goes.length gc] 38)).alloc (Obj.cells #[.slice ba z.acts.length bc,.slice ha z.goes.length hc] 38)).cell? ⟨wr.heap.size,1,none⟩=some (.slice ga x.goes.length gc):=by simp
  have y0:((wr.alloc (Obj.cells #[.slice aa x.acts.length ac,.slice ga x.goes.length gc] 38)).alloc (Obj.cells #[.slice ba z.acts.length bc,.slice ha z.goes.length hc] 38)).cell? ⟨wr.heap.size+1,0,none⟩=some (.slice ba z.acts.length bc):=by simp
  have y1:((wr.alloc (Obj.cells #[.slice aa x.acts.length ac,.slice ga x.goes.length gc] 38)).alloc (Obj.cells #[.slice ba z.acts.length bc,.slice ha z.goes.length hc] 38)).cell? ⟨wr.heap.size+1,1,none⟩=some (.slice ha z.goes.length hc):=by simp
  have hsx:((wr.alloc (Obj.cells #[.slice aa x.acts.length ac,.slice ga x.goes.length gc] 38)).alloc (Obj.cells #[.slice ba z.acts.length bc,.slice ha z.goes.length hc] 38)).heap.size=wr.heap.size+2:=by simp
  have bx1:Below wr.heap.size wr (wr.alloc (Obj.cells #[.slice aa x.acts.length ac,.slice ga x.goes.length gc] 38)):=(Below.refl _ _).alloc (Nat.le_refl _) _
  have hw1:w.heap.size+1<wr.heap.size:=by have:=BR.size; omega
  have t1':=(bx1.cell (p:=⟨w.heap.size+1,0,none⟩) hw1).trans t1
  have ca'':=(bx1.cell (p:=⟨b',off'+i * 2,none⟩) hb').trans ca'
  have cg'':=(bx1.cell (p:=⟨b',off'+i * 2+1,none⟩) hb').trans cg'
  clear hrl hrm HX1 HAL HEQ HNE bx1
  go_upto_region 8 with fail
  clear ca cg ca' cg' t0 t1 t1' ca'' cg'' hw1
  have HAY:Hid (∀ W,Below ((wr.alloc (Obj.cells #[.slice aa x.acts.length ac,.slice ga x.goes.length gc] 38)).alloc (Obj.cells #[.slice ba z.acts.length bc,.slice ha z.goes.length hc] 38)).heap.size ((wr.alloc (Obj.cells #[.slice aa x.acts.length ac,.slice ga x.goes.length gc] 38)).alloc (Obj.cells #[.slice ba z.acts.length bc,.slice ha z.goes.length hc] 38)) W→(SlA x.acts (.slice aa x.acts.length ac) W∧SlA z.acts (.slice ba z.acts.length bc) W)∧SlG x.goes (.slice ga x.goes.length gc) W∧SlG z.goes (.slice ha z.goes.length hc) W):=fun W hb=>HAX.out W (below_then bx hb bx.size)
  clear HAX bx
  generalize (wr.alloc (Obj.cells #[.slice aa x.acts.length ac,.slice ga x.goes.length gc] 38)).alloc (Obj.cells #[.slice ba z.acts.length bc,.slice ha z.goes.length hc] 38)=w2 at *
  generalize wr.heap.size=P at *
  have HS:Hid (∀ W,Below w2.heap.size w2 W→(W.cell? ⟨P,0,none⟩=some (.slice aa x.acts.length ac)∧W.cell? ⟨P,1,none⟩=some (.slice ga x.goes.length gc)∧W.cell? ⟨P+1,0,none⟩=some (.slice ba z.acts.length bc)∧W.cell? ⟨P+1,1,none⟩=some (.slice ha z.goes.length hc))):=fun W hb=>⟨(hb.cell (p:=⟨P,0,none⟩) (by simp only; omega)).trans x0,(hb.cell (p:=⟨P,1,none⟩) (by simp only; omega)).trans x1,(hb.cell (p:=⟨P+1,0,none⟩) (by simp only; omega)).trans y0,(hb.cell (p:=⟨P+1,1,none⟩) (by simp only; omega)).trans y1⟩
  have HBX:Hid (∀ W,Below w2.heap.size w2 W→Below w0.heap.size w0 W∧Below w.heap.size w W):=fun W hb=>⟨below_then BX hb BX.size,(HT.out _ (below_then BX hb BX.size)).2⟩
  clear BX BR BW
  by_cases f1:x.acts.length=z.acts.length
  case neg =>
    have HE:Hid (decide (l=m)=false):=HNX.out (fun h=>f1 (by rw [h]))
    have f1':((x.acts.length:Int) != (z.acts.length:Int))=true:=by simp; omega
    have f1'':¬ (x.acts.length:Int)=(z.acts.length:Int):=by omega
    clear HNX HAN
    go_wp2_with fail
    go_ret
    exact ⟨by rw [HE.out]; rfl,(HBX.out _ (Below.refl _ _)).2⟩
  have f1':((x.acts.length:Int) != (z.acts.length:Int))=false:=by simp; omega
  have f1'':(x.acts.length:Int)=(z.acts.length:Int):=by omega
  by_cases f2:x.goes.length=z.goes.length
  case neg =>
    have HE:Hid (decide (l=m)=false):=HNX.out (fun h=>f2 (by rw [h]))
    have f2':((x.goes.length:Int) != (z.goes.length:Int))=true:=by simp; omega
    have f2'':¬ (x.goes.length:Int)=(z.goes.length:Int):=by omega
    clear HNX HAN
    go_wp2_with fail
    go_ret
    exact ⟨by rw [HE.out]; rfl,(HBX.out _ (Below.refl _ _)).2⟩
  have f2':((x.goes.length:Int) != (z.goes.length:Int))=false:=by simp; omega
  have f2'':(x.goes.length:Int)=(z.goes.length:Int):=by omega
  have HNA:Hid (∀ k:Nat,x.acts[k]?≠z.acts[k]?→decide (l=m)=false):=fun k h=>HNX.out (fun e=>h (by rw [e]))
  have HNG:Hid (∀ k:Nat,x.goes[k]?≠z.goes[k]?→decide (l=m)=false):=fun k h=>HNX.out (fun e=>h (by rw [e]))
  have HEX:Hid ((∀ k:Nat,k<x.acts.length→x.acts[k]?=z.acts[k]?)→(∀ k:Nat,k<x.goes.length→x.goes[k]?=z.goes[k]?)→∀ k:Nat,k<i+1→l[k]?=m[k]?):=fun h1 h2=>HAN.out (by
    obtain ⟨xa,xg⟩:=x
    obtain ⟨za,zg⟩:=z
    rw [show xa=za from ext_le f1 h1,show xg=zg from ext_le f2 h2])
  clear HNX HAN
  go_wp2_with fail
  have HF1:Hid (x.acts.length=z.acts.length):=f1
  have HF2:Hid (x.goes.length=z.goes.length):=f2
  clear x0 x1 y0 y1 f1' f1'' f2' f2'' f1 f2
  go_loopw [8] (fun iv wr=>∃ (j:Nat),iv=.int .i64 j∧j≤x.acts.length∧(∀ k:Nat,k<j→x.acts[k]?=z.acts[k]?)∧Below w2.heap.size w2 wr) (fun i _=>x.acts.length - (intOf i).toNat)
  case atStart=>exact ⟨0,rfl,Nat.zero_le _,fun k hk=>by omega,Below.refl _ _⟩
  case round =>
  obtain ⟨j,rfl,hj,hall,BK⟩:=hrel
  have HAL:Hid (∀ k:Nat,k<j→x.acts[k]?=z.acts[k]?):=hall
  clear hall
  obtain ⟨x0,x1,y0,y1⟩:=HS.out _ BK
  by_cases hjl:j<x.acts.length
  case neg =>
    obtain rfl:j=x.acts.length:=by omega
    have HAA:Hid (∀ k:Nat,k<x.acts.length→x.acts[k]?=z.acts[k]?):=HAL.out
    clear HAL
    have HSK:Hid (∀ W,Below wr.heap.size wr W→(W.cell? ⟨P,0,none⟩=some (.slice aa x.acts.length ac)∧W.cell? ⟨P,1,none⟩=some (.slice ga x.goes.length gc)∧W.cell? ⟨P+1,0,none⟩=some (.slice ba z.acts.length bc)∧W.cell? ⟨P+1,1,none⟩=some (.slice ha z.goes.length hc))):=fun W hb=>HS.out W (below_then BK hb BK.size)
    have HAK:Hid (∀ W,Below wr.heap.size wr W→SlG x.goes (.slice ga x.goes.length gc) W∧SlG z.goes (.slice ha z.goes.length hc) W):=fun W hb=>(HAY.out W (below_then BK hb BK.size)).2
    have HBK:Hid (∀ W,Below wr.heap.size wr W→Below w0.heap.size w0 W∧Below w.heap.size w W):=fun W hb=>HBX.out W (below_then BK hb BK.size)
    generalize wr=w5 at *
    go_wp2_with fail
    clear x0 x1 y0 y1
    go_loopw [9] (fun iv wr=>∃ (j:Nat),iv=.int .i64 j∧j≤x.goes.length∧(∀ k:Nat,k<j→x.goes[k]?=z.goes[k]?)∧Below w5.heap.size w5 wr) (fun i _=>x.goes.length - (intOf i).toNat)
    case atStart=>exact ⟨0,rfl,Nat.zero_le _,fun k hk=>by omega,Below.refl _ _⟩
    case round =>
    obtain ⟨j,rfl,hj,hall,BG⟩:=hrel
    have HAL:Hid (∀ k:Nat,k<j→x.goes[k]?=z.goes[k]?):=hall
    clear hall
    obtain ⟨x0,x1,y0,y1⟩:=HSK.out _ BG
    by_cases hjl:j<x.goes.length
    case neg =>
      obtain rfl:j=x.goes.length:=by omega
      have HEN:Hid (∀ k:Nat,k<i+1→l[k]?=m[k]?):=HEX.out HAA.out HAL.out
      clear HEX HNA HNG HAA HAL
      go_wp2_with fail
      exact ⟨⟨i+1,by go_num,by omega,HEN.out,(HBK.out _ BG).1⟩,by simp [intOf]; omega⟩
    obtain ⟨⟨_,_,e0,hxa,_⟩,⟨_,_,e1,hza,_⟩⟩:=HAK.out _ BG
    cases e0
    cases e1
    have hjl2:j<z.goes.length:=by have:=HF2.out; omega
    obtain ⟨b2,o2,rfl,hb2,p0,p1,_⟩:=hxa.at (Below.refl _ _) hjl
    obtain ⟨b3,o3,rfl,hb3,q0,q1,_⟩:=hza.at (Below.refl _ _) hjl2
    have HX1:Hid (x.goes[j]?=some x.goes[j]∧z.goes[j]?=some z.goes[j]):=by constructor <;> simp
    generalize x.goes[j]=p at *
    generalize z.goes[j]=q at *
    clear hxa hza
    have HSD:Hid (∀ W,Below wr.heap.size wr W→((W.cell? ⟨P,1,none⟩=some (.slice (some ⟨b2,o2,none⟩) x.goes.length gc)∧W.cell? ⟨P+1,1,none⟩=some (.slice (some ⟨b3,o3,none⟩) z.goes.length hc))∧(W.cell? ⟨b2,o2+j * 2,none⟩=some (.int .i64 p.1)∧W.cell? ⟨b2,o2+j * 2+1,none⟩=some (.int .i64 p.2))∧(W.cell? ⟨b3,o3+j * 2,none⟩=some (.int .i64 q.1)∧W.cell? ⟨b3,o3+j * 2+1,none⟩=some (.int .i64 q.2)))):=fun W hb=>⟨⟨(HSK.out _ (below_then BG hb BG.size)).2.1,(HSK.out _ (below_then BG hb BG.size)).2.2.2⟩,⟨(hb.cell (p:=⟨b2,o2+j * 2,none⟩) hb2).trans p0,(hb.cell (p:=⟨b2,o2+j * 2+1,none⟩) hb2).trans p1⟩,⟨(hb.cell (p:=⟨b3,o3+j * 2,none⟩) hb3).trans q0,(hb.cell (p:=⟨b3,o3+j * 2+1,none⟩) hb3).trans q1⟩⟩
    have hS0:=HSD.out _ (Below.refl _ wr).drew
    clear p0 p1 q0 q1
    go_wp2_with fail
    have hnq:=neqGo p.1 p.2 q.1 q.2
    obtain ⟨p1,p2⟩:=p
    obtain ⟨q1,q2⟩:=q
    simp only at *
    by_cases hpq:p1=q1∧p2=q2
    · obtain ⟨rfl,rfl⟩:=hpq
      have HA2:Hid (∀ k:Nat,k<j+1→x.goes[k]?=z.goes[k]?):=fun k hk=>by
        rcases Nat.lt_or_ge k j with h | h
        · exact HAL.out k h
        · obtain rfl:k=j:=by omega
          rw [HX1.out.1,HX1.out.2]
      have hnq2:∀ W:World,(binOp .neq 65 (.agg #[.int .i64 p1,.int .i64 p2]) (.agg #[.int .i64 p1,.int .i64 p2])).run Tryz.prog W=.ok (.bool false) W:=fun W=>by rw [hnq W]; simp
      clear hnq HX1 HAL
      refine wp_region_L (fun W=>(W.cell? ⟨P,1,none⟩=some (.slice (some ⟨b2,o2,none⟩) x.goes.length gc)∧W.cell? ⟨P+1,1,none⟩=some (.slice (some ⟨b3,o3,none⟩) z.goes.length hc))∧(W.cell? ⟨b2,o2+j * 2,none⟩=some (.int .i64 p1)∧W.cell? ⟨b2,o2+j * 2+1,none⟩=some (.int .i64 p2))∧(W.cell? ⟨b3,o3+j * 2,none⟩=some (.int .i64 p1)∧W.cell? ⟨b3,o3+j * 2+1,none⟩=some (.int .i64 p2))) 11 (by kernel_rfl) 11 rfl ?_
      refine tk 0 ⟨some 76,.fieldAddr 38 (.tmp 6) 1,0, "ref.go:91",#[],none⟩ hS0 ?_;simp only [Act.put,sA,s0,sS]
      refine tk 1 ⟨some 77,.load 36 (.tmp 76),36, "ref.go:91",#[⟨0,.data⟩],none⟩ hS0 ?_;simp only [Act.put,sA,s0,sS]
      refine tk 2 ⟨some 78,.move (.tmp 9),3, "ref.go:91",#[],none⟩ hS0 ?_;simp only [Act.put,sA,s0,sS]
      refine tk 3 ⟨some 79,.indexAddr 36 (.tmp 77) (.tmp 78),0, "ref.go:91",#[⟨1,.data⟩,⟨2,.data⟩],none⟩ hS0 ?_;simp only [Act.put,sA,s0,sS]
      refine tk 4 ⟨some 80,.load 65 (.tmp 79),65, "ref.go:91",#[⟨3,.data⟩],none⟩ hS0 ?_;simp only [Act.put,sA,s0,sS]
      refine tk 5 ⟨some 81,.fieldAddr 38 (.tmp 7) 1,0, "ref.go:91",#[],none⟩ hS0 ?_;simp only [Act.put,sA,s0,sS]
      refine tk 6 ⟨some 82,.load 36 (.tmp 81),36, "ref.go:91",#[⟨5,.data⟩],none⟩ hS0 ?_;simp only [Act.put,sA,s0,sS]
      refine tk 7 ⟨some 83,.move (.tmp 9),3, "ref.go:91",#[],none⟩ hS0 ?_;simp only [Act.put,sA,s0,sS]
      refine tk 8 ⟨some 84,.indexAddr 36 (.tmp 82) (.tmp 83),0, "ref.go:91",#[⟨6,.data⟩,⟨7,.data⟩],none⟩ hS0 ?_;simp only [Act.put,sA,s0,sS]
      refine tk 9 ⟨some 85,.load 65 (.tmp 84),65, "ref.go:91",#[⟨8,.data⟩],none⟩ hS0 ?_;simp only [Act.put,sA,s0,sS]
      refine tk 10 ⟨some 86,.binOp .neq 65 (.tmp 80) (.tmp 85) 65,4, "ref.go:91",#[⟨4,.data⟩,⟨9,.data⟩],none⟩ hS0 ?_;simp only [Act.put,sA,s0,sS]
      refine wpAnyL_done (by kernel_rfl) ?_ _
      clear hS0 HSD hnq2
      go_wp2_with fail
      exact ⟨⟨j+1,by go_num,by omega,HA2.out,BG.drew⟩,by simp [intOf]; omega⟩
    · have HE:Hid (decide (l=m)=false):=HNG.out j (by rw [HX1.out.1,HX1.out.2]; simpa using hpq)
      have hnq2:∀ W:World,(binOp .neq 65 (.agg #[.int .i64 p1,.int .i64 p2]) (.agg #[.int .i64 q1,.int .i64 q2])).run Tryz.prog W=.ok (.bool true) W:=fun W=>by
        rw [hnq W]
        have:(p1 == q1 && p2 == q2)=false:=by
          cases h:(p1 == q1 && p2 == q2)
          · rfl
          · exact absurd (by simpa using h) hpq
        rw [this]; rfl
      clear hnq HX1 HAL hpq
      refine wp_region_L (fun W=>(W.cell? ⟨P,1,none⟩=some (.slice (some ⟨b2,o2,none⟩) x.goes.length gc)∧W.cell? ⟨P+1,1,none⟩=some (.slice (some ⟨b3,o3,none⟩) z.goes.length hc))∧(W.cell? ⟨b2,o2+j * 2,none⟩=some (.int .i64 p1)∧W.cell? ⟨b2,o2+j * 2+1,none⟩=some (.int .i64 p2))∧(W.cell? ⟨b3,o3+j * 2,none⟩=some (.int .i64 q1)∧W.cell? ⟨b3,o3+j * 2+1,none⟩=some (.int .i64 q2))) 11 (by kernel_rfl) 11 rfl ?_
      refine tk 0 ⟨some 76,.fieldAddr 38 (.tmp 6) 1,0, "ref.go:91",#[],none⟩ hS0 ?_;simp only [Act.put,sA,s0,sS]
      refine tk 1 ⟨some 77,.load 36 (.tmp 76),36, "ref.go:91",#[⟨0,.data⟩],none⟩ hS0 ?_;simp only [Act.put,sA,s0,sS]
      refine tk 2 ⟨some 78,.move (.tmp 9),3, "ref.go:91",#[],none⟩ hS0 ?_;simp only [Act.put,sA,s0,sS]
      refine tk 3 ⟨some 79,.indexAddr 36 (.tmp 77) (.tmp 78),0, "ref.go:91",#[⟨1,.data⟩,⟨2,.data⟩],none⟩ hS0 ?_;simp only [Act.put,sA,s0,sS]
      refine tk 4 ⟨some 80,.load 65 (.tmp 79),65, "ref.go:91",#[⟨3,.data⟩],none⟩ hS0 ?_;simp only [Act.put,sA,s0,sS]
      refine tk 5 ⟨some 81,.fieldAddr 38 (.tmp 7) 1,0, "ref.go:91",#[],none⟩ hS0 ?_;simp only [Act.put,sA,s0,sS]
      refine tk 6 ⟨some 82,.load 36 (.tmp 81),36, "ref.go:91",#[⟨5,.data⟩],none⟩ hS0 ?_;simp only [Act.put,sA,s0,sS]
      refine tk 7 ⟨some 83,.move (.tmp 9),3, "ref.go:91",#[],none⟩ hS0 ?_;simp only [Act.put,sA,s0,sS]
      refine tk 8 ⟨some 84,.indexAddr 36 (.tmp 82) (.tmp 83),0, "ref.go:91",#[⟨6,.data⟩,⟨7,.data⟩],none⟩ hS0 ?_;simp only [Act.put,sA,s0,sS]
      refine tk 9 ⟨some 85,.load 65 (.tmp 84),65, "ref.go:91",#[⟨8,.data⟩],none⟩ hS0 ?_;simp only [Act.put,sA,s0,sS]
      refine tk 10 ⟨some 86,.binOp .neq 65 (.tmp 80) (.tmp 85) 65,4, "ref.go:91",#[⟨4,.data⟩,⟨9,.data⟩],none⟩ hS0 ?_;simp only [Act.put,sA,s0,sS]
      refine wpAnyL_done (by kernel_rfl) ?_ _
      clear hS0 HSD hnq2
      go_wp2_with fail
      go_ret
      exact ⟨by rw [HE.out]; rfl,(HBK.out _ BG.drew).2⟩
  obtain ⟨⟨⟨_,_,e0,hxa,_⟩,⟨_,_,e1,hza,_⟩⟩,_⟩:=HAY.out _ BK
  cases e0
  cases e1
  have hjl2:j<z.acts.length:=by have:=HF1.out; omega
  obtain ⟨b2,o2,pv,rfl,hb2,p0,p1,p2,p3,hpr,_,_,hpb⟩:=hxa.at (Below.refl _ _) hjl
  obtain ⟨b3,o3,qv,rfl,hb3,q0,q1,q2,q3,hqr,_⟩:=hza.at (Below.refl _ _) hjl2
  have HX1:Hid (x.acts[j]?=some x.acts[j]∧z.acts[j]?=some z.acts[j]):=by constructor <;> simp
  generalize x.acts[j]=p at *
  generalize z.acts[j]=q at *
  have HCA:=HSA.out p q pv qv wr.drew (hpr.next (Below.refl _ _).drew) (hqr.next (Below.refl _ _).drew) hpb
  obtain ⟨pa,pc,rfl,_⟩:=hpr
  obtain ⟨qa,qc,rfl,_⟩:=hqr
  have HSD:Hid (∀ W,Below wr.heap.size wr W→((W.cell? ⟨P,0,none⟩=some (.slice (some ⟨b2,o2,none⟩) x.acts.length ac)∧W.cell? ⟨P+1,0,none⟩=some (.slice (some ⟨b3,o3,none⟩) z.acts.length bc))∧(W.cell? ⟨b2,o2+j * 4,none⟩=some (.int .i64 p.look)∧W.cell? ⟨b2,o2+j * 4+1,none⟩=some (.int .i64 p.to)∧W.cell? ⟨b2,o2+j * 4+2,none⟩=some (.slice pa p.red.length pc)∧W.cell? ⟨b2,o2+j * 4+3,none⟩=some (.bool p.acc))∧(W.cell? ⟨b3,o3+j * 4,none⟩=some (.int .i64 q.look)∧W.cell? ⟨b3,o3+j * 4+1,none⟩=some (.int .i64 q.to)∧W.cell? ⟨b3,o3+j * 4+2,none⟩=some (.slice qa q.red.length qc)∧W.cell? ⟨b3,o3+j * 4+3,none⟩=some (.bool q.acc)))):=fun W hb=>⟨⟨(HS.out _ (below_then BK hb BK.size)).1,(HS.out _ (below_then BK hb BK.size)).2.2.1⟩,⟨(hb.cell (p:=⟨b2,o2+j * 4,none⟩) hb2).trans p0,(hb.cell (p:=⟨b2,o2+j * 4+1,none⟩) hb2).trans p1,(hb.cell (p:=⟨b2,o2+j * 4+2,none⟩) hb2).trans p2,(hb.cell (p:=⟨b2,o2+j * 4+3,none⟩) hb2).trans p3⟩,⟨(hb.cell (p:=⟨b3,o3+j * 4,none⟩) hb3).trans q0,(hb.cell (p:=⟨b3,o3+j * 4+1,none⟩) hb3).trans q1,(hb.cell (p:=⟨b3,o3+j * 4+2,none⟩) hb3).trans q2,(hb.cell (p:=⟨b3,o3+j * 4+3,none⟩) hb3).trans q3⟩⟩
  have hS0:=HSD.out _ (Below.refl _ wr).drew
  clear hxa hza p0 p1 p2 p3 q0 q1 q2 q3
  go_wp2_with fail
  refine wp_region_L (fun W=>(W.cell? ⟨P,0,none⟩=some (.slice (some ⟨b2,o2,none⟩) x.acts.length ac)∧W.cell? ⟨P+1,0,none⟩=some (.slice (some ⟨b3,o3,none⟩) z.acts.length bc))∧(W.cell? ⟨b2,o2+j * 4,none⟩=some (.int .i64 p.look)∧W.cell? ⟨b2,o2+j * 4+1,none⟩=some (.int .i64 p.to)∧W.cell? ⟨b2,o2+j * 4+2,none⟩=some (.slice pa p.red.length pc)∧W.cell? ⟨b2,o2+j * 4+3,none⟩=some (.bool p.acc))∧(W.cell? ⟨b3,o3+j * 4,none⟩=some (.int .i64 q.look)∧W.cell? ⟨b3,o3+j * 4+1,none⟩=some (.int .i64 q.to)∧W.cell? ⟨b3,o3+j * 4+2,none⟩=some (.slice qa q.red.length qc)∧W.cell? ⟨b3,o3+j * 4+3,none⟩=some (.bool q.acc))) 12 (by kernel_rfl) 12 rfl ?_
  refine tk 0 ⟨some 57,.fieldAddr 38 (.tmp 6) 0,0, "ref.go:86",#[],none⟩ hS0 ?_;simp only [Act.put,sA,s0,sS]
  refine tk 1 ⟨some 58,.load 35 (.tmp 57),35, "ref.go:86",#[⟨0,.data⟩],none⟩ hS0 ?_;simp only [Act.put,sA,s0,sS]
  refine tk 2 ⟨some 59,.move (.tmp 8),3, "ref.go:86",#[],none⟩ hS0 ?_;simp only [Act.put,sA,s0,sS]
  refine tk 3 ⟨some 60,.indexAddr 35 (.tmp 58) (.tmp 59),0, "ref.go:86",#[⟨1,.data⟩,⟨2,.data⟩],none⟩ hS0 ?_;simp only [Act.put,sA,s0,sS]
  refine tk 4 ⟨some 61,.load 41 (.tmp 60),41, "ref.go:86",#[⟨3,.data⟩],none⟩ hS0 ?_;simp only [Act.put,sA,s0,sS]
  refine tk 5 ⟨some 62,.fieldAddr 38 (.tmp 7) 0,0, "ref.go:86",#[],none⟩ hS0 ?_;simp only [Act.put,sA,s0,sS]
  refine tk 6 ⟨some 63,.load 35 (.tmp 62),35, "ref.go:86",#[⟨5,.data⟩],none⟩ hS0 ?_;simp only [Act.put,sA,s0,sS]
  refine tk 7 ⟨some 64,.move (.tmp 8),3, "ref.go:86",#[],none⟩ hS0 ?_;simp only [Act.put,sA,s0,sS]
  refine tk 8 ⟨some 65,.indexAddr 35 (.tmp 63) (.tmp 64),0, "ref.go:86",#[⟨6,.data⟩,⟨7,.data⟩],none⟩ hS0 ?_;simp only [Act.put,sA,s0,sS]
  refine tk 9 ⟨some 66,.load 41 (.tmp 65),41, "ref.go:86",#[⟨8,.data⟩],none⟩ hS0 ?_;simp only [Act.put,sA,s0,sS]
  refine wpAnyL_one' (i:=10) (o:=⟨some 67,.call ⟨.value (.func 23),#[.tmp 61,.tmp 66],#[41,41]⟩,4, "ref.go:86",#[⟨4,.data⟩,⟨9,.data⟩],none⟩) (by kernel_rfl) rfl rfl (fun KQ hK=>?_)
  go_simp
  refine HCA.mono ?_
  rintro e w6 ⟨rfl,b6⟩
  have B6:=below_then BK.drew b6 (by have:=BK.size; exact this)
  have hS6:=HSD.out _ (below_then (Below.refl _ wr).drew b6 (Nat.le_refl _))
  refine hK.out _ _ (fun _=>hS6) ?_
  clear hK b6
  refine tk 11 ⟨some 68,.unOp .not 4 (.tmp 67),4, "ref.go:86",#[⟨10,.data⟩],none⟩ hS6 ?_;simp only [Act.put,sA,s0,sS]
  refine wpAnyL_done (by kernel_rfl) ?_ _
  clear hS0 hS6 HCA HSD
  by_cases hpq:p=q
  · have HA2:Hid (∀ k:Nat,k<j+1→x.acts[k]?=z.acts[k]?):=fun k hk=>by
      rcases Nat.lt_or_ge k j with h | h
      · exact HAL.out k h
      · obtain rfl:k=j:=by omega
        rw [HX1.out.1,HX1.out.2,hpq]
    have hd:decide (p=q)=true:=decide_eq_true hpq
    rw [hd]
    clear hd hpq HX1 HAL
    go_wp2_with fail
    exact ⟨⟨j+1,by go_num,by omega,HA2.out,B6⟩,by simp [intOf]; omega⟩
  · have HE:Hid (decide (l=m)=false):=HNA.out j (by rw [HX1.out.1,HX1.out.2]; simpa using hpq)
    have hd:decide (p=q)=false:=decide_eq_false hpq
    rw [hd]
    clear hd HX1 HAL hpq
    go_wp2_with fail
    go_ret
    exact ⟨by rw [HE.out]; rfl,(HBX.out _ B6).2⟩
set_option maxRecDepth 100000 in
theorem nothing_any (y:Int) (w:World) :
    Calls Tryz.prog 29 #[.int .i64 y] w fun e w'=>e=.returned (.agg #[.int .i64 y,.int .i64 (-1),.slice none 0 0,.bool false])∧Below w.heap.size w w':=by
  have B0:Below w.heap.size w (w.alloc (Obj.cells #[.int .i64 y,.int .i64 (-1),.slice none 0 0,.bool false] 41)):=(Below.refl _ _).alloc (Nat.le_refl _) _
  go_enter Tryz.func29,Tryz.ntmps29
  go_wp2_with fail
  refine bodyPost_ret (results_cell_row rfl _ _ w.heap.size 41 #[.int .i64 y,.int .i64 (-1),.slice none 0 0,.bool false] (0,0) _ rfl (heap_alloc_new _ _) Tryz.underlying41 rfl (by kernel_rfl)) rfl ?_
  exact ⟨rfl,B0⟩
end Go.Proofs.YtiamjafecbpfpaaGreatDoor
namespace Go.Proofs.YtiamjafecbpfpaaGreatDoor
open Go.RowKit Go.Maps
def heldR (v:Value):Option (DataW Value × List MemPlace):=some (.held v,[])
theorem heldR_inv {v x:Value} {ps:List MemPlace} (h:heldR v=some (.held x,ps)):v=x:=by
  unfold heldR at h
  simp at h
  exact h.1
def acVal (a:Ac) (u:Value):Value:=.agg #[.int .i64 a.look,.int .i64 a.to,u,.bool a.acc]
def OwnI (B:Nat) (l:List Int) (v:Value) (W:World):Prop:=W.ownsRow B 3 1 v l.length (l.map encI)
theorem lawInt:Keyed Tryz.prog 3:=int_keyed Tryz.underlying3
theorem keyInt {t:Int} (h:i64B t):keyOf Tryz.prog 3 (.int .i64 t)=some (.int .i64 t):=keyOf_int_mk Tryz.underlying3 (wf64 h)
structure MapA (B b n:Nat) (G:Int→Option Ac) (U:Int→Value) (W:World):Prop where
  hB:B≤b
  keys:∀ t a,G t=some a→i64B t
  own:∃ D:DataW Value,W.ownsMap Tryz.prog 3 heldR b n D∧(∀ t,i64B t→Maps.has D (.int .i64 t)=(G t).isSome)∧∀ t a,G t=some a→∀ z,D.atKey (.int .i64 t) z=.held (acVal a (U t))
  rows:∀ t a,G t=some a→OwnI B a.red (U t) W
  apart:∀ t t' a a' k,t≠t'→G t=some a→G t'=some a'→(U t).ownBlock=some k→(U t').ownBlock=some k→False
def inA (b:Nat) (G:Int→Option Ac) (U:Int→Value) (k:Nat):Prop:=k=b∨∃ t a,G t=some a∧(U t).ownBlock=some k
theorem MapA.lt {B b n:Nat} {G:Int→Option Ac} {U:Int→Value} {W:World} (h:MapA B b n G U W):b<W.heap.size:=by
  obtain ⟨D,h,_⟩:=h.own; exact h.lt
theorem MapA.inLt {B b n:Nat} {G:Int→Option Ac} {U:Int→Value} {W:World} (h:MapA B b n G U W) {k:Nat} (hk:inA b G U k):B≤k∧k<W.heap.size:=by
  rcases hk with rfl | ⟨t,a,ha,hk⟩
  · exact ⟨h.hB,h.lt⟩
  · exact World.ownsRow.lt (h.rows t a ha) k hk
theorem MapA.keep {B b n:Nat} {G:Int→Option Ac} {U:Int→Value} {W W':World} {D:Nat→Prop} (h:MapA B b n G U W) (hb:But D W W') (hd:∀ k,inA b G U k→¬ D k):MapA B b n G U W':=by
  obtain ⟨M,⟨es,clock,h1,h2⟩,h3⟩:=h.own
  exact ⟨h.hB,h.keys,⟨M,⟨es,clock,(hb.block b h.lt (hd b (.inl rfl))).trans h1,h2⟩,h3⟩,fun t a ha=>ownsRow_keep (h.rows t a ha) hb (fun k hk=>hd k (.inr ⟨t,a,ha,hk⟩)),h.apart⟩
theorem MapA.next {B b n:Nat} {G:Int→Option Ac} {U:Int→Value} {W W':World} (h:MapA B b n G U W) (hb:Below W.heap.size W W'):MapA B b n G U W' :=
  h.keep (D:=fun _=>False) (But.of_next hb) (fun _ _ h=>h)
theorem MapA.made {B:Nat} (W:World) (hB:B≤W.heap.size) (U:Int→Value):MapA B W.heap.size 0 (fun _=>none) U (W.alloc (.map #[] 0)) :=
  ⟨hB,fun _ _ h=>(by cases h),⟨.map [],World.ownsMap_made W _ _ _,fun t _=>by simp [Maps.has],fun _ _ h=>(by cases h)⟩,fun _ _ h=>(by cases h),fun _ _ _ _ _ _ h=>(by cases h)⟩
def curA (G:Int→Option Ac) (t:Int):Ac:=(G t).getD ⟨t,-1,[],false⟩
def curU (G:Int→Option Ac) (U:Int→Value) (t:Int):Value:=if (G t).isSome then U t else .slice none 0 0
def updG (G:Int→Option Ac) (t:Int) (a:Ac):Int→Option Ac:=fun s=>if s=t then some a else G s
def updU (U:Int→Value) (t:Int) (u:Value):Int→Value:=fun s=>if s=t then u else U s
theorem zeroAct (W:World):(zeroValue 41).run Tryz.prog W=.ok (.agg #[.int .i64 0,.int .i64 0,.slice none 0 0,.bool false]) W:=Tryz.zeroValue41 W
theorem MapA.look {B b n:Nat} {G:Int→Option Ac} {U:Int→Value} {W:World} (h:MapA B b n G U W) {t:Int} (ht:i64B t) :
    ∃ v,(Instr.lookup 107 (.map (some b)) (.int .i64 t) true).run Tryz.prog W=.ok (.tuple #[v,.bool (G t).isSome]) W∧(∀ a,G t=some a→v=acVal a (U t))∧(G t=none→v=.agg #[.int .i64 0,.int .i64 0,.slice none 0 0,.bool false]):=by
  obtain ⟨D,h1,h2,h3⟩:=h.own
  obtain ⟨v,ps,hr,hv⟩:=h1.look_ok lawInt Tryz.underlying107 (zeroAct W) (zd:=.held (.agg #[.int .i64 0,.int .i64 0,.slice none 0 0,.bool false])) (zp:=[]) rfl (keyInt ht)
  rw [h2 t ht] at hr
  refine ⟨v,hr,fun a ha=>?_,fun hn=>?_⟩
  · rw [h3 t a ha] at hv
    exact heldR_inv hv
  · rw [atKey_of_not_has (by rw [h2 t ht,hn]; rfl)] at hv
    exact heldR_inv hv
theorem MapA.look1 {B b n:Nat} {G:Int→Option Ac} {U:Int→Value} {W:World} (h:MapA B b n G U W) {t:Int} {a:Ac} (ha:G t=some a) :
    (Instr.lookup 107 (.map (some b)) (.int .i64 t) false).run Tryz.prog W=.ok (acVal a (U t)) W:=by
  obtain ⟨D,h1,h2,h3⟩:=h.own
  obtain ⟨v,ps,hr,hv⟩:=h1.lookup lawInt Tryz.underlying107 (zeroAct W) (zd:=.held (.agg #[.int .i64 0,.int .i64 0,.slice none 0 0,.bool false])) (zp:=[]) rfl (keyInt (h.keys t a ha))
  rw [h3 t a ha] at hv
  rw [hr,heldR_inv hv]
theorem but_turned {W W':World} {b:Nat} (h:W.mapTurned W' b):But (fun k=>k=b) W W':=by
  have hg:=h.grown
  exact ⟨hg.os,hg.tape,hg.output,hg.size,fun k hk hd=>hg.block k hk (fun e=>hd (by cases e; rfl))⟩
structure MapB (t0:Int) (B b n:Nat) (G:Int→Option Ac) (U:Int→Value) (W:World):Prop where
  hB:B≤b
  keys:∀ t a,G t=some a→i64B t
  own:∃ D:DataW Value,W.ownsMap Tryz.prog 3 heldR b n D∧(∀ t,i64B t→Maps.has D (.int .i64 t)=(G t).isSome)∧∀ t a,G t=some a→∀ z,D.atKey (.int .i64 t) z=.held (acVal a (U t))
  rows:∀ t a,t≠t0→G t=some a→OwnI B a.red (U t) W
  apart:∀ t t' a a' k,t≠t'→G t=some a→G t'=some a'→(U t).ownBlock=some k→(U t').ownBlock=some k→False
theorem MapA.toB {t0:Int} {B b n:Nat} {G:Int→Option Ac} {U:Int→Value} {W:World} (h:MapA B b n G U W):MapB t0 B b n G U W:=⟨h.hB,h.keys,h.own,fun t a _=>h.rows t a,h.apart⟩
theorem MapB.lt {t0:Int} {B b n:Nat} {G:Int→Option Ac} {U:Int→Value} {W:World} (h:MapB t0 B b n G U W):b<W.heap.size:=by
  obtain ⟨D,h,_⟩:=h.own; exact h.lt
theorem MapB.keep {t0:Int} {B b n:Nat} {G:Int→Option Ac} {U:Int→Value} {W W':World} {D:Nat→Prop} (h:MapB t0 B b n G U W) (hb:But D W W') (hd0:¬ D b) (hd:∀ t a k,t≠t0→G t=some a→(U t).ownBlock=some k→¬ D k):MapB t0 B b n G U W':=by
  obtain ⟨M,⟨es,clock,h1,h2⟩,h3⟩:=h.own
  exact ⟨h.hB,h.keys,⟨M,⟨es,clock,(hb.block b h.lt hd0).trans h1,h2⟩,h3⟩,fun t a ht ha=>ownsRow_keep (h.rows t a ht ha) hb (fun k hk=>hd t a k ht ha hk),h.apart⟩
theorem MapB.store {t:Int} {B b n:Nat} {G:Int→Option Ac} {U:Int→Value} {W:World} (h:MapB t B b n G U W) (hn:n<1000000000) (ht:i64B t) (a:Ac) (u:Value) (hu:OwnI B a.red u W)
    (hap:∀ s c k,s≠t→G s=some c→(U s).ownBlock=some k→u.ownBlock=some k→False) :
    ∃ W',(Instr.mapUpdate 107 (.map (some b)) (.int .i64 t) (acVal a u)).run Tryz.prog W=.ok () W'∧MapA B b (n+1) (updG G t a) (updU U t u) W'∧But (fun k=>k=b) W W':=by
  obtain ⟨D,h1,h2,h3⟩:=h.own
  obtain ⟨W',hr,ho,hm⟩:=h1.store lawInt Tryz.underlying107 (by unfold maxLen; omega) (key:=.int .i64 t) (val:=acVal a u) (kl:=.int .i64 t) (d:=.held (acVal a u)) (ps:=[]) (keyInt ht) rfl
  have hb:=but_turned hm
  have hM:=h1.isMap
  have hkey:=lawInt.key (keyInt ht)
  have hne:∀ (l:List Int) (v:Value),OwnI B l v W→v.ownBlock≠some b:=fun l v hv e=>by
    rcases hv.2 with ⟨rfl,_⟩ | ⟨g,cap,cur,rfl,_,hg,_⟩
    · cases e
    · cases e
      obtain ⟨es,clock,hb',_⟩:=h1
      rw [hg] at hb'; cases hb'
  refine ⟨W',hr,⟨h.hB,fun s c hs=>?_,⟨_,ho,fun s hs=>?_,fun s c hs z=>?_⟩,fun s c hs=>?_,fun s s' c c' k hss hs hs' h4 h5=>?_⟩,hb⟩
  · unfold updG at hs
    split at hs
    · rename_i e; rw [e]; exact ht
    · exact h.keys s c hs
  · unfold updG
    split
    · rename_i e; subst e
      exact has_put_same hM hkey _
    · rename_i e
      rw [has_put_other (by simp; exact e)]
      exact h2 s hs
  · unfold updG at hs
    unfold updU
    split at hs
    · rename_i e; subst e
      cases hs
      rw [if_pos rfl]
      exact atKey_put_same hM hkey _ _
    · rename_i e
      rw [atKey_put_other (by simp; exact e),if_neg e]
      exact h3 s c hs z
  · unfold updG at hs
    unfold updU
    split at hs
    · rename_i e; subst e
      cases hs
      rw [if_pos rfl]
      exact ownsRow_keep hu hb (fun j hj e=>hne _ _ hu (by rw [hj,e]))
    · rename_i e
      rw [if_neg e]
      exact ownsRow_keep (h.rows s c e hs) hb (fun j hj e'=>hne _ _ (h.rows s c e hs) (by rw [hj,e']))
  · unfold updG at hs hs'
    unfold updU at h4 h5
    split at hs
    · rename_i e; subst e
      rw [if_neg (fun e=>hss e.symm)] at hs'
      rw [if_pos rfl] at h4
      rw [if_neg (fun e=>hss e.symm)] at h5
      exact hap s' c' k (fun e=>hss e.symm) hs' h5 h4
    · rename_i e
      rw [if_neg e] at h4
      split at hs'
      · rename_i e'; subst e'
        rw [if_pos rfl] at h5
        exact hap s c k e hs h4 h5
      · rename_i e'
        rw [if_neg e'] at h5
        exact h.apart s s' c c' k hss hs hs' h4 h5
theorem MapA.store {B b n:Nat} {G:Int→Option Ac} {U:Int→Value} {W:World} (h:MapA B b n G U W) (hn:n<1000000000) {t:Int} (ht:i64B t) (a:Ac) (u:Value) (hu:OwnI B a.red u W)
    (hap:∀ s c k,s≠t→G s=some c→(U s).ownBlock=some k→u.ownBlock=some k→False) :
    ∃ W',(Instr.mapUpdate 107 (.map (some b)) (.int .i64 t) (acVal a u)).run Tryz.prog W=.ok () W'∧MapA B b (n+1) (updG G t a) (updU U t u) W'∧But (fun k=>k=b) W W' :=
  h.toB.store hn ht a u hu hap
theorem curU_own {B b n:Nat} {G:Int→Option Ac} {U:Int→Value} {W:World} (h:MapA B b n G U W) (t:Int):OwnI B (curA G t).red (curU G U t) W:=by
  unfold curA curU
  cases hg:G t with
  | none=>exact World.ownsRow_nil _ _ _ _
  | some a=>exact h.rows t a hg
end Go.Proofs.YtiamjafecbpfpaaGreatDoor
namespace Go.Proofs.YtiamjafecbpfpaaGreatDoor
open Go.RowKit
theorem results_cell1 {fn:Func} {p:Tmp} {t:TypeId} (h:fn.results=#[.cell p t]) (tmps:Array Value) (P:Program) (w:World) {a:Addr} {x:Value} (ha:tmps.getD p undef=.pointer (some a)) (hx:(loadVar t a).run P w=.ok x w) :
    (results fn tmps).run P w=.ok x w:=by
  have ha':tmps[p]?.getD undef=.pointer (some a):=by simpa using ha
  simp [results,h,ha',asAddr,hx]
theorem set4 {W:World} {R:Nat} {o0 o1 o2 o3:Value} (c0:W.cell? ⟨R,0,none⟩=some o0) (c1:W.cell? ⟨R,1,none⟩=some o1) (c2:W.cell? ⟨R,2,none⟩=some o2) (c3:W.cell? ⟨R,3,none⟩=some o3) (a b c d:Value) :
    ((((W.setCell ⟨R,0,none⟩ a).setCell ⟨R,1,none⟩ b).setCell ⟨R,2,none⟩ c).setCell ⟨R,3,none⟩ d).rangeAt R 0 [a,b,c,d]:=by
  have hne:∀ {i k:Nat},i≠k→(⟨R,i,none⟩:Addr)≠⟨R,k,none⟩:=fun h e=>h (by cases e; rfl)
  intro j v hj
  rcases j with _ | _ | _ | _ | j
  · simp at hj; subst hj
    show World.cell? _ ⟨R,0,none⟩=_
    rw [World.cell?_setCell_other _ _ _ _ (hne (by decide)),World.cell?_setCell_other _ _ _ _ (hne (by decide)),World.cell?_setCell_other _ _ _ _ (hne (by decide))]
    exact World.cell?_setCell_same _ _ _ c0
  · simp at hj; subst hj
    show World.cell? _ ⟨R,1,none⟩=_
    rw [World.cell?_setCell_other _ _ _ _ (hne (by decide)),World.cell?_setCell_other _ _ _ _ (hne (by decide))]
    exact World.cell?_setCell_same _ _ _ ((World.cell?_setCell_other _ _ _ _ (hne (by decide))).trans c1)
  · simp at hj; subst hj
    show World.cell? _ ⟨R,2,none⟩=_
    rw [World.cell?_setCell_other _ _ _ _ (hne (by decide))]
    exact World.cell?_setCell_same _ _ _ ((World.cell?_setCell_other _ _ _ _ (hne (by decide))).trans ((World.cell?_setCell_other _ _ _ _ (hne (by decide))).trans c2))
  · simp at hj; subst hj
    show World.cell? _ ⟨R,3,none⟩=_
    exact World.cell?_setCell_same _ _ _ ((World.cell?_setCell_other _ _ _ _ (hne (by decide))).trans ((World.cell?_setCell_other _ _ _ _ (hne (by decide))).trans ((World.cell?_setCell_other _ _ _ _ (hne (by decide))).trans c3)))
  · simp at hj
theorem rowF_size (l:List Rw) (s:Int):sizeA (rowF l s).acts≤sizeTb l:=by
  by_cases h:0≤s∧s<l.length
  · obtain ⟨k,rfl⟩:∃ k:Nat,s=k:=⟨s.toNat,by omega⟩
    have hk:k<l.length:=by omega
    rw [rowF_in hk]
    exact sizeTb_acts hk
  · rw [rowF_out h]; simp [sizeA]
theorem red_size {l:List Ac} {j:Nat} (h:j<l.length):l[j].red.length≤sizeA l:=by
  have h1:=sizeA_succ h
  have h2:=sizeA_le l (j+1)
  omega
set_option maxRecDepth 100000 in
set_option maxHeartbeats 4000000 in
theorem act12_any (l:List Rw) (v:Value) (s y:Int) (w:World) (hl:SlW l v w) (hsz:sizeTb l≤100000000) :
    Calls Tryz.prog 14 #[.agg #[v],.int .i64 s,.int .i64 y] w fun e w'=>∃ u,e=.returned (.agg #[.int .i64 (actF l s y).look,.int .i64 (actF l s y).to,u,.bool (actF l s y).acc])∧SlI (actF l s y).red u w'∧Apart w.heap.size u∧Below w.heap.size w w':=by
  obtain ⟨i0,hi0,hz0,hz1,hz2⟩:=info_parts info3
  have B0:Below w.heap.size w ((w.alloc (Obj.cells #[v] 24)).alloc (Obj.cells #[.int .i64 0,.int .i64 0,.slice none 0 0,.bool false] 41)):=((Below.refl _ _).alloc (Nat.le_refl _) _).alloc (by simp) _
  have hR:((w.alloc (Obj.cells #[v] 24)).alloc (Obj.cells #[.int .i64 0,.int .i64 0,.slice none 0 0,.bool false] 41)).heap[w.heap.size+1]?=some (Obj.cells #[.int .i64 0,.int .i64 0,.slice none 0 0,.bool false] 41):=heap_alloc2_new _ _ _
  have HRO:=rowOf_any l v s _ (hl.next B0)
  obtain ⟨la,lc,rfl,_,_,_,hlb⟩:=hl
  have t0:((w.alloc (Obj.cells #[.slice la l.length lc] 24)).alloc (Obj.cells #[.int .i64 0,.int .i64 0,.slice none 0 0,.bool false] 41)).cell? ⟨w.heap.size,0,none⟩=some (.slice la l.length lc):=by simp
  have HR:Hid (actF l s y=((rowF l s).acts.find? (fun a=>a.look == y)).getD ⟨y,-1,[],false⟩):=rfl
  have hrsz:sizeA (rowF l s).acts≤100000000:=Nat.le_trans (rowF_size l s) hsz
  generalize rowF l s=r at *
  have HNT:Hid (∀ W,Calls Tryz.prog 29 #[.int .i64 y] W fun e w'=>e=.returned (.agg #[.int .i64 y,.int .i64 (-1),.slice none 0 0,.bool false])∧Below W.heap.size W w'):=fun W=>nothing_any y W
  go_enter Tryz.func14,Tryz.ntmps14
  go_wp2_with fail
  generalize (w.alloc (Obj.cells #[.slice la l.length lc] 24)).alloc (Obj.cells #[.int .i64 0,.int .i64 0,.slice none 0 0,.bool false] 41)=w0 at *
  refine HRO.mono ?_
  rintro e w1 ⟨va,vg,rfl,hA,hG,b1⟩
  have B1:=below_then B0 b1 B0.size
  have hRl:w.heap.size+1<w0.heap.size:=(Array.getElem?_eq_some_iff.1 hR).1
  have HRC:Hid (∀ W,Below w1.heap.size w1 W→W.heap[w.heap.size+1]?=some (Obj.cells #[.int .i64 0,.int .i64 0,.slice none 0 0,.bool false] 41)):=fun W hb=>((below_then b1 hb b1.size).block _ hRl).trans hR
  have HAA:Hid (∀ W,Below w1.heap.size w1 W→SlA r.acts va W):=fun W hb=>hA.next hb
  obtain ⟨aa,ac,rfl,_,_,_,hab⟩:=hA
  obtain ⟨ga,gc,rfl,_⟩:=hG
  have hfd:∀ W:World,(Instr.field 38 (.agg #[.slice aa r.acts.length ac,.slice ga r.goes.length gc]) 0).run Tryz.prog W=.ok (.slice aa r.acts.length ac) W:=fun _=>by kernel_rfl
  have hw1:=b1.size
  clear HRO t0 b1 B0 hR
  go_wp2_with fail
  clear hfd
  go_loopw [14] (fun iv wr=>∃ (j:Nat),iv=.int .i64 j∧j≤r.acts.length∧(∀ k,(hk:k<r.acts.length)→k<j→(r.acts[k].look == y)=false)∧Below w1.heap.size w1 wr) (fun i _=>r.acts.length - (intOf i).toNat)
  case atStart=>exact ⟨0,rfl,Nat.zero_le _,fun k _ hk=>by omega,Below.refl _ _⟩
  case round =>
  obtain ⟨j,rfl,hj,hall,BR⟩:=hrel
  have HAL:Hid (∀ k,(hk:k<r.acts.length)→k<j→(r.acts[k].look == y)=false):=hall
  clear hall
  have BW:=below_then B1 BR B1.size
  by_cases hlt:j<r.acts.length
  case neg =>
    have HN:Hid (actF l s y=⟨y,-1,[],false⟩):=by
      show _=_
      rw [HR.out,find_none _ (fun q hq=>HAL.out q hq (by omega))]; rfl
    have HNW:=HNT.out wr
    clear HR HAL HAA
    go_wp2_with fail
    refine HNW.mono ?_
    rintro e w4 ⟨rfl,b4⟩
    have B4:=below_then BW b4 BW.size
    have hR4:=HRC.out _ (below_then BR b4 BR.size)
    have c0:w4.cell? ⟨w.heap.size+1,0,none⟩=some (.int .i64 0):=by simp [World.cell?,hR4]
    have c1:w4.cell? ⟨w.heap.size+1,1,none⟩=some (.int .i64 0):=by simp [World.cell?,hR4]
    have c2:w4.cell? ⟨w.heap.size+1,2,none⟩=some (.slice none 0 0):=by simp [World.cell?,hR4]
    have c3:w4.cell? ⟨w.heap.size+1,3,none⟩=some (.bool false):=by simp [World.cell?,hR4]
    have z:∀ k,w4.frozen? ⟨w.heap.size+1,k,none⟩=false:=fun k=>by simp [World.frozen?,hR4]
    clear HNW b4 HNT
    go_wp2_with fail
    have hB:Below w.heap.size w ((((w4.setCell ⟨w.heap.size+1,0,none⟩ (.int .i64 y)).setCell ⟨w.heap.size+1,1,none⟩ (.int .i64 (-1))).setCell ⟨w.heap.size+1,2,none⟩ (.slice none 0 0)).setCell ⟨w.heap.size+1,3,none⟩ (.bool false)):=(((B4.setCell (by simp) _).setCell (by simp) _).setCell (by simp) _).setCell (by simp) _
    refine bodyPost_ret (results_cell1 rfl _ _ _ rfl (run_loadVar_mid _ _ _ _ _ _ (set4 c0 c1 c2 c3 _ _ _ _) Tryz.underlying41 rfl (by kernel_rfl))) rfl ?_
    exact ⟨_,by rw [HN.out],by rw [HN.out]; exact SlI.nil12 _,Apart.none _ _ _,hB⟩
  obtain ⟨_,_,e0,hacs,_⟩:=HAA.out _ BR
  cases e0
  obtain ⟨b2,off2,v2,rfl,hb2,d0,d1,d2,d3,hred,_,_,hrb⟩:=hacs.at (Below.refl _ _) hlt
  have HA2:Hid ((r.acts[j].look == y)=false→∀ k,(hk:k<r.acts.length)→k<j+1→(r.acts[k].look == y)=false):=fun he q hq hqj=>by
    rcases Nat.lt_or_ge q j with h | h
    · exact HAL.out q hq h
    · obtain rfl:q=j:=by omega
      exact he
  have HN:Hid (r.acts[j].look=y→actF l s y=r.acts[j]):=fun he=>by
    rw [HR.out,find_take _ hlt HAL.out (by simpa using he)]; rfl
  have hxl:r.acts[j].red.length≤100000000:=Nat.le_trans (red_size hlt) hrsz
  generalize r.acts[j]=x at *
  have HRD:Hid (∀ W,Below wr.heap.size wr W→SlI x.red v2 W):=fun W hb=>hred.next hb
  obtain ⟨da,dc,rfl,_⟩:=hred
  clear HR HAL hacs HNT
  have BX:Below w1.heap.size w1 (wr.alloc (Obj.cells #[.int .i64 x.look,.int .i64 x.to,.slice da x.red.length dc,.bool x.acc] 41)):=BR.alloc BR.size _
  have bx:Below wr.heap.size wr (wr.alloc (Obj.cells #[.int .i64 x.look,.int .i64 x.to,.slice da x.red.length dc,.bool x.acc] 41)):=(Below.refl _ _).alloc (Nat.le_refl _) _
  have hQ:(wr.alloc (Obj.cells #[.int .i64 x.look,.int .i64 x.to,.slice da x.red.length dc,.bool x.acc] 41)).heap[wr.heap.size]?=some (Obj.cells #[.int .i64 x.look,.int .i64 x.to,.slice da x.red.length dc,.bool x.acc] 41):=heap_alloc_new _ _
  by_cases he:x.look=y
  case neg =>
    have he':(x.look == y)=false:=by simpa using he
    have HA3:Hid (∀ k,(hk:k<r.acts.length)→k<j+1→(r.acts[k].look == y)=false):=HA2.out he'
    clear HN HA2 hQ bx
    go_wp2_with fail
    exact ⟨⟨j+1,by go_num,by omega,HA3.out,BX⟩,by simp [intOf]; omega⟩
  have HN2:Hid (actF l s y=x∧x.look=y):=⟨HN.out he,he⟩
  clear HN HA2
  obtain ⟨x0,x1,xr,x3⟩:=x
  simp only at *
  subst he
  have HSX:=HRD.out _ bx
  have HNN:Hid (da=none→xr.length=0∧dc=0):=fun e=>by
    obtain ⟨_,_,e1,_,hcn,hle,_⟩:=HSX
    cases e1
    have:=hcn e
    exact ⟨by omega,this⟩
  have HNW:Hid (∀ ad,da=some ad→∀ (k:Nat) (u:Value),(xr.map encI)[k]?=some u→(wr.alloc (Obj.cells #[.int .i64 x0,.int .i64 x1,.slice da xr.length dc,.bool x3] 41)).cell? (ad.add k)=some u):=fun ad e k u hk=>by
    obtain ⟨_,_,e1,hrow,_⟩:=HSX
    cases e1
    rw [List.getElem?_map] at hk
    obtain ⟨q,hq,rfl⟩:=Option.map_eq_some_iff.1 hk
    obtain ⟨b3,o3,e3,_,c⟩:=hrow k q hq
    rw [e] at e3
    cases e3
    rw [add_plain]; exact c
  have HE6:Hid (∀ u∈xr.map encI,u.oneCell'=true):=by
    intro u hu
    obtain ⟨q,_,rfl⟩:=List.mem_map.1 hu
    rfl
  have HI64:Hid (∀ q∈xr,i64B q):=by
    obtain ⟨_,_,e1,_,_,_,h64⟩:=HSX
    exact h64
  have hm1:(xr.map encI).length=xr.length * 1:=by simp
  clear HSX HRD
  go_wp2_with (at_builtin; refine wpList_append_any rfl (.const (.slice none 0 0)) (.tmp 23) 39 rfl (wr.alloc (Obj.cells #[.int .i64 x0,.int .i64 x1,.slice da xr.length dc,.bool x3] 41)).heap.size 3 i0 _ 1 8 Tryz.underlying39 hi0 hz0 hz1 hz2 rfl (by decide) _ 0 [] rfl (World.ownsRow_nil _ _ _ _) da xr.length dc (xr.map encI) rfl HNN.out hm1 HNW.out HE6.out (by unfold maxLen; omega) (by omega) (Nat.le_refl _) ?_)
  intro v9 w9 hown9 hg9
  have hbn:Below (wr.heap.size+1) (wr.alloc (Obj.cells #[.int .i64 x0,.int .i64 x1,.slice da xr.length dc,.bool x3] 41)) w9:=(Below.refl _ _).grown hg9 (by simp) (fun k e=>by cases e)
  obtain ⟨a9,c9,rfl⟩:=slice_of_own hown9
  have hsw:w1.heap.size≤wr.heap.size:=BR.size
  have hR9:w9.heap[w.heap.size+1]?=some (Obj.cells #[.int .i64 0,.int .i64 0,.slice none 0 0,.bool false] 41):=(hbn.block _ (by omega)).trans (HRC.out _ BX)
  have hQ9:w9.heap[wr.heap.size]?=some (Obj.cells #[.int .i64 x0,.int .i64 x1,.slice da xr.length dc,.bool x3] 41):=(hbn.block _ (by omega)).trans hQ
  have hne:wr.heap.size≠w.heap.size+1:=by omega
  have hne2:¬ w.heap.size+1=wr.heap.size:=by omega
  have q2:w9.cell? ⟨wr.heap.size,2,none⟩=some (.slice da xr.length dc):=by simp [World.cell?,hQ9]
  have zq:w9.frozen? ⟨wr.heap.size,2,none⟩=false:=by simp [World.frozen?,hQ9]
  have p0:(w9.setCell ⟨wr.heap.size,2,none⟩ (.slice a9 xr.length c9)).cell? ⟨wr.heap.size,0,none⟩=some (.int .i64 x0):=(World.cell?_setCell_other _ _ _ _ (by simp)).trans (by simp [World.cell?,hQ9])
  have p1:(w9.setCell ⟨wr.heap.size,2,none⟩ (.slice a9 xr.length c9)).cell? ⟨wr.heap.size,1,none⟩=some (.int .i64 x1):=(World.cell?_setCell_other _ _ _ _ (by simp)).trans (by simp [World.cell?,hQ9])
  have p2:(w9.setCell ⟨wr.heap.size,2,none⟩ (.slice a9 xr.length c9)).cell? ⟨wr.heap.size,2,none⟩=some (.slice a9 xr.length c9):=World.cell?_setCell_same _ _ _ q2
  have p3:(w9.setCell ⟨wr.heap.size,2,none⟩ (.slice a9 xr.length c9)).cell? ⟨wr.heap.size,3,none⟩=some (.bool x3):=(World.cell?_setCell_other _ _ _ _ (by simp)).trans (by simp [World.cell?,hQ9])
  have c0:(w9.setCell ⟨wr.heap.size,2,none⟩ (.slice a9 xr.length c9)).cell? ⟨w.heap.size+1,0,none⟩=some (.int .i64 0):=(World.cell?_setCell_far _ _ _ _ hne).trans (by simp [World.cell?,hR9])
  have c1:(w9.setCell ⟨wr.heap.size,2,none⟩ (.slice a9 xr.length c9)).cell? ⟨w.heap.size+1,1,none⟩=some (.int .i64 0):=(World.cell?_setCell_far _ _ _ _ hne).trans (by simp [World.cell?,hR9])
  have c2:(w9.setCell ⟨wr.heap.size,2,none⟩ (.slice a9 xr.length c9)).cell? ⟨w.heap.size+1,2,none⟩=some (.slice none 0 0):=(World.cell?_setCell_far _ _ _ _ hne).trans (by simp [World.cell?,hR9])
  have c3:(w9.setCell ⟨wr.heap.size,2,none⟩ (.slice a9 xr.length c9)).cell? ⟨w.heap.size+1,3,none⟩=some (.bool false):=(World.cell?_setCell_far _ _ _ _ hne).trans (by simp [World.cell?,hR9])
  have z:∀ k,(w9.setCell ⟨wr.heap.size,2,none⟩ (.slice a9 xr.length c9)).frozen? ⟨w.heap.size+1,k,none⟩=false:=fun k=>by rw [World.frozen?_setCell]; simp [World.frozen?,hR9]
  have HO10:Hid ((w9.setCell ⟨wr.heap.size,2,none⟩ (.slice a9 xr.length c9)).ownsRow (wr.heap.size+1) 3 1 (.slice a9 xr.length c9) xr.length (xr.map encI)):=ownsRow_setCell_below hown9 (by simp) _
  have B10:Below w.heap.size w (w9.setCell ⟨wr.heap.size,2,none⟩ (.slice a9 xr.length c9)):=(below_then (BW.alloc BW.size _) (by simpa using hbn) (by have:=BW.size; simp; omega)).setCell (by have:=BW.size; simp only; omega) _
  have HAP:Hid (Apart (wr.heap.size+1) (.slice a9 xr.length c9)):=own_apart2 hown9
  clear hown9 hg9 hbn hQ hQ9 hR9 HRC bx BX
  go_upto_region 6 with fail
  clear q2 zq
  generalize w9.setCell ⟨wr.heap.size,2,none⟩ (.slice a9 xr.length c9)=w10 at *
  go_wp2_with fail
  have hB:Below w.heap.size w ((((w10.setCell ⟨w.heap.size+1,0,none⟩ (.int .i64 x0)).setCell ⟨w.heap.size+1,1,none⟩ (.int .i64 x1)).setCell ⟨w.heap.size+1,2,none⟩ (.slice a9 xr.length c9)).setCell ⟨w.heap.size+1,3,none⟩ (.bool x3)):=(((B10.setCell (by simp) _).setCell (by simp) _).setCell (by simp) _).setCell (by simp) _
  have hlo:w.heap.size+1<wr.heap.size+1:=by omega
  have hO:World.ownsRow ((((w10.setCell ⟨w.heap.size+1,0,none⟩ (.int .i64 x0)).setCell ⟨w.heap.size+1,1,none⟩ (.int .i64 x1)).setCell ⟨w.heap.size+1,2,none⟩ (.slice a9 xr.length c9)).setCell ⟨w.heap.size+1,3,none⟩ (.bool x3)) (wr.heap.size+1) 3 1 (.slice a9 xr.length c9) xr.length (xr.map encI):=ownsRow_setCell_below (ownsRow_setCell_below (ownsRow_setCell_below (ownsRow_setCell_below HO10.out hlo _) hlo _) hlo _) hlo _
  refine bodyPost_ret (results_cell1 rfl _ _ _ rfl (run_loadVar_mid _ _ _ _ _ _ (set4 c0 c1 c2 c3 _ _ _ _) Tryz.underlying41 rfl (by kernel_rfl))) rfl ?_
  exact ⟨_,by rw [HN2.out.1],by rw [HN2.out.1]; exact sli_own hO HI64.out,HAP.out.mono (by omega),hB⟩
end Go.Proofs.YtiamjafecbpfpaaGreatDoor
namespace Go.Proofs.YtiamjafecbpfpaaGreatDoor
open Go.RowKit Go.Maps
set_option maxRecDepth 100000 in
set_option maxHeartbeats 1000000 in
theorem at_any {B b n:Nat} {G:Int→Option Ac} {U:Int→Value} (t:Int) (w:World) (h:MapA B b n G U w) (ht:i64B t) :
    Calls Tryz.prog 65 #[.map (some b),.int .i64 t] w fun e w'=>e=.returned (acVal (curA G t) (curU G U t))∧Below w.heap.size w w':=by
  have B0:Below w.heap.size w (w.alloc (Obj.cells #[.int .i64 0,.int .i64 0,.slice none 0 0,.bool false] 41)):=(Below.refl _ _).alloc (Nat.le_refl _) _
  obtain ⟨v,hr,hv1,hv2⟩:=(h.next B0).look ht
  have HNT:Hid (∀ W,Calls Tryz.prog 29 #[.int .i64 t] W fun e w'=>e=.returned (.agg #[.int .i64 t,.int .i64 (-1),.slice none 0 0,.bool false])∧Below W.heap.size W w'):=fun W=>nothing_any t W
  cases hg:G t with
  | some a =>
    have hrow:=h.rows t a hg
    have hc:acVal (curA G t) (curU G U t)=acVal a (U t):=by unfold curA curU; rw [hg]; rfl
    rw [hc]
    obtain rfl:=hv1 a hg
    rw [hg] at hr
    obtain ⟨ua,uc,hU⟩:=slice_of_ownK hrow
    rw [hU] at hr ⊢
    unfold acVal at hr ⊢
    clear hv1 hv2 hc hrow h HNT
    simp only [Option.isSome_some] at hr
    go_enter Tryz.func65,Tryz.ntmps65
    go_wp2_with fail
    have B1:Below w.heap.size w ((w.alloc (Obj.cells #[.int .i64 a.look,.int .i64 a.to,.slice ua a.red.length uc,.bool a.acc] 41)).alloc (Obj.cells #[.int .i64 a.look,.int .i64 a.to,.slice ua a.red.length uc,.bool a.acc] 41)):=((Below.refl _ _).alloc (Nat.le_refl _) _).alloc (by simp) _
    refine bodyPost_ret (results_cell_row rfl _ _ w.heap.size 41 #[.int .i64 a.look,.int .i64 a.to,.slice ua a.red.length uc,.bool a.acc] (0,0) _ rfl ((Lib.alloc_old _ _ _ (by simp)).trans (heap_alloc_new _ _)) Tryz.underlying41 rfl (by kernel_rfl)) rfl ?_
    exact ⟨rfl,B1⟩
  | none =>
    have hc:acVal (curA G t) (curU G U t)=acVal ⟨t,-1,[],false⟩ (.slice none 0 0):=by unfold curA curU; rw [hg]; rfl
    rw [hc]
    obtain rfl:=hv2 hg
    rw [hg] at hr
    unfold acVal
    clear hv1 hv2 hc h
    simp only [Option.isSome_none] at hr
    have B1:Below w.heap.size w ((w.alloc (Obj.cells #[.int .i64 0,.int .i64 0,.slice none 0 0,.bool false] 41)).alloc (Obj.cells #[.int .i64 0,.int .i64 0,.slice none 0 0,.bool false] 41)):=B0.alloc (by simp) _
    have hR1:((w.alloc (Obj.cells #[.int .i64 0,.int .i64 0,.slice none 0 0,.bool false] 41)).alloc (Obj.cells #[.int .i64 0,.int .i64 0,.slice none 0 0,.bool false] 41)).heap[w.heap.size]?=some (Obj.cells #[.int .i64 0,.int .i64 0,.slice none 0 0,.bool false] 41):=(Lib.alloc_old _ _ _ (by simp)).trans (heap_alloc_new _ _)
    go_enter Tryz.func65,Tryz.ntmps65
    go_upto_region 4 with fail
    clear hr
    generalize (w.alloc (Obj.cells #[.int .i64 0,.int .i64 0,.slice none 0 0,.bool false] 41)).alloc (Obj.cells #[.int .i64 0,.int .i64 0,.slice none 0 0,.bool false] 41)=w3 at *
    have HN3:=HNT.out w3
    go_wp2_with fail
    refine HN3.mono ?_
    rintro e w4 ⟨rfl,b4⟩
    have B4:=below_then B1 b4 B1.size
    have hR4:w4.heap[w.heap.size]?=some (Obj.cells #[.int .i64 0,.int .i64 0,.slice none 0 0,.bool false] 41):=(b4.block _ (Array.getElem?_eq_some_iff.1 hR1).1).trans hR1
    have c0:w4.cell? ⟨w.heap.size,0,none⟩=some (.int .i64 0):=by simp [World.cell?,hR4]
    have c1:w4.cell? ⟨w.heap.size,1,none⟩=some (.int .i64 0):=by simp [World.cell?,hR4]
    have c2:w4.cell? ⟨w.heap.size,2,none⟩=some (.slice none 0 0):=by simp [World.cell?,hR4]
    have c3:w4.cell? ⟨w.heap.size,3,none⟩=some (.bool false):=by simp [World.cell?,hR4]
    have z:∀ k,w4.frozen? ⟨w.heap.size,k,none⟩=false:=fun k=>by simp [World.frozen?,hR4]
    clear HN3 b4 HNT hR1 hR4 B0
    go_wp2_with fail
    have hB:Below w.heap.size w ((((w4.setCell ⟨w.heap.size,0,none⟩ (.int .i64 t)).setCell ⟨w.heap.size,1,none⟩ (.int .i64 (-1))).setCell ⟨w.heap.size,2,none⟩ (.slice none 0 0)).setCell ⟨w.heap.size,3,none⟩ (.bool false)):=(((B4.setCell (by simp) _).setCell (by simp) _).setCell (by simp) _).setCell (by simp) _
    refine bodyPost_ret (results_cell1 rfl _ _ _ rfl (run_loadVar_mid _ _ _ _ _ _ (set4 c0 c1 c2 c3 _ _ _ _) Tryz.underlying41 rfl (by kernel_rfl))) rfl ?_
    exact ⟨rfl,hB⟩
set_option maxRecDepth 100000 in
set_option maxHeartbeats 1000000 in
theorem shift_any {B b n:Nat} {G:Int→Option Ac} {U:Int→Value} (t y:Int) (w:World) (h:MapA B b n G U w) (ht:i64B t) (hn:n<1000000000) :
    Calls Tryz.prog 42 #[.map (some b),.int .i64 t,.int .i64 y] w fun e w'=>e=.returned (.tuple #[])∧MapA B b (n+1) (updG G t ⟨(curA G t).look,y,(curA G t).red,(curA G t).acc⟩) (updU U t (curU G U t)) w'∧But (fun k=>k=b) w w':=by
  have HAT:=at_any t w h ht
  have hrow:=curU_own h t
  obtain ⟨ua,uc,hU⟩:=slice_of_ownK hrow
  have HST:Hid (∀ W,Below w.heap.size w W→∃ W',(Instr.mapUpdate 107 (.map (some b)) (.int .i64 t) (.agg #[.int .i64 (curA G t).look,.int .i64 y,.slice ua (curA G t).red.length uc,.bool (curA G t).acc])).run Tryz.prog W=.ok () W'∧MapA B b (n+1) (updG G t ⟨(curA G t).look,y,(curA G t).red,(curA G t).acc⟩) (updU U t (curU G U t)) W'∧But (fun k=>k=b) W W'):=fun W hW=>by
    have hM:=h.next hW
    have:=hM.store hn ht ⟨(curA G t).look,y,(curA G t).red,(curA G t).acc⟩ (curU G U t) (curU_own hM t) (fun s c k hs hc h1 h2=>by
      unfold curU at h2
      split at h2
      · rename_i hsome
        obtain ⟨a,ha⟩:=Option.isSome_iff_exists.1 hsome
        exact h.apart s t c a k hs hc ha h1 h2
      · cases h2)
    unfold acVal at this
    rw [hU] at this ⊢
    exact this
  rw [hU] at HAT ⊢
  unfold acVal at HAT
  clear hrow
  rw [← hU]
  generalize (updG G t ⟨(curA G t).look,y,(curA G t).red,(curA G t).acc⟩)=G' at *
  generalize (updU U t (curU G U t))=U' at *
  generalize (curA G t).look=a0 at *
  generalize (curA G t).to=a1 at *
  generalize (curA G t).red.length=rn at *
  generalize (curA G t).acc=a3 at *
  go_enter Tryz.func42,Tryz.ntmps42
  go_wp2_with fail
  refine HAT.mono ?_
  rintro e w1 ⟨rfl,b1⟩
  have B1:Below w.heap.size w (w1.alloc (Obj.cells #[.int .i64 a0,.int .i64 y,.slice ua rn uc,.bool a3] 41)):=b1.alloc b1.size _
  obtain ⟨W',hr,hM,hb⟩:=HST.out _ B1
  have HR:Hid (MapA B b (n+1) G' U' W'∧But (fun k=>k=b) w W'):=⟨hM,(But.of_next B1).trans hb⟩
  clear HAT HST hM hb h
  go_wp2_with fail
  go_end0
  exact ⟨rfl,HR.out⟩
theorem infoInt1:(Tryz.prog.info? 3).map (fun i=>(i.zero,i.size,i.bytes))=some (some (.int .i64 0),1,8):=by kernel_rfl
def endA (a:Ac) (p:Int):Ac:=if p=-1 then ⟨a.look,a.to,a.red,true⟩ else ⟨a.look,a.to,a.red++[p],a.acc⟩
def Ended (B b n:Nat) (G:Int→Option Ac) (U:Int→Value) (t:Int) (a:Ac) (w w':World):Prop :=
  ∃ u,MapA B b (n+1) (updG G t a) (updU U t u) w'∧But (inA b G U) w w'∧∀ k,inA b (updG G t a) (updU U t u) k→inA b G U k∨w.heap.size≤k
theorem ended_in {b:Nat} {G:Int→Option Ac} {U:Int→Value} {t:Int} {a:Ac} {u:Value} {m:Nat} (hu:∀ k,u.ownBlock=some k→inA b G U k∨m≤k):∀ k,inA b (updG G t a) (updU U t u) k→inA b G U k∨m≤k:=by
  rintro k (rfl | ⟨s,c,hs,hk⟩)
  · exact .inl (.inl rfl)
  · unfold updG at hs
    unfold updU at hk
    split at hs
    · rename_i e; rw [if_pos e] at hk; exact hu k hk
    · rename_i e; rw [if_neg e] at hk; exact .inl (.inr ⟨s,c,hs,hk⟩)
theorem curU_in {G:Int→Option Ac} {U:Int→Value} {t:Int} {k:Nat} (h:(curU G U t).ownBlock=some k):∃ a,G t=some a∧(U t).ownBlock=some k:=by
  unfold curU at h
  split at h
  · rename_i hs
    obtain ⟨a,ha⟩:=Option.isSome_iff_exists.1 hs
    exact ⟨a,ha,h⟩
  · cases h
set_option maxRecDepth 100000 in
set_option maxHeartbeats 2000000 in
theorem endAct_any {B b n:Nat} {G:Int→Option Ac} {U:Int→Value} (x:Ir) (w:World) (h:MapA B b n G U w) (hx:okR x) (hn:n<1000000000) (hl:(curA G x.2.2).red.length≤100000000) (hBw:B≤w.heap.size) :
    Calls Tryz.prog 39 #[.map (some b),valR x] w fun e w'=>e=.returned (.tuple #[])∧Ended B b n G U x.2.2 (endA (curA G x.2.2) x.1) w w':=by
  obtain ⟨i0,hi0,hz0,hz1,hz2⟩:=info_parts infoInt1
  obtain ⟨x0,x1,t⟩:=x
  obtain ⟨hx0,hx1,ht⟩:=hx
  unfold valR
  simp only at *
  have BX:Below w.heap.size w (w.alloc (Obj.cells #[.int .i64 x0,.int .i64 x1,.int .i64 t] 110)):=(Below.refl _ _).alloc (Nat.le_refl _) _
  have hM0:=h.next BX
  have HAT:=at_any t _ hM0 ht
  obtain ⟨ua,uc,hU⟩:=slice_of_ownK (curU_own h t)
  have hlt:=h.lt
  rw [hU] at HAT
  unfold acVal at HAT
  have d0:(w.alloc (Obj.cells #[.int .i64 x0,.int .i64 x1,.int .i64 t] 110)).cell? ⟨w.heap.size,0,none⟩=some (.int .i64 x0):=by simp
  have d2:(w.alloc (Obj.cells #[.int .i64 x0,.int .i64 x1,.int .i64 t] 110)).cell? ⟨w.heap.size,2,none⟩=some (.int .i64 t):=by simp
  have hxl:w.heap.size<(w.alloc (Obj.cells #[.int .i64 x0,.int .i64 x1,.int .i64 t] 110)).heap.size:=by simp
  obtain ⟨c,hc⟩:∃ c,curA G t=c:=⟨_,rfl⟩
  rw [hc] at HAT hl hU ⊢
  have HC:Hid (curA G t=c):=hc
  clear hc hM0
  go_enter Tryz.func39,Tryz.ntmps39
  go_wp2_with fail
  generalize w.alloc (Obj.cells #[.int .i64 x0,.int .i64 x1,.int .i64 t] 110)=w0 at *
  refine HAT.mono ?_
  rintro e w1 ⟨rfl,b1⟩
  have B1:Below w.heap.size w w1:=below_then BX b1 BX.size
  have e0:=(b1.cell (p:=⟨w.heap.size,0,none⟩) hxl).trans d0
  have e2:=(b1.cell (p:=⟨w.heap.size,2,none⟩) hxl).trans d2
  have hx1l:w.heap.size<w1.heap.size:=Nat.lt_of_lt_of_le hxl b1.size
  clear HAT b1 d0 d2 BX
  by_cases hp:x0=-1
  · subst hp
    have hEA:endA c (-1)=⟨c.look,c.to,c.red,true⟩:=if_pos rfl
    have BA:Below w.heap.size w (w1.alloc (Obj.cells #[.int .i64 c.look,.int .i64 c.to,.slice ua c.red.length uc,.bool true] 41)):=B1.alloc B1.size _
    have hM:=h.next BA
    obtain ⟨W',hr,hM',hb⟩:=hM.store hn ht ⟨c.look,c.to,c.red,true⟩ (curU G U t) (by have:=curU_own hM t; rw [HC.out] at this; exact this) (fun s c' k hs hc' h1 h2=>by
      obtain ⟨a,ha,h3⟩:=curU_in h2
      exact h.apart s t c' a k hs hc' ha h1 h3)
    rw [hU] at hr
    unfold acVal at hr
    have HR:Hid (Ended B b n G U t (endA c (-1)) w W'):=hEA ▸ ⟨_,hM',(But.of_next BA).trans (hb.mono (fun k _ e=>.inl e)),ended_in (fun k hk=>by
      obtain ⟨a,ha,h3⟩:=curU_in hk
      exact .inl (.inr ⟨t,a,ha,h3⟩))⟩
    clear hM hM' hb h hEA
    go_wp2_with fail
    go_end0
    exact ⟨rfl,HR.out⟩
  · have hp':(x0 == -1)=false:=by simpa using hp
    have hEA:endA c x0=⟨c.look,c.to,c.red++[x0],c.acc⟩:=if_neg hp
    have BA:Below w.heap.size w (w1.alloc (Obj.cells #[.int .i64 c.look,.int .i64 c.to,.slice ua c.red.length uc,.bool c.acc] 41)):=B1.alloc B1.size _
    have a0:(w1.alloc (Obj.cells #[.int .i64 c.look,.int .i64 c.to,.slice ua c.red.length uc,.bool c.acc] 41)).heap[w1.heap.size]?=some (Obj.cells #[.int .i64 c.look,.int .i64 c.to,.slice ua c.red.length uc,.bool c.acc] 41):=heap_alloc_new _ _
    have hal:w1.heap.size<(w1.alloc (Obj.cells #[.int .i64 c.look,.int .i64 c.to,.slice ua c.red.length uc,.bool c.acc] 41)).heap.size:=by simp
    have e0':(w1.alloc (Obj.cells #[.int .i64 c.look,.int .i64 c.to,.slice ua c.red.length uc,.bool c.acc] 41)).cell? ⟨w.heap.size,0,none⟩=some (.int .i64 x0):=(World.cell?_of_block (Lib.alloc_old w1 _ _ hx1l)).trans e0
    have e2':(w1.alloc (Obj.cells #[.int .i64 c.look,.int .i64 c.to,.slice ua c.red.length uc,.bool c.acc] 41)).cell? ⟨w.heap.size,2,none⟩=some (.int .i64 t):=(World.cell?_of_block (Lib.alloc_old w1 _ _ hx1l)).trans e2
    go_upto_region 4 with fail
    generalize w1.alloc (Obj.cells #[.int .i64 c.look,.int .i64 c.to,.slice ua c.red.length uc,.bool c.acc] 41)=wa at *
    have hcw:curA G t=c:=HC.out
    have hrow:OwnI B c.red (.slice ua c.red.length uc) wa:=by
      have:=curU_own (h.next BA) t
      rw [hcw,hU] at this
      exact this
    have hMB:MapB t B b n G U (wa.alloc (Obj.cells #[.int .i64 x0] 3)):=((h.next BA).next ((Below.refl _ wa).alloc (Nat.le_refl _) _)).toB
    have HMB:Hid (MapB t B b n G U (wa.alloc (Obj.cells #[.int .i64 x0] 3))):=hMB
    have HON:Hid ((wa.alloc (Obj.cells #[.int .i64 x0] 3)).ownsRow B 3 1 (.slice ua c.red.length uc) c.red.length (c.red.map encI)):=World.ownsRow.alloc hrow _
    have a0':(wa.alloc (Obj.cells #[.int .i64 x0] 3)).heap[w1.heap.size]?=some (Obj.cells #[.int .i64 c.look,.int .i64 c.to,.slice ua c.red.length uc,.bool c.acc] 41):=(Lib.alloc_old wa _ _ hal).trans a0
    have HA0:Hid ((wa.alloc (Obj.cells #[.int .i64 x0] 3)).heap[w1.heap.size]?=some (Obj.cells #[.int .i64 c.look,.int .i64 c.to,.slice ua c.red.length uc,.bool c.acc] 41)):=a0'
    have q2:wa.cell? ⟨w1.heap.size,2,none⟩=some (.slice ua c.red.length uc):=by rw [Lib.cell_of_heap a0]; rfl
    have HE2:Hid (w.heap.size<wa.heap.size∧(wa.alloc (Obj.cells #[.int .i64 x0] 3)).cell? ⟨w.heap.size,2,none⟩=some (.int .i64 t)):=by
      have:w.heap.size<wa.heap.size:=Nat.lt_trans hx1l hal
      exact ⟨this,(World.cell?_of_block (Lib.alloc_old wa _ _ this)).trans e2'⟩
    have BAN:Below w.heap.size w (wa.alloc (Obj.cells #[.int .i64 x0] 3)):=BA.alloc BA.size _
    have HBN:Hid (Below w.heap.size w (wa.alloc (Obj.cells #[.int .i64 x0] 3))):=BAN
    have hszn:B≤(wa.alloc (Obj.cells #[.int .i64 x0] 3)).heap.size:=Nat.le_trans hBw BAN.size
    have HUL:Hid (∀ k,(Value.slice ua c.red.length uc).ownBlock=some k→∃ a,G t=some a∧(U t).ownBlock=some k):=fun k hk=>curU_in (by rw [hU]; exact hk)
    have HNW:=cell_one_new wa (.int .i64 x0) 3
    have HIN:Hid (∀ s a k,G s=some a→(U s).ownBlock=some k→k<w.heap.size):=fun s a k ha hk=>(h.inLt (.inr ⟨s,a,ha,hk⟩)).2
    have HAPT:Hid (∀ s a a' k,s≠t→G s=some a→G t=some a'→(U s).ownBlock=some k→(U t).ownBlock=some k→False):=fun s a a' k h1 h2 h3 h4 h5=>h.apart s t a a' k h1 h2 h3 h4 h5
    have hbl:b<w.heap.size:=hlt
    clear h hMB hrow a0' BAN BA e0 e2 hU hcw HC a0
    go_wp2_with (at_builtin; refine wpList_append_own_at _ rfl (.tmp 14) (.tmp 17) 39 rfl B 3 i0 _ 1 8 Tryz.underlying39 hi0 hz0 hz1 hz2 rfl (by omega) _ _ _ rfl HON.out _ 1 1 [.int .i64 x0] rfl rfl HNW (by simp [Value.oneCell']) (by unfold maxLen; omega) (by omega) hszn ?_)
    intro v' w2 hown' hgrow _ hat
    have hne:=Lib.ownBlock_ne HON.out HA0.out (by decide)
    have hgb:w2.heap[w1.heap.size]?=some (Obj.cells #[.int .i64 c.look,.int .i64 c.to,.slice ua c.red.length uc,.bool c.acc] 41):=(hgrow.block _ (Array.getElem?_eq_some_iff.1 HA0.out).1 (fun e=>hne e.symm)).trans HA0.out
    have hup:=HUL.out
    obtain ⟨va',vc',rfl⟩:=slice_of_ownK hown'
    have hx2:w2.cell? ⟨w.heap.size,2,none⟩=some (.int .i64 t):=by
      rw [← HE2.out.2]
      refine World.cell?_of_block (hgrow.block _ (by have:=HE2.out.1; simp; omega) (fun e=>?_))
      obtain ⟨a,ha,hk⟩:=hup _ e.symm
      have:=HIN.out t a _ ha hk
      simp only at this
      omega
    have hD:But (fun k=>(Value.slice ua c.red.length uc).ownBlock=some k∨k=w1.heap.size) (wa.alloc (Obj.cells #[.int .i64 x0] 3)) (w2.setCell ⟨w1.heap.size,2,none⟩ (.slice va' (c.red.length+1) vc')) :=
      But.setCell ⟨hgrow.os,hgrow.tape,hgrow.output,hgrow.size,fun k hk hd=>hgrow.block k hk (fun e=>hd (.inl e.symm))⟩ _ _ (.inr (.inr rfl))
    have hM3:MapB t B b n G U (w2.setCell ⟨w1.heap.size,2,none⟩ (.slice va' (c.red.length+1) vc')):=by
      refine HMB.out.keep hD ?_ ?_
      · rintro (e | e)
        · have:=HMB.out.own
          obtain ⟨D,⟨es,clock,hbk,_⟩,_⟩:=this
          rcases HON.out.2 with ⟨e1,_⟩ | ⟨g,cap,cur,e1,_,hg,_⟩
          · rw [e1] at e; cases e
          · rw [e1] at e; cases e
            rw [hg] at hbk; cases hbk
        · omega
      · rintro s a k hs ha hk (e | e)
        · obtain ⟨a',ha',hk'⟩:=hup k e
          exact HAPT.out s a a' k hs ha ha' hk hk'
        · have:=HIN.out s a k ha hk
          omega
    have hne':=Lib.ownBlock_ne hown' hgb (by decide)
    have hO3:OwnI B (c.red++[x0]) (.slice va' (c.red.length+1) vc') (w2.setCell ⟨w1.heap.size,2,none⟩ (.slice va' (c.red.length+1) vc')):=by
      have h1:w2.ownsRow B 3 1 (.slice va' (c.red.length+1) vc') (c.red++[x0]).length ((c.red++[x0]).map encI):=by
        simpa [encI] using hown'
      exact ownsRow_keep (D:=fun k=>k=w1.heap.size) h1 ((But.refl _ w2).setCell _ _ (.inr rfl)) (fun j hj e=>hne' (by rw [hj,e]))
    obtain ⟨W',hr,hM',hb⟩:=hM3.store hn ht ⟨c.look,c.to,c.red++[x0],c.acc⟩ _ hO3 (fun s c' k hs hc' h1 h2=>by
      rcases hat with e | e
      · rw [e] at h2
        obtain ⟨a',ha',hk'⟩:=hup k h2
        exact HAPT.out s c' a' k hs hc' ha' h1 hk'
      · rw [e] at h2; cases h2
        have:=HIN.out s c' _ hc' h1
        have:=HE2.out.1
        omega)
    unfold acVal at hr
    simp only at hr
    have hbn:=HBN.out
    have hAll:But (inA b G U) w W':=⟨hb.os.trans (hD.os.trans hbn.os),hb.tape.trans (hD.tape.trans hbn.tape),hb.output.trans (hD.output.trans hbn.output),Nat.le_trans hbn.size (Nat.le_trans hD.size hb.size),fun k hk hd=>by
      have k1:k<(wa.alloc (Obj.cells #[.int .i64 x0] 3)).heap.size:=Nat.lt_of_lt_of_le hk hbn.size
      refine (hb.block k (Nat.lt_of_lt_of_le k1 hD.size) (fun e=>hd (.inl e))).trans ((hD.block k k1 ?_).trans (hbn.block k hk))
      rintro (e | e)
      · obtain ⟨a',ha',hk'⟩:=hup k e
        exact hd (.inr ⟨t,a',ha',hk'⟩)
      · omega⟩
    have HR:Hid (Ended B b n G U t (endA c x0) w W'):=hEA ▸ ⟨_,hM',hAll,ended_in (fun k hk=>by
      rcases hat with e | e
      · rw [e] at hk
        obtain ⟨a',ha',hk'⟩:=hup k hk
        exact .inl (.inr ⟨t,a',ha',hk'⟩)
      · rw [e] at hk; cases hk
        have:=HE2.out.1
        exact .inr (by omega))⟩
    have g0:w2.cell? ⟨w1.heap.size,0,none⟩=some (.int .i64 c.look):=by rw [Lib.cell_of_heap hgb]; rfl
    have g1:w2.cell? ⟨w1.heap.size,1,none⟩=some (.int .i64 c.to):=by rw [Lib.cell_of_heap hgb]; rfl
    have g2:w2.cell? ⟨w1.heap.size,2,none⟩=some (.slice ua c.red.length uc):=by rw [Lib.cell_of_heap hgb]; rfl
    have g3:w2.cell? ⟨w1.heap.size,3,none⟩=some (.bool c.acc):=by rw [Lib.cell_of_heap hgb]; rfl
    have gz:w2.frozen? ⟨w1.heap.size,2,none⟩=false:=Lib.frozen_of_heap hgb _
    clear hM3 hM' hb hD hO3 hgb hgrow hown' hat hAll HMB HON HA0 HE2 HBN HUL HIN HAPT hup hne hne' hEA hbn HNW q2 e0' e2'
    go_wp2_with fail
    go_end0
    exact ⟨rfl,HR.out⟩
end Go.Proofs.YtiamjafecbpfpaaGreatDoor
namespace Go.Proofs.YtiamjafecbpfpaaGreatDoor
open Go.RowKit
theorem ptrU8:Tryz.prog.underlying 97=some (.pointer 5):=by kernel_rfl
theorem cellsU8:Tryz.prog.cellsOf 5=1:=by kernel_rfl
theorem but_freeze {D:Nat→Prop} (w:World) (p:Addr) (n:Nat) (h:D p.block):But D w (w.freeze p n):=by
  unfold World.freeze
  split
  · exact But.refl _ _
  · exact ⟨rfl,rfl,rfl,by simp,fun k hk hd=>by
      have:p.block≠k:=fun e=>hd (e ▸ h)
      simp [Array.getElem?_modify,this]⟩
set_option maxHeartbeats 2000000 in
set_option maxRecDepth 100000 in
theorem string_any (B g o:Nat) (l:List UInt8) (v:Value) (w:World) (hv:w.cell? ⟨g,o+1,none⟩=some v) (hown:OwnB B l v w) (hnil:l=[]→v=.slice none 0 0) (hl:l.length≤140737488355328) :
    Calls Tryz.prog 21 #[.pointer (some ⟨g,o,none⟩)] w fun e w'=>e=.returned (.string ⟨l.toArray⟩)∧But (fun k=>v.ownBlock=some k) w w':=by
  by_cases hn:l=[]
  · obtain rfl:=hnil hn
    subst hn
    have c1:w.drew.cell? ⟨g,o+1,none⟩=some (.slice none 0 0):=hv
    have hSD:(Builtin.unsafeSliceData_ #[67] 97 #[.slice none 0 0]).run Tryz.prog w.drew=.ok (.pointer none) w.drew:=rfl
    have hUS:=Lib.run_unsafeString_none (P:=Tryz.prog) w.drew 97 3 9 none
    clear hown hnil hl
    have mixed:Tryz.prog.follows Departure.mixedOrders=true:=by kernel_rfl
    go_enter Tryz.func21,Tryz.ntmps21
    go_wp2
    go_region_o
    all_goals (go_wp2; go_ret; exact ⟨rfl,(But.refl _ w).drew⟩)
  · have hlp:0<l.length:=List.length_pos_iff.2 hn
    rcases hown.2 with ⟨rfl,h0⟩ | ⟨b,cap,cur,rfl,hB,hg,hle,hmx,hcs,htk⟩
    · omega
    have hlen:(l.map encU8).length=l.length:=by simp
    have c1:w.drew.cell? ⟨g,o+1,none⟩=some (.slice (some ⟨b,0,none⟩) l.length cap):=hv
    have hg':w.drew.heap[b]?=some (.cells cur 5 (0,0)):=hg
    have hSD:(Builtin.unsafeSliceData_ #[67] 97 #[.slice (some ⟨b,0,none⟩) l.length cap]).run Tryz.prog w.drew=.ok (.pointer (some ⟨b,0,none⟩)) w.drew :=
      Lib.run_unsafeSliceData_row _ _ _ _ _ _ (by omega)
    have hUS:(Builtin.unsafeString_ #[97,3] 9 #[.pointer (some ⟨b,0,none⟩),.int .i64 l.length]).run Tryz.prog w.drew=.ok (.string ⟨l.toArray⟩) (w.drew.freeze ⟨b,0,none⟩ l.length) :=
      Lib.run_unsafeString_row w.drew _ _ _ 5 ptrU8 cellsU8 b cur.size (by simp [World.shape?,hg']) l hn (by omega) (by omega) (fun j x hx=>by
        rw [add_plain,Nat.zero_add,Lib.cell_of_heap hg']
        have hj:j<l.length:=(List.getElem?_eq_some_iff.1 hx).1
        have e1:(cur.toList.take (l.length * 1))[j]?=some (encU8 x):=by rw [htk,List.getElem?_map,hx]; rfl
        rw [List.getElem?_take,if_pos (by omega)] at e1
        rw [← Array.getElem?_toList]; exact e1)
    have BF:But (fun k=>(Value.slice (some ⟨b,0,none⟩) l.length cap).ownBlock=some k) w (w.drew.freeze ⟨b,0,none⟩ l.length):=(But.refl _ w).drew.trans (but_freeze w.drew ⟨b,0,none⟩ l.length rfl)
    generalize w.drew.freeze ⟨b,0,none⟩ l.length=wz at *
    clear hown hnil hg hg' hcs htk hn
    generalize l.length=n at *
    have mixed:Tryz.prog.follows Departure.mixedOrders=true:=by kernel_rfl
    go_enter Tryz.func21,Tryz.ntmps21
    go_wp2
    go_region_o
    all_goals (go_wp2; go_ret; exact ⟨rfl,BF⟩)
set_option maxRecDepth 100000 in
theorem len_any (g o n c:Nat) (a:Option Addr) (w:World) (hv:w.cell? ⟨g,o+1,none⟩=some (.slice a n c)) :
    Calls Tryz.prog 41 #[.pointer (some ⟨g,o,none⟩)] w fun e w'=>e=.returned (.int .i64 n)∧w'=w:=by
  go_enter Tryz.func41,Tryz.ntmps41
  go_wp2_with fail
  go_ret
  exact ⟨rfl,rfl⟩
set_option maxRecDepth 100000 in
set_option maxHeartbeats 1000000 in
theorem wItem_any {B g i:Nat} {L:List Wr} {y:Wr} (x:Ir) (w:World) (h:WsAt B g L w) (hy:L[i]?=some y) (hx:FitT x) (hbl:y.bs.length≤100000000) (hBw:B≤w.heap.size) :
    Calls Tryz.prog 40 #[.pointer (some ⟨g,i * 3,none⟩),valR x] w fun e w'=>e=.returned (.tuple #[])∧WsAt B g (L.set i ⟨y.bs++encT x,y.bad⟩) w'∧Wrote g w w':=by
  obtain ⟨x0,x1,x2⟩:=x
  unfold FitT at hx
  unfold valR
  simp only at *
  obtain ⟨o,ho⟩:∃ o,i * 3=o:=⟨_,rfl⟩
  have Bx:Below w.heap.size w ((w.alloc (Obj.cells #[.int .i64 x0,.int .i64 x1,.int .i64 x2] 110)).alloc (Obj.cells #[.int .i64 (x0+1),.int .i64 x1,.int .i64 x2] 3)):=((Below.refl _ _).alloc (Nat.le_refl _) _).alloc (by simp) _
  have HS:Hid (SlI [x0+1,x1,x2] (.slice (some ⟨w.heap.size+1,0,none⟩) 3 3) ((w.alloc (Obj.cells #[.int .i64 x0,.int .i64 x1,.int .i64 x2] 110)).alloc (Obj.cells #[.int .i64 (x0+1),.int .i64 x1,.int .i64 x2] 3))):=by
    refine ⟨_,_,rfl,fun k u hk=>⟨_,_,rfl,by simp,?_⟩,fun h=>(by cases h),(by simp),fun u hu=>?_⟩
    · rcases k with _ | _ | _ | k <;> simp at hk <;> subst hk <;> simp [encI]
    · simp at hu
      unfold i64B
      rcases hu with rfl | rfl | rfl <;> omega
  have HC:=numbers_any (B:=B) (g:=g) (i:=i) (L:=L) (x:=y) [x0+1,x1,x2] _ _ HS.out (h.next Bx) hy (fun ad n c e _ hin=>by
    injection e with e1
    injection e1 with e1
    subst e1
    have:=(inW_same (Bx.block g h.lt) _).1 hin
    have:=(h.inLt this).2
    simp only at this
    omega) (by simp) hbl (Nat.le_trans hBw Bx.size)
  have HC2:Hid (Calls Tryz.prog 32 #[.pointer (some ⟨g,o,none⟩),.slice (some ⟨w.heap.size+1,0,none⟩) 3 3] ((w.alloc (Obj.cells #[.int .i64 x0,.int .i64 x1,.int .i64 x2] 110)).alloc (Obj.cells #[.int .i64 (x0+1),.int .i64 x1,.int .i64 x2] 3)) fun e w'=>e=.returned (.tuple #[])∧WsAt B g (L.set i ⟨y.bs++encT (x0,x1,x2),y.bad⟩) w'∧Wrote g w w'):=by
    rw [ho] at HC
    refine HC.mono ?_
    rintro e w' ⟨rfl,h1,h2⟩
    have eb:badN [x0+1,x1,x2]=false:=by
      simp [badN]; omega
    rw [eb,Bool.or_false] at h1
    exact ⟨rfl,h1,(h.wrote Bx).trans h2⟩
  have hw1:IntKind.i64.wrap (x0+1)=x0+1:=by rw [IntKind.wrap_i64]; omega
  rw [ho]
  clear HC h HS Bx
  go_enter Tryz.func40,Tryz.ntmps40
  go_wp2_with fail
  refine HC2.out.mono ?_
  rintro e w1 ⟨rfl,h1,h2⟩
  have HR:Hid (WsAt B g (L.set i ⟨y.bs++encT (x0,x1,x2),y.bad⟩) w1∧Wrote g w w1):=⟨h1,h2⟩
  clear h1 h2 HC2
  go_wp2_with fail
  go_end0
  exact ⟨rfl,HR.out⟩
theorem dotL_take {l:List Ir} {j:Nat} (h:j<l.length):keyT (dotL (l.take (j+1)))=keyT (dotL (l.take j))++(if 0<l[j].2.1 then encT l[j] else []):=by
  rw [List.take_succ_eq_append_getElem h,dotL_append,keyT_append]
  congr 1
  by_cases h':0<l[j].2.1 <;> simp [dotL,h',keyT]
theorem dotL_len (l:List Ir):(dotL l).length≤l.length:=List.length_filter_le _ _
def strT (l:List Ir):Value:=.string ⟨(keyT l).toArray⟩
set_option maxRecDepth 100000 in
set_option maxHeartbeats 2000000 in
theorem keyOfT_any (l:List Ir) (v:Value) (w:World) (hl:SlL l v w) (hf:∀ x∈l,FitT x) (hll:l.length≤16000000) :
    Calls Tryz.prog 37 #[v] w fun e w'=>e=.returned (strT (dotL l))∧Below w.heap.size w w':=by
  have HIT:Hid (∀ (x:Ir) (bs:List UInt8) W,WsAt w.heap.size w.heap.size [⟨bs,false⟩] W→FitT x→bs.length≤100000000→w.heap.size≤W.heap.size→Calls Tryz.prog 40 #[.pointer (some ⟨w.heap.size,0,none⟩),valR x] W fun e w'=>e=.returned (.tuple #[])∧WsAt w.heap.size w.heap.size [⟨bs++encT x,false⟩] w'∧Wrote w.heap.size W w'):=fun x bs W h1 h2 h3 h4=>by
    have:=wItem_any (i:=0) (y:=⟨bs,false⟩) x W h1 rfl h2 h3 h4
    simpa using this
  have HL:Hid (∀ W,Below w.heap.size w W→SlL l v W):=fun W hW=>hl.next hW
  have HF:Hid (∀ x∈l,FitT x):=hf
  obtain ⟨la,lc,rfl,_⟩:=hl
  have W0:=WsAt.one w (Nat.le_refl w.heap.size)
  have B0:Below w.heap.size w (w.alloc (.cells #[.pointer none,.slice none 0 0,.bool false] 71)):=(Below.refl _ _).alloc (Nat.le_refl _) _
  clear hf
  go_enter Tryz.func37,Tryz.ntmps37
  go_wp2_with fail
  generalize w.alloc (.cells #[.pointer none,.slice none 0 0,.bool false] 71)=w0 at *
  go_loopw [8] (fun iv wr=>∃ (j:Nat),iv=.int .i64 j∧j≤l.length∧WsAt w.heap.size w.heap.size [⟨keyT (dotL (l.take j)),false⟩] wr∧Below w.heap.size w wr) (fun i _=>l.length - (intOf i).toNat)
  case atStart=>exact ⟨0,rfl,Nat.zero_le _,by simpa [keyT,dotL] using W0,B0⟩
  case round =>
  clear W0 B0
  obtain ⟨j,rfl,hj,hW,BW⟩:=hrel
  have hsz:=BW.size
  have hkl:(keyT (dotL (l.take j))).length≤100000000:=by
    rw [keyT_len]
    have h1:=dotL_len (l.take j)
    have h2:(l.take j).length≤l.length:=by rw [List.length_take]; omega
    omega
  by_cases hlt:j<l.length
  case neg =>
    obtain rfl:j=l.length:=by omega
    rw [List.take_of_length_le (Nat.le_refl _)] at hW hkl
    obtain ⟨bv,hbv,hob⟩:=hW.buf 0 _ rfl
    have hnl:=hW.nil 0 _ bv rfl
    simp only [Nat.zero_mul] at hbv hob hnl
    have HST:=string_any w.heap.size w.heap.size 0 (keyT (dotL l)) bv wr hbv hob (fun e=>hnl e hbv) (by omega)
    have HBB:Hid (∀ k,bv.ownBlock=some k→w.heap.size≤k):=fun k hk=>(World.ownsRow.lt hob k hk).1
    clear HL HIT hW hob hnl hbv
    go_wp2_with fail
    refine HST.mono ?_
    rintro e w1 ⟨rfl,b1⟩
    have B9:Below w.heap.size w w1:=BW.trans (b1.below hsz HBB.out)
    clear HST b1 HBB
    go_wp2_with fail
    go_ret
    exact ⟨rfl,B9⟩
  obtain ⟨_,_,e0,hrl,_⟩:=HL.out _ BW
  cases e0
  obtain ⟨b2,o2,rfl,hb2,c0,c1,c2,hok⟩:=hrl.at (Below.refl _ _) hlt
  have hfx:=HF.out l[j] (List.getElem_mem hlt)
  have HT:Hid (keyT (dotL (l.take (j+1)))=keyT (dotL (l.take j))++(if 0<l[j].2.1 then encT l[j] else [])):=dotL_take hlt
  generalize l[j]=x at *
  generalize keyT (dotL (l.take j))=E at *
  obtain ⟨x0,x1,x2⟩:=x
  simp only at c0 c1 c2 HT
  have Bx:Below wr.heap.size wr (wr.alloc (Obj.cells #[.int .i64 x0,.int .i64 x1,.int .i64 x2] 110)):=(Below.refl _ _).alloc (Nat.le_refl _) _
  have hWx:=hW.next Bx
  have BWx:Below w.heap.size w (wr.alloc (Obj.cells #[.int .i64 x0,.int .i64 x1,.int .i64 x2] 110)):=BW.trans (Bx.mono hsz)
  have X0:=RBox.new (x0,x1,x2) 110 wr
  have HC:=HIT.out (x0,x1,x2) E _ hWx hfx hkl (Nat.le_trans hsz Bx.size)
  unfold valR at HC
  have HW:Hid (WsAt w.heap.size w.heap.size [⟨E,false⟩] (wr.alloc (Obj.cells #[.int .i64 x0,.int .i64 x1,.int .i64 x2] 110))):=hWx
  clear hWx hW hrl HL HIT
  go_upto_region 5 with fail
  generalize wr.alloc (Obj.cells #[.int .i64 x0,.int .i64 x1,.int .i64 x2] 110)=wa at *
  obtain ⟨hxl,y0,y1,y2⟩:=X0
  simp only at y0 y1 y2
  clear c0 c1 c2
  by_cases hd:0<x1
  · have hgt:x1 > 0:=hd
    have hdd:decide (x1 > 0)=true:=decide_eq_true hd
    rw [if_pos hd] at HT
    have HCH:Hid (Calls Tryz.prog 40 #[.pointer (some ⟨w.heap.size,0,none⟩),.agg #[.int .i64 x0,.int .i64 x1,.int .i64 x2]] wa fun e w'=>e=.returned (.tuple #[])∧WsAt w.heap.size w.heap.size [⟨E++encT (x0,x1,x2),false⟩] w'∧Wrote w.heap.size wa w'):=HC
    clear HC
    go_wp2_with fail
    refine HCH.out.mono ?_
    rintro e w1 ⟨rfl,h1,h2⟩
    have HR:Hid (WsAt w.heap.size w.heap.size [⟨keyT (dotL (l.take (j+1))),false⟩] w1∧Below w.heap.size w w1):=⟨by rw [HT.out]; exact h1,BWx.trans (HW.out.below h2 BWx.size)⟩
    clear h1 h2 HCH HW HT
    go_wp2_with fail
    exact ⟨⟨j+1,by go_num,by omega,HR.out⟩,by simp [intOf]; omega⟩
  · have hgt:¬ x1 > 0:=hd
    have hdd:decide (x1 > 0)=false:=decide_eq_false hd
    rw [if_neg hd,List.append_nil] at HT
    have HR:Hid (WsAt w.heap.size w.heap.size [⟨keyT (dotL (l.take (j+1))),false⟩] wa∧Below w.heap.size w wa):=⟨by rw [HT.out]; exact HW.out,BWx⟩
    clear HC HW HT
    go_wp2_with fail
    exact ⟨⟨j+1,by go_num,by omega,HR.out⟩,by simp [intOf]; omega⟩
end Go.Proofs.YtiamjafecbpfpaaGreatDoor
