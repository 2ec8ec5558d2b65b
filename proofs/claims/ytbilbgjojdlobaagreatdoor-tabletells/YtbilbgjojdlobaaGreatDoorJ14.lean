import Derived.Test.YtbilbgjojdlobaaGreatDoorJ06
import Derived.Test.YtbilbgjojdlobaaGreatDoorJ13

namespace Go.Proofs.YtbilbgjojdlobaaGreatDoor
open Go.RowKit
def actTo (t p:Nat) (n:Int) (l:List Ac) (i:Nat):Prop:=∀ k,(h:k<l.length)→k<i→actB t p n l[k]=true∧(0<k→l[k - 1].look<l[k].look)
theorem actTo_all {t p:Nat} {n:Int} {l:List Ac} (h:actTo t p n l l.length):actsB t p n l=true:=by
  unfold actsB
  rw [Bool.and_eq_true]
  refine ⟨List.all_eq_true.2 (fun x hx=>?_),(risesB_iff _).2 (fun k hk=>?_)⟩
  · obtain ⟨k,hk,rfl⟩:=List.getElem_of_mem hx
    exact (h k hk hk).1
  · have hk':k+1<l.length:=by simpa using hk
    simpa using (h (k+1) hk' hk').2 (by omega)
theorem actTo_no {t p:Nat} {n:Int} {l:List Ac} {k:Nat} (hk:k<l.length) (h:¬ (actB t p n l[k]=true∧(0<k→l[k - 1].look<l[k].look))):actsB t p n l=false:=by
  cases hb:actsB t p n l with
  | false=>rfl
  | true =>
    exfalso
    unfold actsB at hb
    rw [Bool.and_eq_true] at hb
    refine h ⟨List.all_eq_true.1 hb.1 l[k] (List.getElem_mem hk),fun h0=>?_⟩
    have:=(risesB_iff _).1 hb.2 (k - 1) (by simp; omega)
    have e:k - 1+1=k:=by omega
    simpa [e] using this
def goTo (s:Nat) (n:Int) (l:List (Int × Int)) (i:Nat):Prop:=∀ k,(h:k<l.length)→k<i→goB s n l[k]=true∧(0<k→l[k - 1].1<l[k].1)
theorem goTo_all {s:Nat} {n:Int} {l:List (Int × Int)} (h:goTo s n l l.length):goesB s n l=true:=by
  unfold goesB
  rw [Bool.and_eq_true]
  refine ⟨List.all_eq_true.2 (fun x hx=>?_),(risesB_iff _).2 (fun k hk=>?_)⟩
  · obtain ⟨k,hk,rfl⟩:=List.getElem_of_mem hx
    exact (h k hk hk).1
  · have hk':k+1<l.length:=by simpa using hk
    simpa using (h (k+1) hk' hk').2 (by omega)
theorem goTo_no {s:Nat} {n:Int} {l:List (Int × Int)} {k:Nat} (hk:k<l.length) (h:¬ (goB s n l[k]=true∧(0<k→l[k - 1].1<l[k].1))):goesB s n l=false:=by
  cases hb:goesB s n l with
  | false=>rfl
  | true =>
    exfalso
    unfold goesB at hb
    rw [Bool.and_eq_true] at hb
    refine h ⟨List.all_eq_true.1 hb.1 l[k] (List.getElem_mem hk),fun h0=>?_⟩
    have:=(risesB_iff _).1 hb.2 (k - 1) (by simp; omega)
    have e:k - 1+1=k:=by omega
    simpa [e] using this
set_option maxRecDepth 100000 in
set_option maxHeartbeats 8000000 in
theorem rfit12_any (f:Fl) (a:FlA) (l:List Rw) (v:Value) (w:World) (hl:SlW l v w) (hfn:f.terms.length+f.nons.length≤1000000) :
    Calls Tryz.prog 17 #[a.val f,.agg #[v]] w fun e w'=>e=.returned (.bool (fitTB f l))∧Below w.heap.size w w':=by
  have hfa:=fun (x:Ac) (u:Value) W (h1:SlI x.red u W) (h2:x.red.length≤140737488351232)=>rfitAct_any f a l.length (by omega) x u W h1 h2
  have HL:Hid (∀ W,Below w.heap.size w W→SlW l v W):=fun W hb=>hl.next hb
  obtain ⟨la,lc,rfl,_,_,_,hlb⟩:=hl
  obtain ⟨ta,tc,na,nc,pa,pc⟩:=a
  unfold FlA.val at hfa ⊢
  simp only at *
  have HFA:Hid (∀ (x:Ac) (u:Value) W,SlI x.red u W→x.red.length≤140737488351232→Calls Tryz.prog 42 #[.agg #[.slice ta f.terms.length tc,.slice na f.nons.length nc,.slice pa f.prods.length pc],.agg #[.int .i64 x.look,.int .i64 x.to,u,.bool x.acc],.int .i64 l.length] W fun e w'=>e=.returned (.bool (actB f.terms.length f.prods.length l.length x))∧Below W.heap.size W w'):=hfa
  clear hfa
  have B0:Below w.heap.size w ((w.alloc (Obj.cells #[.slice ta f.terms.length tc,.slice na f.nons.length nc,.slice pa f.prods.length pc] 25)).alloc (Obj.cells #[.slice la l.length lc] 30)):=((Below.refl _ _).alloc (Nat.le_refl _) _).alloc (by simp) _
  have e0:((w.alloc (Obj.cells #[.slice ta f.terms.length tc,.slice na f.nons.length nc,.slice pa f.prods.length pc] 25)).alloc (Obj.cells #[.slice la l.length lc] 30)).cell? ⟨w.heap.size,0,none⟩=some (.slice ta f.terms.length tc):=by simp
  have e1:((w.alloc (Obj.cells #[.slice ta f.terms.length tc,.slice na f.nons.length nc,.slice pa f.prods.length pc] 25)).alloc (Obj.cells #[.slice la l.length lc] 30)).cell? ⟨w.heap.size,1,none⟩=some (.slice na f.nons.length nc):=by simp
  have e2:((w.alloc (Obj.cells #[.slice ta f.terms.length tc,.slice na f.nons.length nc,.slice pa f.prods.length pc] 25)).alloc (Obj.cells #[.slice la l.length lc] 30)).cell? ⟨w.heap.size,2,none⟩=some (.slice pa f.prods.length pc):=by simp
  have e3:((w.alloc (Obj.cells #[.slice ta f.terms.length tc,.slice na f.nons.length nc,.slice pa f.prods.length pc] 25)).alloc (Obj.cells #[.slice la l.length lc] 30)).cell? ⟨w.heap.size+1,0,none⟩=some (.slice la l.length lc):=by simp
  have hsz:w.heap.size+1<((w.alloc (Obj.cells #[.slice ta f.terms.length tc,.slice na f.nons.length nc,.slice pa f.prods.length pc] 25)).alloc (Obj.cells #[.slice la l.length lc] 30)).heap.size:=by simp
  have HR:Hid (fitTB f l=(decide (1≤l.length∧l.length≤600) && l.all (rowB f.terms.length f.prods.length (f.terms.length+f.nons.length) l.length))):=rfl
  have HRN:Hid (∀ k,(h:k<l.length)→(actsB f.terms.length f.prods.length l.length l[k].acts=false∨goesB (f.terms.length+f.nons.length) l.length l[k].goes=false)→fitTB f l=false):=fun k h hn=>by
    rw [HR.out]
    have:l.all (rowB f.terms.length f.prods.length (f.terms.length+f.nons.length) l.length)=false:=by
      rw [List.all_eq_false]
      refine ⟨l[k],List.getElem_mem h,?_⟩
      unfold rowB
      rcases hn with hn | hn <;> simp [hn]
    rw [this]; simp
  have HRY:Hid ((∀ k,(h:k<l.length)→rowB f.terms.length f.prods.length (f.terms.length+f.nons.length) l.length l[k]=true)→fitTB f l=decide (1≤l.length∧l.length≤600)):=fun h=>by
    rw [HR.out,List.all_eq_true.2 (fun x hx=>by
      obtain ⟨k,hk,rfl⟩:=List.getElem_of_mem hx
      exact h k hk)]
    simp
  have HRB:Hid (¬ l.length≤600→fitTB f l=false):=fun h=>by
    rw [HR.out,decide_eq_false (fun h'=>h h'.2)]; rfl
  generalize fitTB f l=R at *
  clear HR
  go_enter Tryz.func17,Tryz.ntmps17
  go_upto_region 1 with fail
  generalize ((w.alloc (Obj.cells #[.slice ta f.terms.length tc,.slice na f.nons.length nc,.slice pa f.prods.length pc] 25)).alloc (Obj.cells #[.slice la l.length lc] 30))=w0 at *
  have HCL:Hid (∀ W,Below w0.heap.size w0 W→W.cell? ⟨w.heap.size,0,none⟩=some (.slice ta f.terms.length tc)∧W.cell? ⟨w.heap.size,1,none⟩=some (.slice na f.nons.length nc)∧W.cell? ⟨w.heap.size,2,none⟩=some (.slice pa f.prods.length pc)∧W.cell? ⟨w.heap.size+1,0,none⟩=some (.slice la l.length lc)):=fun W hW=>⟨(hW.cell (p:=⟨w.heap.size,0,none⟩) (by show w.heap.size<_; omega)).trans e0,(hW.cell (p:=⟨w.heap.size,1,none⟩) (by show w.heap.size<_; omega)).trans e1,(hW.cell (p:=⟨w.heap.size,2,none⟩) (by show w.heap.size<_; omega)).trans e2,(hW.cell (p:=⟨w.heap.size+1,0,none⟩) (by show w.heap.size+1<_; omega)).trans e3⟩
  have HSL:Hid (∀ W,Below w0.heap.size w0 W→SlW l (.slice la l.length lc) W∧Below w.heap.size w W):=fun W hW=>⟨HL.out W (B0.trans (hW.mono B0.size)),B0.trans (hW.mono B0.size)⟩
  clear HL hsz
  go_wp2_with fail
  clear e0 e1 e2 e3 B0
  go_loopw [6] (fun iv wr=>∃ (i:Nat),iv=.int .i64 i∧i≤l.length∧(∀ k,(h:k<l.length)→k<i→rowB f.terms.length f.prods.length (f.terms.length+f.nons.length) l.length l[k]=true)∧Below w0.heap.size w0 wr) (fun i _=>l.length - (intOf i).toNat)
  case atStart=>exact ⟨0,rfl,Nat.zero_le _,fun k _ hk=>by omega,Below.refl _ _⟩
  case round =>
  obtain ⟨i,rfl,hi,hto,BR⟩:=hrel
  have HTO:Hid (∀ k,(h:k<l.length)→k<i→rowB f.terms.length f.prods.length (f.terms.length+f.nons.length) l.length l[k]=true):=hto
  clear hto
  by_cases h600:l.length≤600
  case neg =>
    have HE:Hid (R=false):=HRB.out h600
    have QB:=(HSL.out wr BR).2
    have h6:¬ (l.length:Int)≤600:=by omega
    have h7:(1:Int)≤(l.length:Int):=by omega
    clear HRB HRN HRY HTO HCL HSL HFA
    by_cases hlt:i<l.length
    · go_wp2_with fail
      go_ret
      exact ⟨by rw [HE.out]; rfl,QB⟩
    · go_wp2_with fail
      go_ret
      exact ⟨by rw [HE.out]; rfl,QB⟩
  have h6:(l.length:Int)≤600:=by omega
  by_cases hlt:i<l.length
  case neg =>
    have HE:Hid (R=decide (1≤l.length∧l.length≤600)):=HRY.out (fun k h=>HTO.out k h (by omega))
    have QB:=(HSL.out wr BR).2
    clear HRB HRN HRY HTO HCL HSL HFA
    by_cases h1:1≤l.length
    · have HE2:Hid (R=true):=HE.out.trans (decide_eq_true ⟨h1,h600⟩)
      have h7:(1:Int)≤(l.length:Int):=by omega
      clear HE
      go_wp2_with fail
      go_ret
      exact ⟨by rw [HE2.out]; rfl,QB⟩
    · have HE2:Hid (R=false):=HE.out.trans (decide_eq_false (fun h=>h1 h.1))
      have h7:¬ (1:Int)≤(l.length:Int):=by omega
      clear HE
      go_wp2_with fail
      go_ret
      exact ⟨by rw [HE2.out]; rfl,QB⟩
  obtain ⟨⟨_,_,e0,hrl,_⟩,_⟩:=HSL.out wr BR
  cases e0
  obtain ⟨b2,o2,va,vg,rfl,hb2,p0,p1,hA,hG⟩:=hrl.at (Below.refl _ _) hlt
  obtain ⟨q0,q1,q2,q3⟩:=HCL.out wr BR
  have HRN2:Hid ((actsB f.terms.length f.prods.length l.length l[i].acts=false∨goesB (f.terms.length+f.nons.length) l.length l[i].goes=false)→R=false):=fun h=>HRN.out i hlt h
  have HTO2:Hid (actsB f.terms.length f.prods.length l.length l[i].acts=true→goesB (f.terms.length+f.nons.length) l.length l[i].goes=true→∀ k,(h:k<l.length)→k<i+1→rowB f.terms.length f.prods.length (f.terms.length+f.nons.length) l.length l[k]=true):=fun h1 h2 k hk hk1=>by
    rcases Nat.lt_or_ge k i with h' | h'
    · exact HTO.out k hk h'
    · obtain rfl:k=i:=by omega
      unfold rowB; rw [h1,h2]; rfl
  clear HRN HTO HRY HRB hrl
  have HN:Hid (∃ n:Int,n=(l.length:Int)):=⟨_,rfl⟩
  generalize l[i]=r at *
  have HAG:Hid (∀ W,Below wr.heap.size wr W→SlA r.acts va W∧SlG r.goes vg W):=fun W hW=>⟨hA.next hW,hG.next hW⟩
  obtain ⟨aa,ac,rfl,_,_,_,hab⟩:=hA
  obtain ⟨ga,gc,rfl,_,_,_,hgb⟩:=hG
  have bx:Below wr.heap.size wr (wr.alloc (Obj.cells #[.slice aa r.acts.length ac,.slice ga r.goes.length gc] 68)):=(Below.refl _ _).alloc (Nat.le_refl _) _
  have x0:(wr.alloc (Obj.cells #[.slice aa r.acts.length ac,.slice ga r.goes.length gc] 68)).cell? ⟨wr.heap.size,0,none⟩=some (.slice aa r.acts.length ac):=by simp
  have x1:(wr.alloc (Obj.cells #[.slice aa r.acts.length ac,.slice ga r.goes.length gc] 68)).cell? ⟨wr.heap.size,1,none⟩=some (.slice ga r.goes.length gc):=by simp
  have xl:wr.heap.size<(wr.alloc (Obj.cells #[.slice aa r.acts.length ac,.slice ga r.goes.length gc] 68)).heap.size:=by simp
  go_upto_region 6 with fail
  obtain ⟨rb,hrb⟩:∃ rb,wr.heap.size=rb:=⟨_,rfl⟩
  rw [hrb] at x0 x1 xl
  simp only [hrb]
  generalize wr.alloc (Obj.cells #[.slice aa r.acts.length ac,.slice ga r.goes.length gc] 68)=wx at *
  have HX:Hid (∀ W,Below wx.heap.size wx W→(W.cell? ⟨rb,0,none⟩=some (.slice aa r.acts.length ac)∧W.cell? ⟨rb,1,none⟩=some (.slice ga r.goes.length gc))∧(W.cell? ⟨w.heap.size,0,none⟩=some (.slice ta f.terms.length tc)∧W.cell? ⟨w.heap.size,1,none⟩=some (.slice na f.nons.length nc)∧W.cell? ⟨w.heap.size,2,none⟩=some (.slice pa f.prods.length pc)∧W.cell? ⟨w.heap.size+1,0,none⟩=some (.slice (some ⟨b2,o2,none⟩) l.length lc))∧(SlA r.acts (.slice aa r.acts.length ac) W∧SlG r.goes (.slice ga r.goes.length gc) W)∧Below w0.heap.size w0 W∧Below w.heap.size w W):=fun W hW=>by
    have c:=bx.trans (hW.mono bx.size)
    have c0:=BR.trans (c.mono BR.size)
    exact ⟨⟨(hW.cell (p:=⟨rb,0,none⟩) xl).trans x0,(hW.cell (p:=⟨rb,1,none⟩) xl).trans x1⟩,HCL.out W c0,HAG.out W c,c0,(HSL.out W c0).2⟩
  clear HCL HAG HSL q0 q1 q2 q3 p0 p1 x0 x1 bx xl hrb HN
  go_wp2_with fail
  go_loopw [8] (fun kv w2=>∃ (k:Nat),kv=.int .i64 k∧k≤r.acts.length∧actTo f.terms.length f.prods.length l.length r.acts k∧Below wx.heap.size wx w2) (fun k _=>r.acts.length - (intOf k).toNat)
  case atStart=>exact ⟨0,rfl,Nat.zero_le _,fun k _ hk=>by omega,Below.refl _ _⟩
  case round =>
  obtain ⟨k,rfl,hk,hto,BK⟩:=hrel
  have HTA:Hid (actTo f.terms.length f.prods.length l.length r.acts k):=hto
  clear hto
  by_cases hkl:k<r.acts.length
  case pos =>
    obtain ⟨⟨y0,_⟩,⟨z0,z1,z2,_⟩,⟨hA,_⟩,_,_⟩:=HX.out wr.drew BK.drew
    obtain ⟨⟨Y0,_⟩,_⟩:=HX.out wr BK
    obtain ⟨_,_,e0,hra,_⟩:=hA
    cases e0
    have hk1:k - 1<r.acts.length:=by omega
    obtain ⟨b3,o3,vr,rfl,hb3,s0,s1,s2,s3,hred,_,_,hrdl⟩:=hra.at (Below.refl _ _) hkl
    obtain ⟨_,_,_,e1,_,t0,_⟩:=hra.at (Below.refl _ _) hk1
    cases e1
    have HN1:Hid (¬ (actB f.terms.length f.prods.length l.length r.acts[k]=true∧(0<k→r.acts[k - 1].look<r.acts[k].look))→R=false):=fun h=>HRN2.out (.inl (actTo_no hkl h))
    have HY1:Hid ((actB f.terms.length f.prods.length l.length r.acts[k]=true∧(0<k→r.acts[k - 1].look<r.acts[k].look))→actTo f.terms.length f.prods.length l.length r.acts (k+1)):=fun h j hj hj1=>by
      rcases Nat.lt_or_ge j k with h' | h'
      · exact HTA.out j hj h'
      · obtain rfl:j=k:=by omega
        exact h
    have HC7:=HFA.out r.acts[k] _ wr.drew hred hrdl
    generalize r.acts[k - 1].look=p at *
    generalize r.acts[k]=x at *
    obtain ⟨x0,x1,xr,x3⟩:=x
    simp only at *
    obtain ⟨ra,rc,rfl,_⟩:=hred
    generalize actB f.terms.length f.prods.length l.length ⟨x0,x1,xr,x3⟩=AB at *
    obtain ⟨GB,hGB⟩:∃ GB:Bool,(AB=true∧(0<k→p<x0))↔GB=true:=⟨decide (AB=true∧(0<k→p<x0)),decide_eq_true_iff.symm⟩
    have HGB:Hid ((AB=true∧(0<k→p<x0))↔GB=true):=hGB
    have HGN:Hid (¬ (AB=true∧(0<k→p<x0))→GB=false):=fun h=>by
      cases GB with
      | false=>rfl
      | true=>exact absurd (hGB.2 rfl) h
    clear hGB
    have hbd:=BK.size
    have HSS:Hid (∀ W,Below wr.drew.heap.size wr.drew W→(W.cell? ⟨w.heap.size,0,none⟩=some (.slice ta f.terms.length tc)∧W.cell? ⟨w.heap.size,1,none⟩=some (.slice na f.nons.length nc)∧W.cell? ⟨w.heap.size,2,none⟩=some (.slice pa f.prods.length pc)∧W.cell? ⟨rb,0,none⟩=some (.slice (some ⟨b3,o3,none⟩) r.acts.length ac)∧W.cell? ⟨b3,o3+k * 4,none⟩=some (.int .i64 x0)∧W.cell? ⟨b3,o3+k * 4+1,none⟩=some (.int .i64 x1)∧W.cell? ⟨b3,o3+k * 4+2,none⟩=some (.slice ra xr.length rc)∧W.cell? ⟨b3,o3+k * 4+3,none⟩=some (.bool x3)∧W.cell? ⟨b3,o3+(k - 1) * 4,none⟩=some (.int .i64 p))):=fun W hW=>by
      obtain ⟨⟨y0',_⟩,⟨z0',z1',z2',_⟩,_,_,_⟩:=HX.out W (BK.drew.trans (hW.mono hbd))
      exact ⟨z0',z1',z2',y0',(hW.cell (p:=⟨b3,o3+k * 4,none⟩) hb3).trans s0,(hW.cell (p:=⟨b3,o3+k * 4+1,none⟩) hb3).trans s1,(hW.cell (p:=⟨b3,o3+k * 4+2,none⟩) hb3).trans s2,(hW.cell (p:=⟨b3,o3+k * 4+3,none⟩) hb3).trans s3,(hW.cell (p:=⟨b3,o3+(k - 1) * 4,none⟩) hb3).trans t0⟩
    have hS0:(fun W:World=>(W.cell? ⟨w.heap.size,0,none⟩=some (.slice ta f.terms.length tc)∧W.cell? ⟨w.heap.size,1,none⟩=some (.slice na f.nons.length nc)∧W.cell? ⟨w.heap.size,2,none⟩=some (.slice pa f.prods.length pc)∧W.cell? ⟨rb,0,none⟩=some (.slice (some ⟨b3,o3,none⟩) r.acts.length ac)∧W.cell? ⟨b3,o3+k * 4,none⟩=some (.int .i64 x0)∧W.cell? ⟨b3,o3+k * 4+1,none⟩=some (.int .i64 x1)∧W.cell? ⟨b3,o3+k * 4+2,none⟩=some (.slice ra xr.length rc)∧W.cell? ⟨b3,o3+k * 4+3,none⟩=some (.bool x3)∧W.cell? ⟨b3,o3+(k - 1) * 4,none⟩=some (.int .i64 p))) wr.drew:=HSS.out _ (Below.refl _ _)
    have hw1:0<k→IntKind.i64.wrap ((k:Int) - 1)=((k - 1:Nat):Int):=fun h=>by rw [IntKind.wrap_i64]; omega
    clear y0 z0 z1 z2 s0 s1 s2 s3 t0 hra hbd
    go_upto_region 9 with fail
    clear Y0
    go_cut [63] from 35 to 63 (fun t63 w2=>t63=.bool (!GB)∧Below wr.heap.size wr w2)
    case first =>
      have BD0:Below wr.heap.size wr wr.drew:=(Below.refl _ _).drew
      clear HN1 HY1 HTA HRN2 HTO2 HX
      cases AB with
      | false =>
        have HE:Hid (GB=false):=HGN.out (fun h=>by cases h.1)
        clear HGN HGB hw1
        go_wp2_with fail
        refine wp_region_L (fun W=>W.cell? ⟨w.heap.size,0,none⟩=some (.slice ta f.terms.length tc)∧W.cell? ⟨w.heap.size,1,none⟩=some (.slice na f.nons.length nc)∧W.cell? ⟨w.heap.size,2,none⟩=some (.slice pa f.prods.length pc)∧W.cell? ⟨rb,0,none⟩=some (.slice (some ⟨b3,o3,none⟩) r.acts.length ac)∧W.cell? ⟨b3,o3+k * 4,none⟩=some (.int .i64 x0)∧W.cell? ⟨b3,o3+k * 4+1,none⟩=some (.int .i64 x1)∧W.cell? ⟨b3,o3+k * 4+2,none⟩=some (.slice ra xr.length rc)∧W.cell? ⟨b3,o3+k * 4+3,none⟩=some (.bool x3)∧W.cell? ⟨b3,o3+(k - 1) * 4,none⟩=some (.int .i64 p)) 29 (by kernel_rfl) 29 rfl ?_
        refine tk 0 ⟨some 35,.load 25 (.tmp 2),25, "ref.go:118",#[],none⟩ hS0 ?_;simp only [Act.put,sA,s0,sS]
        refine tk 1 ⟨some 36,.fieldAddr 68 (.tmp 7) 0,0, "ref.go:118",#[],none⟩ hS0 ?_;simp only [Act.put,sA,s0,sS]
        refine tk 2 ⟨some 37,.load 65 (.tmp 36),65, "ref.go:118",#[⟨1,.data⟩],none⟩ hS0 ?_;simp only [Act.put,sA,s0,sS]
        refine tk 3 ⟨some 38,.move (.tmp 8),3, "ref.go:118",#[],none⟩ hS0 ?_;simp only [Act.put,sA,s0,sS]
        refine tk 4 ⟨some 39,.indexAddr 65 (.tmp 37) (.tmp 38),0, "ref.go:118",#[⟨2,.data⟩,⟨3,.data⟩],none⟩ hS0 ?_;simp only [Act.put,sA,s0,sS]
        refine tk 5 ⟨some 40,.load 45 (.tmp 39),45, "ref.go:118",#[⟨4,.data⟩],none⟩ hS0 ?_;simp only [Act.put,sA,s0,sS]
        refine tk 6 ⟨some 41,.move (.tmp 5),3, "ref.go:118",#[],none⟩ hS0 ?_;simp only [Act.put,sA,s0,sS]
        refine wpAnyL_one' (i:=7) (o:=⟨some 42,.call ⟨.value (.func 42),#[.tmp 35,.tmp 40,.tmp 41],#[25,45,3]⟩,4, "ref.go:118",#[⟨0,.data⟩,⟨5,.data⟩,⟨6,.data⟩],none⟩) (by kernel_rfl) rfl rfl (fun KQ hK=>?_)
        go_simp
        refine HC7.mono ?_
        rintro e w6 ⟨rfl,b6⟩
        have hS1:(fun W:World=>(W.cell? ⟨w.heap.size,0,none⟩=some (.slice ta f.terms.length tc)∧W.cell? ⟨w.heap.size,1,none⟩=some (.slice na f.nons.length nc)∧W.cell? ⟨w.heap.size,2,none⟩=some (.slice pa f.prods.length pc)∧W.cell? ⟨rb,0,none⟩=some (.slice (some ⟨b3,o3,none⟩) r.acts.length ac)∧W.cell? ⟨b3,o3+k * 4,none⟩=some (.int .i64 x0)∧W.cell? ⟨b3,o3+k * 4+1,none⟩=some (.int .i64 x1)∧W.cell? ⟨b3,o3+k * 4+2,none⟩=some (.slice ra xr.length rc)∧W.cell? ⟨b3,o3+k * 4+3,none⟩=some (.bool x3)∧W.cell? ⟨b3,o3+(k - 1) * 4,none⟩=some (.int .i64 p))) w6:=HSS.out _ b6
        refine hK.out _ _ (fun _=>hS1) ?_
        clear hK
        refine tk 8 ⟨some 43,.unOp .not 4 (.tmp 42),4, "ref.go:118",#[⟨7,.data⟩],none⟩ hS1 ?_;simp only [Act.put,sA,s0,sS]
        refine tk 9 ⟨some 44,.move (.tmp 43),4, "ref.go:118",#[⟨8,.data⟩,⟨7,.chain⟩],none⟩ hS1 ?_;simp only [Act.put,sA,s0,sS]
        refine tu 10 ⟨some 45,.move (.tmp 8),3, "ref.go:118",#[⟨9,.guard⟩],some (9,false)⟩ hS1 ?_;simp only [Act.put,sA,s0,sS]
        refine tu 11 ⟨some 46,.binOp .gtr 3 (.tmp 45) (.const (.int .i64 0)) 3,4, "ref.go:118",#[⟨10,.data⟩,⟨9,.guard⟩],some (9,false)⟩ hS1 ?_;simp only [Act.put,sA,s0,sS]
        refine tu 12 ⟨some 47,.move (.tmp 46),4, "ref.go:118",#[⟨11,.data⟩,⟨9,.chain⟩,⟨9,.guard⟩],some (9,false)⟩ hS1 ?_;simp only [Act.put,sA,s0,sS]
        refine tu 13 ⟨some 48,.fieldAddr 68 (.tmp 7) 0,0, "ref.go:118",#[⟨12,.guard⟩],some (12,true)⟩ hS1 ?_;simp only [Act.put,sA,s0,sS]
        refine tu 14 ⟨some 49,.load 65 (.tmp 48),65, "ref.go:118",#[⟨13,.data⟩,⟨12,.guard⟩],some (12,true)⟩ hS1 ?_;simp only [Act.put,sA,s0,sS]
        refine tu 15 ⟨some 50,.move (.tmp 8),3, "ref.go:118",#[⟨12,.guard⟩],some (12,true)⟩ hS1 ?_;simp only [Act.put,sA,s0,sS]
        refine tu 16 ⟨some 51,.binOp .sub 3 (.tmp 50) (.const (.int .i64 1)) 3,3, "ref.go:118",#[⟨15,.data⟩,⟨12,.guard⟩],some (12,true)⟩ hS1 ?_;simp only [Act.put,sA,s0,sS]
        refine tu 17 ⟨some 52,.indexAddr 65 (.tmp 49) (.tmp 51),0, "ref.go:118",#[⟨14,.data⟩,⟨16,.data⟩,⟨12,.guard⟩],some (12,true)⟩ hS1 ?_;simp only [Act.put,sA,s0,sS]
        refine tu 18 ⟨some 53,.fieldAddr 45 (.tmp 52) 0,0, "ref.go:118",#[⟨17,.data⟩,⟨12,.guard⟩],some (12,true)⟩ hS1 ?_;simp only [Act.put,sA,s0,sS]
        refine tu 19 ⟨some 54,.load 3 (.tmp 53),3, "ref.go:118",#[⟨18,.data⟩,⟨12,.guard⟩],some (12,true)⟩ hS1 ?_;simp only [Act.put,sA,s0,sS]
        refine tu 20 ⟨some 55,.fieldAddr 68 (.tmp 7) 0,0, "ref.go:118",#[⟨12,.guard⟩],some (12,true)⟩ hS1 ?_;simp only [Act.put,sA,s0,sS]
        refine tu 21 ⟨some 56,.load 65 (.tmp 55),65, "ref.go:118",#[⟨20,.data⟩,⟨12,.guard⟩],some (12,true)⟩ hS1 ?_;simp only [Act.put,sA,s0,sS]
        refine tu 22 ⟨some 57,.move (.tmp 8),3, "ref.go:118",#[⟨12,.guard⟩],some (12,true)⟩ hS1 ?_;simp only [Act.put,sA,s0,sS]
        refine tu 23 ⟨some 58,.indexAddr 65 (.tmp 56) (.tmp 57),0, "ref.go:118",#[⟨21,.data⟩,⟨22,.data⟩,⟨12,.guard⟩],some (12,true)⟩ hS1 ?_;simp only [Act.put,sA,s0,sS]
        refine tu 24 ⟨some 59,.fieldAddr 45 (.tmp 58) 0,0, "ref.go:118",#[⟨23,.data⟩,⟨12,.guard⟩],some (12,true)⟩ hS1 ?_;simp only [Act.put,sA,s0,sS]
        refine tu 25 ⟨some 60,.load 3 (.tmp 59),3, "ref.go:118",#[⟨24,.data⟩,⟨12,.guard⟩],some (12,true)⟩ hS1 ?_;simp only [Act.put,sA,s0,sS]
        refine tu 26 ⟨some 61,.binOp .geq 3 (.tmp 54) (.tmp 60) 3,4, "ref.go:118",#[⟨19,.data⟩,⟨25,.data⟩,⟨12,.guard⟩],some (12,true)⟩ hS1 ?_;simp only [Act.put,sA,s0,sS]
        refine tu 27 ⟨some 62,.pick (.tmp 47) (.tmp 61) (.const (.bool false)),4, "ref.go:118",#[⟨12,.data⟩,⟨26,.data⟩,⟨9,.guard⟩],some (9,false)⟩ hS1 ?_;simp only [Act.put,sA,s0,sS]
        refine tk 28 ⟨some 63,.pick (.tmp 44) (.const (.bool true)) (.tmp 62),4, "ref.go:118",#[⟨9,.data⟩,⟨27,.data⟩],none⟩ hS1 ?_;simp only [Act.put,sA,s0,sS]
        refine wpAnyL_done (by kernel_rfl) ?_ _
        go_wp2_with fail
        go_meet
        exact ⟨by rw [HE.out]; rfl,BD0.trans (b6.mono BD0.size)⟩
      | true =>
        by_cases c3:(0:Int)<(k:Int)
        · have hw2:=hw1 (by omega)
          have g3:decide ((0:Int)<(k:Int))=true:=decide_eq_true c3
          have g5:decide (0<k)=true:=decide_eq_true (by omega)
          have g6:0<k:=by omega
          by_cases c4:x0≤p
          · have g4:decide (x0≤p)=true:=decide_eq_true c4
            have HE:Hid (GB=false):=HGN.out (fun h=>by have:=h.2 g6; omega)
            clear HGN HGB hw1
            go_wp2_with fail
            refine wp_region_L (fun W=>W.cell? ⟨w.heap.size,0,none⟩=some (.slice ta f.terms.length tc)∧W.cell? ⟨w.heap.size,1,none⟩=some (.slice na f.nons.length nc)∧W.cell? ⟨w.heap.size,2,none⟩=some (.slice pa f.prods.length pc)∧W.cell? ⟨rb,0,none⟩=some (.slice (some ⟨b3,o3,none⟩) r.acts.length ac)∧W.cell? ⟨b3,o3+k * 4,none⟩=some (.int .i64 x0)∧W.cell? ⟨b3,o3+k * 4+1,none⟩=some (.int .i64 x1)∧W.cell? ⟨b3,o3+k * 4+2,none⟩=some (.slice ra xr.length rc)∧W.cell? ⟨b3,o3+k * 4+3,none⟩=some (.bool x3)∧W.cell? ⟨b3,o3+(k - 1) * 4,none⟩=some (.int .i64 p)) 29 (by kernel_rfl) 29 rfl ?_
            refine tk 0 ⟨some 35,.load 25 (.tmp 2),25, "ref.go:118",#[],none⟩ hS0 ?_;simp only [Act.put,sA,s0,sS]
            refine tk 1 ⟨some 36,.fieldAddr 68 (.tmp 7) 0,0, "ref.go:118",#[],none⟩ hS0 ?_;simp only [Act.put,sA,s0,sS]
            refine tk 2 ⟨some 37,.load 65 (.tmp 36),65, "ref.go:118",#[⟨1,.data⟩],none⟩ hS0 ?_;simp only [Act.put,sA,s0,sS]
            refine tk 3 ⟨some 38,.move (.tmp 8),3, "ref.go:118",#[],none⟩ hS0 ?_;simp only [Act.put,sA,s0,sS]
            refine tk 4 ⟨some 39,.indexAddr 65 (.tmp 37) (.tmp 38),0, "ref.go:118",#[⟨2,.data⟩,⟨3,.data⟩],none⟩ hS0 ?_;simp only [Act.put,sA,s0,sS]
            refine tk 5 ⟨some 40,.load 45 (.tmp 39),45, "ref.go:118",#[⟨4,.data⟩],none⟩ hS0 ?_;simp only [Act.put,sA,s0,sS]
            refine tk 6 ⟨some 41,.move (.tmp 5),3, "ref.go:118",#[],none⟩ hS0 ?_;simp only [Act.put,sA,s0,sS]
            refine wpAnyL_one' (i:=7) (o:=⟨some 42,.call ⟨.value (.func 42),#[.tmp 35,.tmp 40,.tmp 41],#[25,45,3]⟩,4, "ref.go:118",#[⟨0,.data⟩,⟨5,.data⟩,⟨6,.data⟩],none⟩) (by kernel_rfl) rfl rfl (fun KQ hK=>?_)
            go_simp
            refine HC7.mono ?_
            rintro e w6 ⟨rfl,b6⟩
            have hS1:(fun W:World=>(W.cell? ⟨w.heap.size,0,none⟩=some (.slice ta f.terms.length tc)∧W.cell? ⟨w.heap.size,1,none⟩=some (.slice na f.nons.length nc)∧W.cell? ⟨w.heap.size,2,none⟩=some (.slice pa f.prods.length pc)∧W.cell? ⟨rb,0,none⟩=some (.slice (some ⟨b3,o3,none⟩) r.acts.length ac)∧W.cell? ⟨b3,o3+k * 4,none⟩=some (.int .i64 x0)∧W.cell? ⟨b3,o3+k * 4+1,none⟩=some (.int .i64 x1)∧W.cell? ⟨b3,o3+k * 4+2,none⟩=some (.slice ra xr.length rc)∧W.cell? ⟨b3,o3+k * 4+3,none⟩=some (.bool x3)∧W.cell? ⟨b3,o3+(k - 1) * 4,none⟩=some (.int .i64 p))) w6:=HSS.out _ b6
            refine hK.out _ _ (fun _=>hS1) ?_
            clear hK
            refine tk 8 ⟨some 43,.unOp .not 4 (.tmp 42),4, "ref.go:118",#[⟨7,.data⟩],none⟩ hS1 ?_;simp only [Act.put,sA,s0,sS]
            refine tk 9 ⟨some 44,.move (.tmp 43),4, "ref.go:118",#[⟨8,.data⟩,⟨7,.chain⟩],none⟩ hS1 ?_;simp only [Act.put,sA,s0,sS]
            refine tk 10 ⟨some 45,.move (.tmp 8),3, "ref.go:118",#[⟨9,.guard⟩],some (9,false)⟩ hS1 ?_;simp only [Act.put,sA,s0,sS]
            refine tk 11 ⟨some 46,.binOp .gtr 3 (.tmp 45) (.const (.int .i64 0)) 3,4, "ref.go:118",#[⟨10,.data⟩,⟨9,.guard⟩],some (9,false)⟩ hS1 ?_;simp only [Act.put,sA,s0,sS]
            refine tk 12 ⟨some 47,.move (.tmp 46),4, "ref.go:118",#[⟨11,.data⟩,⟨9,.chain⟩,⟨9,.guard⟩],some (9,false)⟩ hS1 ?_;simp only [Act.put,sA,s0,sS]
            refine tk 13 ⟨some 48,.fieldAddr 68 (.tmp 7) 0,0, "ref.go:118",#[⟨12,.guard⟩],some (12,true)⟩ hS1 ?_;simp only [Act.put,sA,s0,sS]
            refine tk 14 ⟨some 49,.load 65 (.tmp 48),65, "ref.go:118",#[⟨13,.data⟩,⟨12,.guard⟩],some (12,true)⟩ hS1 ?_;simp only [Act.put,sA,s0,sS]
            refine tk 15 ⟨some 50,.move (.tmp 8),3, "ref.go:118",#[⟨12,.guard⟩],some (12,true)⟩ hS1 ?_;simp only [Act.put,sA,s0,sS]
            refine tk 16 ⟨some 51,.binOp .sub 3 (.tmp 50) (.const (.int .i64 1)) 3,3, "ref.go:118",#[⟨15,.data⟩,⟨12,.guard⟩],some (12,true)⟩ hS1 ?_;simp only [Act.put,sA,s0,sS]
            try simp only [hw2]
            refine tk 17 ⟨some 52,.indexAddr 65 (.tmp 49) (.tmp 51),0, "ref.go:118",#[⟨14,.data⟩,⟨16,.data⟩,⟨12,.guard⟩],some (12,true)⟩ hS1 ?_;simp only [Act.put,sA,s0,sS]
            refine tk 18 ⟨some 53,.fieldAddr 45 (.tmp 52) 0,0, "ref.go:118",#[⟨17,.data⟩,⟨12,.guard⟩],some (12,true)⟩ hS1 ?_;simp only [Act.put,sA,s0,sS]
            refine tk 19 ⟨some 54,.load 3 (.tmp 53),3, "ref.go:118",#[⟨18,.data⟩,⟨12,.guard⟩],some (12,true)⟩ hS1 ?_;simp only [Act.put,sA,s0,sS]
            refine tk 20 ⟨some 55,.fieldAddr 68 (.tmp 7) 0,0, "ref.go:118",#[⟨12,.guard⟩],some (12,true)⟩ hS1 ?_;simp only [Act.put,sA,s0,sS]
            refine tk 21 ⟨some 56,.load 65 (.tmp 55),65, "ref.go:118",#[⟨20,.data⟩,⟨12,.guard⟩],some (12,true)⟩ hS1 ?_;simp only [Act.put,sA,s0,sS]
            refine tk 22 ⟨some 57,.move (.tmp 8),3, "ref.go:118",#[⟨12,.guard⟩],some (12,true)⟩ hS1 ?_;simp only [Act.put,sA,s0,sS]
            refine tk 23 ⟨some 58,.indexAddr 65 (.tmp 56) (.tmp 57),0, "ref.go:118",#[⟨21,.data⟩,⟨22,.data⟩,⟨12,.guard⟩],some (12,true)⟩ hS1 ?_;simp only [Act.put,sA,s0,sS]
            refine tk 24 ⟨some 59,.fieldAddr 45 (.tmp 58) 0,0, "ref.go:118",#[⟨23,.data⟩,⟨12,.guard⟩],some (12,true)⟩ hS1 ?_;simp only [Act.put,sA,s0,sS]
            refine tk 25 ⟨some 60,.load 3 (.tmp 59),3, "ref.go:118",#[⟨24,.data⟩,⟨12,.guard⟩],some (12,true)⟩ hS1 ?_;simp only [Act.put,sA,s0,sS]
            refine tk 26 ⟨some 61,.binOp .geq 3 (.tmp 54) (.tmp 60) 3,4, "ref.go:118",#[⟨19,.data⟩,⟨25,.data⟩,⟨12,.guard⟩],some (12,true)⟩ hS1 ?_;simp only [Act.put,sA,s0,sS]
            refine tk 27 ⟨some 62,.pick (.tmp 47) (.tmp 61) (.const (.bool false)),4, "ref.go:118",#[⟨12,.data⟩,⟨26,.data⟩,⟨9,.guard⟩],some (9,false)⟩ hS1 ?_;simp only [Act.put,sA,s0,sS]
            refine tk 28 ⟨some 63,.pick (.tmp 44) (.const (.bool true)) (.tmp 62),4, "ref.go:118",#[⟨9,.data⟩,⟨27,.data⟩],none⟩ hS1 ?_;simp only [Act.put,sA,s0,sS]
            refine wpAnyL_done (by kernel_rfl) ?_ _
            go_wp2_with fail
            go_meet
            exact ⟨by rw [HE.out]; rfl,BD0.trans (b6.mono BD0.size)⟩
          · have g4:decide (x0≤p)=false:=decide_eq_false c4
            have HE:Hid (GB=true):=HGB.out.1 ⟨rfl,fun _=>by omega⟩
            clear HGN HGB hw1
            go_wp2_with fail
            refine wp_region_L (fun W=>W.cell? ⟨w.heap.size,0,none⟩=some (.slice ta f.terms.length tc)∧W.cell? ⟨w.heap.size,1,none⟩=some (.slice na f.nons.length nc)∧W.cell? ⟨w.heap.size,2,none⟩=some (.slice pa f.prods.length pc)∧W.cell? ⟨rb,0,none⟩=some (.slice (some ⟨b3,o3,none⟩) r.acts.length ac)∧W.cell? ⟨b3,o3+k * 4,none⟩=some (.int .i64 x0)∧W.cell? ⟨b3,o3+k * 4+1,none⟩=some (.int .i64 x1)∧W.cell? ⟨b3,o3+k * 4+2,none⟩=some (.slice ra xr.length rc)∧W.cell? ⟨b3,o3+k * 4+3,none⟩=some (.bool x3)∧W.cell? ⟨b3,o3+(k - 1) * 4,none⟩=some (.int .i64 p)) 29 (by kernel_rfl) 29 rfl ?_
            refine tk 0 ⟨some 35,.load 25 (.tmp 2),25, "ref.go:118",#[],none⟩ hS0 ?_;simp only [Act.put,sA,s0,sS]
            refine tk 1 ⟨some 36,.fieldAddr 68 (.tmp 7) 0,0, "ref.go:118",#[],none⟩ hS0 ?_;simp only [Act.put,sA,s0,sS]
            refine tk 2 ⟨some 37,.load 65 (.tmp 36),65, "ref.go:118",#[⟨1,.data⟩],none⟩ hS0 ?_;simp only [Act.put,sA,s0,sS]
            refine tk 3 ⟨some 38,.move (.tmp 8),3, "ref.go:118",#[],none⟩ hS0 ?_;simp only [Act.put,sA,s0,sS]
            refine tk 4 ⟨some 39,.indexAddr 65 (.tmp 37) (.tmp 38),0, "ref.go:118",#[⟨2,.data⟩,⟨3,.data⟩],none⟩ hS0 ?_;simp only [Act.put,sA,s0,sS]
            refine tk 5 ⟨some 40,.load 45 (.tmp 39),45, "ref.go:118",#[⟨4,.data⟩],none⟩ hS0 ?_;simp only [Act.put,sA,s0,sS]
            refine tk 6 ⟨some 41,.move (.tmp 5),3, "ref.go:118",#[],none⟩ hS0 ?_;simp only [Act.put,sA,s0,sS]
            refine wpAnyL_one' (i:=7) (o:=⟨some 42,.call ⟨.value (.func 42),#[.tmp 35,.tmp 40,.tmp 41],#[25,45,3]⟩,4, "ref.go:118",#[⟨0,.data⟩,⟨5,.data⟩,⟨6,.data⟩],none⟩) (by kernel_rfl) rfl rfl (fun KQ hK=>?_)
            go_simp
            refine HC7.mono ?_
            rintro e w6 ⟨rfl,b6⟩
            have hS1:(fun W:World=>(W.cell? ⟨w.heap.size,0,none⟩=some (.slice ta f.terms.length tc)∧W.cell? ⟨w.heap.size,1,none⟩=some (.slice na f.nons.length nc)∧W.cell? ⟨w.heap.size,2,none⟩=some (.slice pa f.prods.length pc)∧W.cell? ⟨rb,0,none⟩=some (.slice (some ⟨b3,o3,none⟩) r.acts.length ac)∧W.cell? ⟨b3,o3+k * 4,none⟩=some (.int .i64 x0)∧W.cell? ⟨b3,o3+k * 4+1,none⟩=some (.int .i64 x1)∧W.cell? ⟨b3,o3+k * 4+2,none⟩=some (.slice ra xr.length rc)∧W.cell? ⟨b3,o3+k * 4+3,none⟩=some (.bool x3)∧W.cell? ⟨b3,o3+(k - 1) * 4,none⟩=some (.int .i64 p))) w6:=HSS.out _ b6
            refine hK.out _ _ (fun _=>hS1) ?_
            clear hK
            refine tk 8 ⟨some 43,.unOp .not 4 (.tmp 42),4, "ref.go:118",#[⟨7,.data⟩],none⟩ hS1 ?_;simp only [Act.put,sA,s0,sS]
            refine tk 9 ⟨some 44,.move (.tmp 43),4, "ref.go:118",#[⟨8,.data⟩,⟨7,.chain⟩],none⟩ hS1 ?_;simp only [Act.put,sA,s0,sS]
            refine tk 10 ⟨some 45,.move (.tmp 8),3, "ref.go:118",#[⟨9,.guard⟩],some (9,false)⟩ hS1 ?_;simp only [Act.put,sA,s0,sS]
            refine tk 11 ⟨some 46,.binOp .gtr 3 (.tmp 45) (.const (.int .i64 0)) 3,4, "ref.go:118",#[⟨10,.data⟩,⟨9,.guard⟩],some (9,false)⟩ hS1 ?_;simp only [Act.put,sA,s0,sS]
            refine tk 12 ⟨some 47,.move (.tmp 46),4, "ref.go:118",#[⟨11,.data⟩,⟨9,.chain⟩,⟨9,.guard⟩],some (9,false)⟩ hS1 ?_;simp only [Act.put,sA,s0,sS]
            refine tk 13 ⟨some 48,.fieldAddr 68 (.tmp 7) 0,0, "ref.go:118",#[⟨12,.guard⟩],some (12,true)⟩ hS1 ?_;simp only [Act.put,sA,s0,sS]
            refine tk 14 ⟨some 49,.load 65 (.tmp 48),65, "ref.go:118",#[⟨13,.data⟩,⟨12,.guard⟩],some (12,true)⟩ hS1 ?_;simp only [Act.put,sA,s0,sS]
            refine tk 15 ⟨some 50,.move (.tmp 8),3, "ref.go:118",#[⟨12,.guard⟩],some (12,true)⟩ hS1 ?_;simp only [Act.put,sA,s0,sS]
            refine tk 16 ⟨some 51,.binOp .sub 3 (.tmp 50) (.const (.int .i64 1)) 3,3, "ref.go:118",#[⟨15,.data⟩,⟨12,.guard⟩],some (12,true)⟩ hS1 ?_;simp only [Act.put,sA,s0,sS]
            try simp only [hw2]
            refine tk 17 ⟨some 52,.indexAddr 65 (.tmp 49) (.tmp 51),0, "ref.go:118",#[⟨14,.data⟩,⟨16,.data⟩,⟨12,.guard⟩],some (12,true)⟩ hS1 ?_;simp only [Act.put,sA,s0,sS]
            refine tk 18 ⟨some 53,.fieldAddr 45 (.tmp 52) 0,0, "ref.go:118",#[⟨17,.data⟩,⟨12,.guard⟩],some (12,true)⟩ hS1 ?_;simp only [Act.put,sA,s0,sS]
            refine tk 19 ⟨some 54,.load 3 (.tmp 53),3, "ref.go:118",#[⟨18,.data⟩,⟨12,.guard⟩],some (12,true)⟩ hS1 ?_;simp only [Act.put,sA,s0,sS]
            refine tk 20 ⟨some 55,.fieldAddr 68 (.tmp 7) 0,0, "ref.go:118",#[⟨12,.guard⟩],some (12,true)⟩ hS1 ?_;simp only [Act.put,sA,s0,sS]
            refine tk 21 ⟨some 56,.load 65 (.tmp 55),65, "ref.go:118",#[⟨20,.data⟩,⟨12,.guard⟩],some (12,true)⟩ hS1 ?_;simp only [Act.put,sA,s0,sS]
            refine tk 22 ⟨some 57,.move (.tmp 8),3, "ref.go:118",#[⟨12,.guard⟩],some (12,true)⟩ hS1 ?_;simp only [Act.put,sA,s0,sS]
            refine tk 23 ⟨some 58,.indexAddr 65 (.tmp 56) (.tmp 57),0, "ref.go:118",#[⟨21,.data⟩,⟨22,.data⟩,⟨12,.guard⟩],some (12,true)⟩ hS1 ?_;simp only [Act.put,sA,s0,sS]
            refine tk 24 ⟨some 59,.fieldAddr 45 (.tmp 58) 0,0, "ref.go:118",#[⟨23,.data⟩,⟨12,.guard⟩],some (12,true)⟩ hS1 ?_;simp only [Act.put,sA,s0,sS]
            refine tk 25 ⟨some 60,.load 3 (.tmp 59),3, "ref.go:118",#[⟨24,.data⟩,⟨12,.guard⟩],some (12,true)⟩ hS1 ?_;simp only [Act.put,sA,s0,sS]
            refine tk 26 ⟨some 61,.binOp .geq 3 (.tmp 54) (.tmp 60) 3,4, "ref.go:118",#[⟨19,.data⟩,⟨25,.data⟩,⟨12,.guard⟩],some (12,true)⟩ hS1 ?_;simp only [Act.put,sA,s0,sS]
            refine tk 27 ⟨some 62,.pick (.tmp 47) (.tmp 61) (.const (.bool false)),4, "ref.go:118",#[⟨12,.data⟩,⟨26,.data⟩,⟨9,.guard⟩],some (9,false)⟩ hS1 ?_;simp only [Act.put,sA,s0,sS]
            refine tk 28 ⟨some 63,.pick (.tmp 44) (.const (.bool true)) (.tmp 62),4, "ref.go:118",#[⟨9,.data⟩,⟨27,.data⟩],none⟩ hS1 ?_;simp only [Act.put,sA,s0,sS]
            refine wpAnyL_done (by kernel_rfl) ?_ _
            go_wp2_with fail
            go_meet
            exact ⟨by rw [HE.out]; rfl,BD0.trans (b6.mono BD0.size)⟩
        · have g3:decide ((0:Int)<(k:Int))=false:=decide_eq_false c3
          have g5:decide (0<k)=false:=decide_eq_false (by omega)
          have g6:¬ 0<k:=by omega
          have HE:Hid (GB=true):=HGB.out.1 ⟨rfl,fun h=>absurd h g6⟩
          clear HGN HGB hw1
          go_wp2_with fail
          refine wp_region_L (fun W=>W.cell? ⟨w.heap.size,0,none⟩=some (.slice ta f.terms.length tc)∧W.cell? ⟨w.heap.size,1,none⟩=some (.slice na f.nons.length nc)∧W.cell? ⟨w.heap.size,2,none⟩=some (.slice pa f.prods.length pc)∧W.cell? ⟨rb,0,none⟩=some (.slice (some ⟨b3,o3,none⟩) r.acts.length ac)∧W.cell? ⟨b3,o3+k * 4,none⟩=some (.int .i64 x0)∧W.cell? ⟨b3,o3+k * 4+1,none⟩=some (.int .i64 x1)∧W.cell? ⟨b3,o3+k * 4+2,none⟩=some (.slice ra xr.length rc)∧W.cell? ⟨b3,o3+k * 4+3,none⟩=some (.bool x3)∧W.cell? ⟨b3,o3+(k - 1) * 4,none⟩=some (.int .i64 p)) 29 (by kernel_rfl) 29 rfl ?_
          refine tk 0 ⟨some 35,.load 25 (.tmp 2),25, "ref.go:118",#[],none⟩ hS0 ?_;simp only [Act.put,sA,s0,sS]
          refine tk 1 ⟨some 36,.fieldAddr 68 (.tmp 7) 0,0, "ref.go:118",#[],none⟩ hS0 ?_;simp only [Act.put,sA,s0,sS]
          refine tk 2 ⟨some 37,.load 65 (.tmp 36),65, "ref.go:118",#[⟨1,.data⟩],none⟩ hS0 ?_;simp only [Act.put,sA,s0,sS]
          refine tk 3 ⟨some 38,.move (.tmp 8),3, "ref.go:118",#[],none⟩ hS0 ?_;simp only [Act.put,sA,s0,sS]
          refine tk 4 ⟨some 39,.indexAddr 65 (.tmp 37) (.tmp 38),0, "ref.go:118",#[⟨2,.data⟩,⟨3,.data⟩],none⟩ hS0 ?_;simp only [Act.put,sA,s0,sS]
          refine tk 5 ⟨some 40,.load 45 (.tmp 39),45, "ref.go:118",#[⟨4,.data⟩],none⟩ hS0 ?_;simp only [Act.put,sA,s0,sS]
          refine tk 6 ⟨some 41,.move (.tmp 5),3, "ref.go:118",#[],none⟩ hS0 ?_;simp only [Act.put,sA,s0,sS]
          refine wpAnyL_one' (i:=7) (o:=⟨some 42,.call ⟨.value (.func 42),#[.tmp 35,.tmp 40,.tmp 41],#[25,45,3]⟩,4, "ref.go:118",#[⟨0,.data⟩,⟨5,.data⟩,⟨6,.data⟩],none⟩) (by kernel_rfl) rfl rfl (fun KQ hK=>?_)
          go_simp
          refine HC7.mono ?_
          rintro e w6 ⟨rfl,b6⟩
          have hS1:(fun W:World=>(W.cell? ⟨w.heap.size,0,none⟩=some (.slice ta f.terms.length tc)∧W.cell? ⟨w.heap.size,1,none⟩=some (.slice na f.nons.length nc)∧W.cell? ⟨w.heap.size,2,none⟩=some (.slice pa f.prods.length pc)∧W.cell? ⟨rb,0,none⟩=some (.slice (some ⟨b3,o3,none⟩) r.acts.length ac)∧W.cell? ⟨b3,o3+k * 4,none⟩=some (.int .i64 x0)∧W.cell? ⟨b3,o3+k * 4+1,none⟩=some (.int .i64 x1)∧W.cell? ⟨b3,o3+k * 4+2,none⟩=some (.slice ra xr.length rc)∧W.cell? ⟨b3,o3+k * 4+3,none⟩=some (.bool x3)∧W.cell? ⟨b3,o3+(k - 1) * 4,none⟩=some (.int .i64 p))) w6:=HSS.out _ b6
          refine hK.out _ _ (fun _=>hS1) ?_
          clear hK
          refine tk 8 ⟨some 43,.unOp .not 4 (.tmp 42),4, "ref.go:118",#[⟨7,.data⟩],none⟩ hS1 ?_;simp only [Act.put,sA,s0,sS]
          refine tk 9 ⟨some 44,.move (.tmp 43),4, "ref.go:118",#[⟨8,.data⟩,⟨7,.chain⟩],none⟩ hS1 ?_;simp only [Act.put,sA,s0,sS]
          refine tk 10 ⟨some 45,.move (.tmp 8),3, "ref.go:118",#[⟨9,.guard⟩],some (9,false)⟩ hS1 ?_;simp only [Act.put,sA,s0,sS]
          refine tk 11 ⟨some 46,.binOp .gtr 3 (.tmp 45) (.const (.int .i64 0)) 3,4, "ref.go:118",#[⟨10,.data⟩,⟨9,.guard⟩],some (9,false)⟩ hS1 ?_;simp only [Act.put,sA,s0,sS]
          refine tk 12 ⟨some 47,.move (.tmp 46),4, "ref.go:118",#[⟨11,.data⟩,⟨9,.chain⟩,⟨9,.guard⟩],some (9,false)⟩ hS1 ?_;simp only [Act.put,sA,s0,sS]
          refine tu 13 ⟨some 48,.fieldAddr 68 (.tmp 7) 0,0, "ref.go:118",#[⟨12,.guard⟩],some (12,true)⟩ hS1 ?_;simp only [Act.put,sA,s0,sS]
          refine tu 14 ⟨some 49,.load 65 (.tmp 48),65, "ref.go:118",#[⟨13,.data⟩,⟨12,.guard⟩],some (12,true)⟩ hS1 ?_;simp only [Act.put,sA,s0,sS]
          refine tu 15 ⟨some 50,.move (.tmp 8),3, "ref.go:118",#[⟨12,.guard⟩],some (12,true)⟩ hS1 ?_;simp only [Act.put,sA,s0,sS]
          refine tu 16 ⟨some 51,.binOp .sub 3 (.tmp 50) (.const (.int .i64 1)) 3,3, "ref.go:118",#[⟨15,.data⟩,⟨12,.guard⟩],some (12,true)⟩ hS1 ?_;simp only [Act.put,sA,s0,sS]
          refine tu 17 ⟨some 52,.indexAddr 65 (.tmp 49) (.tmp 51),0, "ref.go:118",#[⟨14,.data⟩,⟨16,.data⟩,⟨12,.guard⟩],some (12,true)⟩ hS1 ?_;simp only [Act.put,sA,s0,sS]
          refine tu 18 ⟨some 53,.fieldAddr 45 (.tmp 52) 0,0, "ref.go:118",#[⟨17,.data⟩,⟨12,.guard⟩],some (12,true)⟩ hS1 ?_;simp only [Act.put,sA,s0,sS]
          refine tu 19 ⟨some 54,.load 3 (.tmp 53),3, "ref.go:118",#[⟨18,.data⟩,⟨12,.guard⟩],some (12,true)⟩ hS1 ?_;simp only [Act.put,sA,s0,sS]
          refine tu 20 ⟨some 55,.fieldAddr 68 (.tmp 7) 0,0, "ref.go:118",#[⟨12,.guard⟩],some (12,true)⟩ hS1 ?_;simp only [Act.put,sA,s0,sS]
          refine tu 21 ⟨some 56,.load 65 (.tmp 55),65, "ref.go:118",#[⟨20,.data⟩,⟨12,.guard⟩],some (12,true)⟩ hS1 ?_;simp only [Act.put,sA,s0,sS]
          refine tu 22 ⟨some 57,.move (.tmp 8),3, "ref.go:118",#[⟨12,.guard⟩],some (12,true)⟩ hS1 ?_;simp only [Act.put,sA,s0,sS]
          refine tu 23 ⟨some 58,.indexAddr 65 (.tmp 56) (.tmp 57),0, "ref.go:118",#[⟨21,.data⟩,⟨22,.data⟩,⟨12,.guard⟩],some (12,true)⟩ hS1 ?_;simp only [Act.put,sA,s0,sS]
          refine tu 24 ⟨some 59,.fieldAddr 45 (.tmp 58) 0,0, "ref.go:118",#[⟨23,.data⟩,⟨12,.guard⟩],some (12,true)⟩ hS1 ?_;simp only [Act.put,sA,s0,sS]
          refine tu 25 ⟨some 60,.load 3 (.tmp 59),3, "ref.go:118",#[⟨24,.data⟩,⟨12,.guard⟩],some (12,true)⟩ hS1 ?_;simp only [Act.put,sA,s0,sS]
          refine tu 26 ⟨some 61,.binOp .geq 3 (.tmp 54) (.tmp 60) 3,4, "ref.go:118",#[⟨19,.data⟩,⟨25,.data⟩,⟨12,.guard⟩],some (12,true)⟩ hS1 ?_;simp only [Act.put,sA,s0,sS]
          refine tk 27 ⟨some 62,.pick (.tmp 47) (.tmp 61) (.const (.bool false)),4, "ref.go:118",#[⟨12,.data⟩,⟨26,.data⟩,⟨9,.guard⟩],some (9,false)⟩ hS1 ?_;simp only [Act.put,sA,s0,sS]
          refine tk 28 ⟨some 63,.pick (.tmp 44) (.const (.bool true)) (.tmp 62),4, "ref.go:118",#[⟨9,.data⟩,⟨27,.data⟩],none⟩ hS1 ?_;simp only [Act.put,sA,s0,sS]
          refine wpAnyL_done (by kernel_rfl) ?_ _
          go_wp2_with fail
          go_meet
          exact ⟨by rw [HE.out]; rfl,BD0.trans (b6.mono BD0.size)⟩
    case rest =>
    obtain ⟨rfl,hbw⟩:=hcut
    have BD:=BK.trans (hbw.mono BK.size)
    cases GB with
    | false =>
      have HE:Hid (R=false):=HN1.out (fun h=>by have:=HGB.out.1 h; cases this)
      have QB:=(HX.out _ BD).2.2.2.2
      clear HN1 HY1 HTA HRN2 HTO2 HX HGN HGB hS0 hw1 HSS HC7 HFA
      go_wp2_with fail
      go_ret
      exact ⟨by rw [HE.out]; rfl,QB⟩
    | true =>
      have HE:Hid (actTo f.terms.length f.prods.length l.length r.acts (k+1)):=HY1.out (HGB.out.2 rfl)
      clear HN1 HY1 HTA HRN2 HTO2 HX HGN HGB hS0 hw1 HSS HC7 HFA
      go_wp2_with fail
      exact ⟨⟨k+1,by go_num,by omega,HE.out,BD⟩,by simp [intOf]; omega⟩
  obtain rfl:k=r.acts.length:=by omega
  have HAC:Hid (actsB f.terms.length f.prods.length l.length r.acts=true):=actTo_all HTA.out
  obtain ⟨⟨y0,_⟩,_⟩:=HX.out wr BK
  clear HTA HFA
  go_wp2_with fail
  clear y0
  go_loopw [9] (fun kv w2=>∃ (k:Nat),kv=.int .i64 k∧k≤r.goes.length∧goTo (f.terms.length+f.nons.length) l.length r.goes k∧Below wx.heap.size wx w2) (fun k _=>r.goes.length - (intOf k).toNat)
  case atStart=>exact ⟨0,rfl,Nat.zero_le _,fun k _ hk=>by omega,BK⟩
  case round =>
  clear BK
  obtain ⟨k,rfl,hk',hto,BK⟩:=hrel
  have HTG:Hid (goTo (f.terms.length+f.nons.length) l.length r.goes k):=hto
  clear hto
  obtain ⟨⟨_,y1⟩,_,⟨_,hG⟩,cwz,_⟩:=HX.out wr BK
  by_cases hkl:k<r.goes.length
  case neg =>
    obtain rfl:k=r.goes.length:=by omega
    have HGC:Hid (goesB (f.terms.length+f.nons.length) l.length r.goes=true):=goTo_all HTG.out
    have HZ:Hid (∀ k,(h:k<l.length)→k<i+1→rowB f.terms.length f.prods.length (f.terms.length+f.nons.length) l.length l[k]=true):=HTO2.out HAC.out HGC.out
    clear HTG HRN2 HTO2 HX HAC HGC
    go_wp2_with fail
    exact ⟨⟨i+1,by go_num,by omega,HZ.out,cwz⟩,by simp [intOf]; omega⟩
  obtain ⟨_,_,e0,hrg,_⟩:=hG
  cases e0
  have hk1:k - 1<r.goes.length:=by omega
  obtain ⟨b3,o3,rfl,hb3,s0,s1,_⟩:=hrg.at (Below.refl _ _) hkl
  obtain ⟨_,_,e1,_,t0,_⟩:=hrg.at (Below.refl _ _) hk1
  cases e1
  have HN1:Hid (¬ (goB (f.terms.length+f.nons.length) l.length r.goes[k]=true∧(0<k→r.goes[k - 1].1<r.goes[k].1))→R=false):=fun h=>HRN2.out (.inr (goTo_no hkl h))
  have HY1:Hid ((goB (f.terms.length+f.nons.length) l.length r.goes[k]=true∧(0<k→r.goes[k - 1].1<r.goes[k].1))→goTo (f.terms.length+f.nons.length) l.length r.goes (k+1)):=fun h j hj hj1=>by
    rcases Nat.lt_or_ge j k with h' | h'
    · exact HTG.out j hj h'
    · obtain rfl:j=k:=by omega
      exact h
  generalize r.goes[k - 1].1=p at *
  generalize r.goes[k]=x at *
  obtain ⟨g1,g2⟩:=x
  simp only at *
  have HGO:Hid (goB (f.terms.length+f.nons.length) l.length (g1,g2)=true↔0≤g1∧g1<((f.terms.length+f.nons.length:Nat):Int)∧0≤g2∧g2<(l.length:Int)):=by
    show _↔_
    unfold goB
    simp only [Bool.and_eq_true,decide_eq_true_eq,and_assoc]
  generalize goB (f.terms.length+f.nons.length) l.length (g1,g2)=AB at *
  obtain ⟨GB,hGB⟩:∃ GB:Bool,(AB=true∧(0<k→p<g1))↔GB=true:=⟨decide (AB=true∧(0<k→p<g1)),decide_eq_true_iff.symm⟩
  have HGB:Hid ((AB=true∧(0<k→p<g1))↔GB=true):=hGB
  have HGN:Hid (¬ (0≤g1∧g1<((f.terms.length+f.nons.length:Nat):Int)∧0≤g2∧g2<(l.length:Int)∧(0<k→p<g1))→GB=false):=fun h=>by
    cases GB with
    | false=>rfl
    | true =>
      have h1:=hGB.2 rfl
      obtain ⟨h2,h3,h4,h5⟩:=HGO.out.1 h1.1
      exact absurd ⟨h2,h3,h4,h5,h1.2⟩ h
  have HGY:Hid ((0≤g1∧g1<((f.terms.length+f.nons.length:Nat):Int)∧0≤g2∧g2<(l.length:Int)∧(0<k→p<g1))→GB=true):=fun ⟨h2,h3,h4,h5,h6⟩=>hGB.1 ⟨HGO.out.2 ⟨h2,h3,h4,h5⟩,h6⟩
  clear hGB HGO HTG
  have by0:Below wr.heap.size wr (wr.alloc (Obj.cells #[.int .i64 g1,.int .i64 g2] 75)):=(Below.refl _ _).alloc (Nat.le_refl _) _
  have v0:(wr.alloc (Obj.cells #[.int .i64 g1,.int .i64 g2] 75)).cell? ⟨wr.heap.size,0,none⟩=some (.int .i64 g1):=by simp
  have v1:(wr.alloc (Obj.cells #[.int .i64 g1,.int .i64 g2] 75)).cell? ⟨wr.heap.size,1,none⟩=some (.int .i64 g2):=by simp
  go_upto_region 15 with fail
  obtain ⟨gb,hgb2⟩:∃ gb,wr.heap.size=gb:=⟨_,rfl⟩
  rw [hgb2] at v0 v1
  simp only [hgb2]
  have hgl:gb<(wr.alloc (Obj.cells #[.int .i64 g1,.int .i64 g2] 75)).heap.size:=by simp; omega
  have bt:b3<(wr.alloc (Obj.cells #[.int .i64 g1,.int .i64 g2] 75)).heap.size:=Nat.lt_of_lt_of_le hb3 by0.size
  have t1:=(by0.cell (p:=⟨b3,o3+(k - 1) * 2,none⟩) hb3).trans t0
  generalize wr.alloc (Obj.cells #[.int .i64 g1,.int .i64 g2] 75)=wy at *
  have BY:Below wx.heap.size wx wy:=BK.trans (by0.mono BK.size)
  have bd0:Below wy.heap.size wy wy.drew:=(Below.refl _ _).drew
  obtain ⟨⟨_,y2⟩,⟨z0,z1,_,_⟩,_,_,_⟩:=HX.out wy.drew BY.drew
  have hS0:(fun W:World=>(W.cell? ⟨w.heap.size,0,none⟩=some (.slice ta f.terms.length tc)∧W.cell? ⟨w.heap.size,1,none⟩=some (.slice na f.nons.length nc)∧W.cell? ⟨rb,1,none⟩=some (.slice (some ⟨b3,o3,none⟩) r.goes.length gc)∧W.cell? ⟨gb,0,none⟩=some (.int .i64 g1)∧W.cell? ⟨gb,1,none⟩=some (.int .i64 g2)∧W.cell? ⟨b3,o3+(k - 1) * 2,none⟩=some (.int .i64 p))) wy.drew:=⟨z0,z1,y2,(bd0.cell (p:=⟨gb,0,none⟩) hgl).trans v0,(bd0.cell (p:=⟨gb,1,none⟩) hgl).trans v1,(bd0.cell (p:=⟨b3,o3+(k - 1) * 2,none⟩) bt).trans t1⟩
  have hw1:0<k→IntKind.i64.wrap ((k:Int) - 1)=((k - 1:Nat):Int):=fun h=>by rw [IntKind.wrap_i64]; omega
  have hsum:IntKind.i64.wrap ((f.terms.length:Int)+(f.nons.length:Int))=((f.terms.length+f.nons.length:Nat):Int):=by rw [IntKind.wrap_i64]; omega
  clear y1 y2 z0 z1 v0 v1 s0 s1 t0 t1 hrg by0 bd0 hgl bt hgb2 hb3
  go_cut [117] from 76 to 117 (fun t w2=>t=.bool (!GB)∧w2=wy.drew)
  case first =>
    clear HN1 HY1 HRN2 HTO2 HX HAC HGB
    generalize f.terms.length+f.nons.length=S at *
    by_cases c1:g1<0
    · have g1':decide (g1<0)=true:=decide_eq_true c1
      have HE:Hid (GB=false):=HGN.out (fun h=>by omega)
      clear HGN HGY hw1
      refine wp_region_L (fun W=>W.cell? ⟨w.heap.size,0,none⟩=some (.slice ta f.terms.length tc)∧W.cell? ⟨w.heap.size,1,none⟩=some (.slice na f.nons.length nc)∧W.cell? ⟨rb,1,none⟩=some (.slice (some ⟨b3,o3,none⟩) r.goes.length gc)∧W.cell? ⟨gb,0,none⟩=some (.int .i64 g1)∧W.cell? ⟨gb,1,none⟩=some (.int .i64 g2)∧W.cell? ⟨b3,o3+(k - 1) * 2,none⟩=some (.int .i64 p)) 42 (by kernel_rfl) 42 rfl ?_
      refine tk 0 ⟨some 76,.fieldAddr 75 (.tmp 10) 0,0, "ref.go:124",#[],none⟩ hS0 ?_;simp only [Act.put,sA,s0,sS]
      refine tk 1 ⟨some 77,.load 3 (.tmp 76),3, "ref.go:124",#[⟨0,.data⟩],none⟩ hS0 ?_;simp only [Act.put,sA,s0,sS]
      refine tk 2 ⟨some 78,.binOp .lss 3 (.tmp 77) (.const (.int .i64 0)) 3,4, "ref.go:124",#[⟨1,.data⟩],none⟩ hS0 ?_;simp only [Act.put,sA,s0,sS]
      refine tk 3 ⟨some 79,.move (.tmp 78),4, "ref.go:124",#[⟨2,.data⟩],none⟩ hS0 ?_;simp only [Act.put,sA,s0,sS]
      refine tu 4 ⟨some 80,.fieldAddr 75 (.tmp 10) 0,0, "ref.go:124",#[⟨3,.guard⟩],some (3,false)⟩ hS0 ?_;simp only [Act.put,sA,s0,sS]
      refine tu 5 ⟨some 81,.load 3 (.tmp 80),3, "ref.go:124",#[⟨4,.data⟩,⟨3,.guard⟩],some (3,false)⟩ hS0 ?_;simp only [Act.put,sA,s0,sS]
      refine tu 6 ⟨some 82,.fieldAddr 25 (.tmp 2) 0,0, "ref.go:124",#[⟨3,.guard⟩],some (3,false)⟩ hS0 ?_;simp only [Act.put,sA,s0,sS]
      refine tu 7 ⟨some 83,.load 22 (.tmp 82),22, "ref.go:124",#[⟨6,.data⟩,⟨3,.guard⟩],some (3,false)⟩ hS0 ?_;simp only [Act.put,sA,s0,sS]
      refine tu 8 ⟨some 84,.call ⟨.builtin .len,#[.tmp 83],#[22]⟩,3, "ref.go:124",#[⟨7,.data⟩,⟨3,.guard⟩],some (3,false)⟩ hS0 ?_;simp only [Act.put,sA,s0,sS]
      refine tu 9 ⟨some 85,.fieldAddr 25 (.tmp 2) 1,0, "ref.go:124",#[⟨3,.guard⟩],some (3,false)⟩ hS0 ?_;simp only [Act.put,sA,s0,sS]
      refine tu 10 ⟨some 86,.load 22 (.tmp 85),22, "ref.go:124",#[⟨9,.data⟩,⟨3,.guard⟩],some (3,false)⟩ hS0 ?_;simp only [Act.put,sA,s0,sS]
      refine tu 11 ⟨some 87,.call ⟨.builtin .len,#[.tmp 86],#[22]⟩,3, "ref.go:124",#[⟨10,.data⟩,⟨3,.guard⟩],some (3,false)⟩ hS0 ?_;simp only [Act.put,sA,s0,sS]
      refine tu 12 ⟨some 88,.binOp .add 3 (.tmp 84) (.tmp 87) 3,3, "ref.go:124",#[⟨8,.data⟩,⟨11,.data⟩,⟨3,.guard⟩],some (3,false)⟩ hS0 ?_;simp only [Act.put,sA,s0,sS]
      refine tu 13 ⟨some 89,.binOp .geq 3 (.tmp 81) (.tmp 88) 3,4, "ref.go:124",#[⟨5,.data⟩,⟨12,.data⟩,⟨3,.guard⟩],some (3,false)⟩ hS0 ?_;simp only [Act.put,sA,s0,sS]
      refine tk 14 ⟨some 90,.pick (.tmp 79) (.const (.bool true)) (.tmp 89),4, "ref.go:124",#[⟨3,.data⟩,⟨13,.data⟩],none⟩ hS0 ?_;simp only [Act.put,sA,s0,sS]
      refine tk 15 ⟨some 91,.move (.tmp 90),4, "ref.go:124",#[⟨14,.data⟩,⟨3,.chain⟩],none⟩ hS0 ?_;simp only [Act.put,sA,s0,sS]
      refine tu 16 ⟨some 92,.fieldAddr 75 (.tmp 10) 1,0, "ref.go:124",#[⟨15,.guard⟩],some (15,false)⟩ hS0 ?_;simp only [Act.put,sA,s0,sS]
      refine tu 17 ⟨some 93,.load 3 (.tmp 92),3, "ref.go:124",#[⟨16,.data⟩,⟨15,.guard⟩],some (15,false)⟩ hS0 ?_;simp only [Act.put,sA,s0,sS]
      refine tu 18 ⟨some 94,.binOp .lss 3 (.tmp 93) (.const (.int .i64 0)) 3,4, "ref.go:124",#[⟨17,.data⟩,⟨15,.guard⟩],some (15,false)⟩ hS0 ?_;simp only [Act.put,sA,s0,sS]
      refine tk 19 ⟨some 95,.pick (.tmp 91) (.const (.bool true)) (.tmp 94),4, "ref.go:124",#[⟨15,.data⟩,⟨18,.data⟩],none⟩ hS0 ?_;simp only [Act.put,sA,s0,sS]
      refine tk 20 ⟨some 96,.move (.tmp 95),4, "ref.go:124",#[⟨19,.data⟩,⟨15,.chain⟩],none⟩ hS0 ?_;simp only [Act.put,sA,s0,sS]
      refine tu 21 ⟨some 97,.fieldAddr 75 (.tmp 10) 1,0, "ref.go:124",#[⟨20,.guard⟩],some (20,false)⟩ hS0 ?_;simp only [Act.put,sA,s0,sS]
      refine tu 22 ⟨some 98,.load 3 (.tmp 97),3, "ref.go:124",#[⟨21,.data⟩,⟨20,.guard⟩],some (20,false)⟩ hS0 ?_;simp only [Act.put,sA,s0,sS]
      refine tu 23 ⟨some 99,.move (.tmp 5),3, "ref.go:124",#[⟨20,.guard⟩],some (20,false)⟩ hS0 ?_;simp only [Act.put,sA,s0,sS]
      refine tu 24 ⟨some 100,.binOp .geq 3 (.tmp 98) (.tmp 99) 3,4, "ref.go:124",#[⟨22,.data⟩,⟨23,.data⟩,⟨20,.guard⟩],some (20,false)⟩ hS0 ?_;simp only [Act.put,sA,s0,sS]
      refine tk 25 ⟨some 101,.pick (.tmp 96) (.const (.bool true)) (.tmp 100),4, "ref.go:124",#[⟨20,.data⟩,⟨24,.data⟩],none⟩ hS0 ?_;simp only [Act.put,sA,s0,sS]
      refine tk 26 ⟨some 102,.move (.tmp 101),4, "ref.go:124",#[⟨25,.data⟩,⟨20,.chain⟩],none⟩ hS0 ?_;simp only [Act.put,sA,s0,sS]
      refine tu 27 ⟨some 103,.move (.tmp 9),3, "ref.go:124",#[⟨26,.guard⟩],some (26,false)⟩ hS0 ?_;simp only [Act.put,sA,s0,sS]
      refine tu 28 ⟨some 104,.binOp .gtr 3 (.tmp 103) (.const (.int .i64 0)) 3,4, "ref.go:124",#[⟨27,.data⟩,⟨26,.guard⟩],some (26,false)⟩ hS0 ?_;simp only [Act.put,sA,s0,sS]
      refine tu 29 ⟨some 105,.move (.tmp 104),4, "ref.go:124",#[⟨28,.data⟩,⟨26,.chain⟩,⟨26,.guard⟩],some (26,false)⟩ hS0 ?_;simp only [Act.put,sA,s0,sS]
      refine tu 30 ⟨some 106,.fieldAddr 68 (.tmp 7) 1,0, "ref.go:124",#[⟨29,.guard⟩],some (29,true)⟩ hS0 ?_;simp only [Act.put,sA,s0,sS]
      refine tu 31 ⟨some 107,.load 66 (.tmp 106),66, "ref.go:124",#[⟨30,.data⟩,⟨29,.guard⟩],some (29,true)⟩ hS0 ?_;simp only [Act.put,sA,s0,sS]
      refine tu 32 ⟨some 108,.move (.tmp 9),3, "ref.go:124",#[⟨29,.guard⟩],some (29,true)⟩ hS0 ?_;simp only [Act.put,sA,s0,sS]
      refine tu 33 ⟨some 109,.binOp .sub 3 (.tmp 108) (.const (.int .i64 1)) 3,3, "ref.go:124",#[⟨32,.data⟩,⟨29,.guard⟩],some (29,true)⟩ hS0 ?_;simp only [Act.put,sA,s0,sS]
      refine tu 34 ⟨some 110,.indexAddr 66 (.tmp 107) (.tmp 109),0, "ref.go:124",#[⟨31,.data⟩,⟨33,.data⟩,⟨29,.guard⟩],some (29,true)⟩ hS0 ?_;simp only [Act.put,sA,s0,sS]
      refine tu 35 ⟨some 111,.fieldAddr 75 (.tmp 110) 0,0, "ref.go:124",#[⟨34,.data⟩,⟨29,.guard⟩],some (29,true)⟩ hS0 ?_;simp only [Act.put,sA,s0,sS]
      refine tu 36 ⟨some 112,.load 3 (.tmp 111),3, "ref.go:124",#[⟨35,.data⟩,⟨29,.guard⟩],some (29,true)⟩ hS0 ?_;simp only [Act.put,sA,s0,sS]
      refine tu 37 ⟨some 113,.fieldAddr 75 (.tmp 10) 0,0, "ref.go:124",#[⟨29,.guard⟩],some (29,true)⟩ hS0 ?_;simp only [Act.put,sA,s0,sS]
      refine tu 38 ⟨some 114,.load 3 (.tmp 113),3, "ref.go:124",#[⟨37,.data⟩,⟨29,.guard⟩],some (29,true)⟩ hS0 ?_;simp only [Act.put,sA,s0,sS]
      refine tu 39 ⟨some 115,.binOp .geq 3 (.tmp 112) (.tmp 114) 3,4, "ref.go:124",#[⟨36,.data⟩,⟨38,.data⟩,⟨29,.guard⟩],some (29,true)⟩ hS0 ?_;simp only [Act.put,sA,s0,sS]
      refine tu 40 ⟨some 116,.pick (.tmp 105) (.tmp 115) (.const (.bool false)),4, "ref.go:124",#[⟨29,.data⟩,⟨39,.data⟩,⟨26,.guard⟩],some (26,false)⟩ hS0 ?_;simp only [Act.put,sA,s0,sS]
      refine tk 41 ⟨some 117,.pick (.tmp 102) (.const (.bool true)) (.tmp 116),4, "ref.go:124",#[⟨26,.data⟩,⟨40,.data⟩],none⟩ hS0 ?_;simp only [Act.put,sA,s0,sS]
      refine wpAnyL_done (by kernel_rfl) ?_ _
      go_wp2_with fail
      go_meet
      exact ⟨by rw [HE.out]; rfl,rfl⟩
    have g1':decide (g1<0)=false:=decide_eq_false c1
    by_cases c2:(S:Int)≤g1
    · have g2':decide ((S:Int)≤g1)=true:=decide_eq_true c2
      have HE:Hid (GB=false):=HGN.out (fun h=>by omega)
      clear HGN HGY hw1
      refine wp_region_L (fun W=>W.cell? ⟨w.heap.size,0,none⟩=some (.slice ta f.terms.length tc)∧W.cell? ⟨w.heap.size,1,none⟩=some (.slice na f.nons.length nc)∧W.cell? ⟨rb,1,none⟩=some (.slice (some ⟨b3,o3,none⟩) r.goes.length gc)∧W.cell? ⟨gb,0,none⟩=some (.int .i64 g1)∧W.cell? ⟨gb,1,none⟩=some (.int .i64 g2)∧W.cell? ⟨b3,o3+(k - 1) * 2,none⟩=some (.int .i64 p)) 42 (by kernel_rfl) 42 rfl ?_
      refine tk 0 ⟨some 76,.fieldAddr 75 (.tmp 10) 0,0, "ref.go:124",#[],none⟩ hS0 ?_;simp only [Act.put,sA,s0,sS]
      refine tk 1 ⟨some 77,.load 3 (.tmp 76),3, "ref.go:124",#[⟨0,.data⟩],none⟩ hS0 ?_;simp only [Act.put,sA,s0,sS]
      refine tk 2 ⟨some 78,.binOp .lss 3 (.tmp 77) (.const (.int .i64 0)) 3,4, "ref.go:124",#[⟨1,.data⟩],none⟩ hS0 ?_;simp only [Act.put,sA,s0,sS]
      refine tk 3 ⟨some 79,.move (.tmp 78),4, "ref.go:124",#[⟨2,.data⟩],none⟩ hS0 ?_;simp only [Act.put,sA,s0,sS]
      refine tk 4 ⟨some 80,.fieldAddr 75 (.tmp 10) 0,0, "ref.go:124",#[⟨3,.guard⟩],some (3,false)⟩ hS0 ?_;simp only [Act.put,sA,s0,sS]
      refine tk 5 ⟨some 81,.load 3 (.tmp 80),3, "ref.go:124",#[⟨4,.data⟩,⟨3,.guard⟩],some (3,false)⟩ hS0 ?_;simp only [Act.put,sA,s0,sS]
      refine tk 6 ⟨some 82,.fieldAddr 25 (.tmp 2) 0,0, "ref.go:124",#[⟨3,.guard⟩],some (3,false)⟩ hS0 ?_;simp only [Act.put,sA,s0,sS]
      refine tk 7 ⟨some 83,.load 22 (.tmp 82),22, "ref.go:124",#[⟨6,.data⟩,⟨3,.guard⟩],some (3,false)⟩ hS0 ?_;simp only [Act.put,sA,s0,sS]
      refine tk 8 ⟨some 84,.call ⟨.builtin .len,#[.tmp 83],#[22]⟩,3, "ref.go:124",#[⟨7,.data⟩,⟨3,.guard⟩],some (3,false)⟩ hS0 ?_;simp only [Act.put,sA,s0,sS]
      refine tk 9 ⟨some 85,.fieldAddr 25 (.tmp 2) 1,0, "ref.go:124",#[⟨3,.guard⟩],some (3,false)⟩ hS0 ?_;simp only [Act.put,sA,s0,sS]
      refine tk 10 ⟨some 86,.load 22 (.tmp 85),22, "ref.go:124",#[⟨9,.data⟩,⟨3,.guard⟩],some (3,false)⟩ hS0 ?_;simp only [Act.put,sA,s0,sS]
      refine tk 11 ⟨some 87,.call ⟨.builtin .len,#[.tmp 86],#[22]⟩,3, "ref.go:124",#[⟨10,.data⟩,⟨3,.guard⟩],some (3,false)⟩ hS0 ?_;simp only [Act.put,sA,s0,sS]
      refine tk 12 ⟨some 88,.binOp .add 3 (.tmp 84) (.tmp 87) 3,3, "ref.go:124",#[⟨8,.data⟩,⟨11,.data⟩,⟨3,.guard⟩],some (3,false)⟩ hS0 ?_;simp only [Act.put,sA,s0,sS]
      try simp only [hsum]
      refine tk 13 ⟨some 89,.binOp .geq 3 (.tmp 81) (.tmp 88) 3,4, "ref.go:124",#[⟨5,.data⟩,⟨12,.data⟩,⟨3,.guard⟩],some (3,false)⟩ hS0 ?_;simp only [Act.put,sA,s0,sS]
      refine tk 14 ⟨some 90,.pick (.tmp 79) (.const (.bool true)) (.tmp 89),4, "ref.go:124",#[⟨3,.data⟩,⟨13,.data⟩],none⟩ hS0 ?_;simp only [Act.put,sA,s0,sS]
      refine tk 15 ⟨some 91,.move (.tmp 90),4, "ref.go:124",#[⟨14,.data⟩,⟨3,.chain⟩],none⟩ hS0 ?_;simp only [Act.put,sA,s0,sS]
      refine tu 16 ⟨some 92,.fieldAddr 75 (.tmp 10) 1,0, "ref.go:124",#[⟨15,.guard⟩],some (15,false)⟩ hS0 ?_;simp only [Act.put,sA,s0,sS]
      refine tu 17 ⟨some 93,.load 3 (.tmp 92),3, "ref.go:124",#[⟨16,.data⟩,⟨15,.guard⟩],some (15,false)⟩ hS0 ?_;simp only [Act.put,sA,s0,sS]
      refine tu 18 ⟨some 94,.binOp .lss 3 (.tmp 93) (.const (.int .i64 0)) 3,4, "ref.go:124",#[⟨17,.data⟩,⟨15,.guard⟩],some (15,false)⟩ hS0 ?_;simp only [Act.put,sA,s0,sS]
      refine tk 19 ⟨some 95,.pick (.tmp 91) (.const (.bool true)) (.tmp 94),4, "ref.go:124",#[⟨15,.data⟩,⟨18,.data⟩],none⟩ hS0 ?_;simp only [Act.put,sA,s0,sS]
      refine tk 20 ⟨some 96,.move (.tmp 95),4, "ref.go:124",#[⟨19,.data⟩,⟨15,.chain⟩],none⟩ hS0 ?_;simp only [Act.put,sA,s0,sS]
      refine tu 21 ⟨some 97,.fieldAddr 75 (.tmp 10) 1,0, "ref.go:124",#[⟨20,.guard⟩],some (20,false)⟩ hS0 ?_;simp only [Act.put,sA,s0,sS]
      refine tu 22 ⟨some 98,.load 3 (.tmp 97),3, "ref.go:124",#[⟨21,.data⟩,⟨20,.guard⟩],some (20,false)⟩ hS0 ?_;simp only [Act.put,sA,s0,sS]
      refine tu 23 ⟨some 99,.move (.tmp 5),3, "ref.go:124",#[⟨20,.guard⟩],some (20,false)⟩ hS0 ?_;simp only [Act.put,sA,s0,sS]
      refine tu 24 ⟨some 100,.binOp .geq 3 (.tmp 98) (.tmp 99) 3,4, "ref.go:124",#[⟨22,.data⟩,⟨23,.data⟩,⟨20,.guard⟩],some (20,false)⟩ hS0 ?_;simp only [Act.put,sA,s0,sS]
      refine tk 25 ⟨some 101,.pick (.tmp 96) (.const (.bool true)) (.tmp 100),4, "ref.go:124",#[⟨20,.data⟩,⟨24,.data⟩],none⟩ hS0 ?_;simp only [Act.put,sA,s0,sS]
      refine tk 26 ⟨some 102,.move (.tmp 101),4, "ref.go:124",#[⟨25,.data⟩,⟨20,.chain⟩],none⟩ hS0 ?_;simp only [Act.put,sA,s0,sS]
      refine tu 27 ⟨some 103,.move (.tmp 9),3, "ref.go:124",#[⟨26,.guard⟩],some (26,false)⟩ hS0 ?_;simp only [Act.put,sA,s0,sS]
      refine tu 28 ⟨some 104,.binOp .gtr 3 (.tmp 103) (.const (.int .i64 0)) 3,4, "ref.go:124",#[⟨27,.data⟩,⟨26,.guard⟩],some (26,false)⟩ hS0 ?_;simp only [Act.put,sA,s0,sS]
      refine tu 29 ⟨some 105,.move (.tmp 104),4, "ref.go:124",#[⟨28,.data⟩,⟨26,.chain⟩,⟨26,.guard⟩],some (26,false)⟩ hS0 ?_;simp only [Act.put,sA,s0,sS]
      refine tu 30 ⟨some 106,.fieldAddr 68 (.tmp 7) 1,0, "ref.go:124",#[⟨29,.guard⟩],some (29,true)⟩ hS0 ?_;simp only [Act.put,sA,s0,sS]
      refine tu 31 ⟨some 107,.load 66 (.tmp 106),66, "ref.go:124",#[⟨30,.data⟩,⟨29,.guard⟩],some (29,true)⟩ hS0 ?_;simp only [Act.put,sA,s0,sS]
      refine tu 32 ⟨some 108,.move (.tmp 9),3, "ref.go:124",#[⟨29,.guard⟩],some (29,true)⟩ hS0 ?_;simp only [Act.put,sA,s0,sS]
      refine tu 33 ⟨some 109,.binOp .sub 3 (.tmp 108) (.const (.int .i64 1)) 3,3, "ref.go:124",#[⟨32,.data⟩,⟨29,.guard⟩],some (29,true)⟩ hS0 ?_;simp only [Act.put,sA,s0,sS]
      refine tu 34 ⟨some 110,.indexAddr 66 (.tmp 107) (.tmp 109),0, "ref.go:124",#[⟨31,.data⟩,⟨33,.data⟩,⟨29,.guard⟩],some (29,true)⟩ hS0 ?_;simp only [Act.put,sA,s0,sS]
      refine tu 35 ⟨some 111,.fieldAddr 75 (.tmp 110) 0,0, "ref.go:124",#[⟨34,.data⟩,⟨29,.guard⟩],some (29,true)⟩ hS0 ?_;simp only [Act.put,sA,s0,sS]
      refine tu 36 ⟨some 112,.load 3 (.tmp 111),3, "ref.go:124",#[⟨35,.data⟩,⟨29,.guard⟩],some (29,true)⟩ hS0 ?_;simp only [Act.put,sA,s0,sS]
      refine tu 37 ⟨some 113,.fieldAddr 75 (.tmp 10) 0,0, "ref.go:124",#[⟨29,.guard⟩],some (29,true)⟩ hS0 ?_;simp only [Act.put,sA,s0,sS]
      refine tu 38 ⟨some 114,.load 3 (.tmp 113),3, "ref.go:124",#[⟨37,.data⟩,⟨29,.guard⟩],some (29,true)⟩ hS0 ?_;simp only [Act.put,sA,s0,sS]
      refine tu 39 ⟨some 115,.binOp .geq 3 (.tmp 112) (.tmp 114) 3,4, "ref.go:124",#[⟨36,.data⟩,⟨38,.data⟩,⟨29,.guard⟩],some (29,true)⟩ hS0 ?_;simp only [Act.put,sA,s0,sS]
      refine tu 40 ⟨some 116,.pick (.tmp 105) (.tmp 115) (.const (.bool false)),4, "ref.go:124",#[⟨29,.data⟩,⟨39,.data⟩,⟨26,.guard⟩],some (26,false)⟩ hS0 ?_;simp only [Act.put,sA,s0,sS]
      refine tk 41 ⟨some 117,.pick (.tmp 102) (.const (.bool true)) (.tmp 116),4, "ref.go:124",#[⟨26,.data⟩,⟨40,.data⟩],none⟩ hS0 ?_;simp only [Act.put,sA,s0,sS]
      refine wpAnyL_done (by kernel_rfl) ?_ _
      go_wp2_with fail
      go_meet
      exact ⟨by rw [HE.out]; rfl,rfl⟩
    have g2':decide ((S:Int)≤g1)=false:=decide_eq_false c2
    by_cases c3:g2<0
    · have g3':decide (g2<0)=true:=decide_eq_true c3
      have HE:Hid (GB=false):=HGN.out (fun h=>by omega)
      clear HGN HGY hw1
      refine wp_region_L (fun W=>W.cell? ⟨w.heap.size,0,none⟩=some (.slice ta f.terms.length tc)∧W.cell? ⟨w.heap.size,1,none⟩=some (.slice na f.nons.length nc)∧W.cell? ⟨rb,1,none⟩=some (.slice (some ⟨b3,o3,none⟩) r.goes.length gc)∧W.cell? ⟨gb,0,none⟩=some (.int .i64 g1)∧W.cell? ⟨gb,1,none⟩=some (.int .i64 g2)∧W.cell? ⟨b3,o3+(k - 1) * 2,none⟩=some (.int .i64 p)) 42 (by kernel_rfl) 42 rfl ?_
      refine tk 0 ⟨some 76,.fieldAddr 75 (.tmp 10) 0,0, "ref.go:124",#[],none⟩ hS0 ?_;simp only [Act.put,sA,s0,sS]
      refine tk 1 ⟨some 77,.load 3 (.tmp 76),3, "ref.go:124",#[⟨0,.data⟩],none⟩ hS0 ?_;simp only [Act.put,sA,s0,sS]
      refine tk 2 ⟨some 78,.binOp .lss 3 (.tmp 77) (.const (.int .i64 0)) 3,4, "ref.go:124",#[⟨1,.data⟩],none⟩ hS0 ?_;simp only [Act.put,sA,s0,sS]
      refine tk 3 ⟨some 79,.move (.tmp 78),4, "ref.go:124",#[⟨2,.data⟩],none⟩ hS0 ?_;simp only [Act.put,sA,s0,sS]
      refine tk 4 ⟨some 80,.fieldAddr 75 (.tmp 10) 0,0, "ref.go:124",#[⟨3,.guard⟩],some (3,false)⟩ hS0 ?_;simp only [Act.put,sA,s0,sS]
      refine tk 5 ⟨some 81,.load 3 (.tmp 80),3, "ref.go:124",#[⟨4,.data⟩,⟨3,.guard⟩],some (3,false)⟩ hS0 ?_;simp only [Act.put,sA,s0,sS]
      refine tk 6 ⟨some 82,.fieldAddr 25 (.tmp 2) 0,0, "ref.go:124",#[⟨3,.guard⟩],some (3,false)⟩ hS0 ?_;simp only [Act.put,sA,s0,sS]
      refine tk 7 ⟨some 83,.load 22 (.tmp 82),22, "ref.go:124",#[⟨6,.data⟩,⟨3,.guard⟩],some (3,false)⟩ hS0 ?_;simp only [Act.put,sA,s0,sS]
      refine tk 8 ⟨some 84,.call ⟨.builtin .len,#[.tmp 83],#[22]⟩,3, "ref.go:124",#[⟨7,.data⟩,⟨3,.guard⟩],some (3,false)⟩ hS0 ?_;simp only [Act.put,sA,s0,sS]
      refine tk 9 ⟨some 85,.fieldAddr 25 (.tmp 2) 1,0, "ref.go:124",#[⟨3,.guard⟩],some (3,false)⟩ hS0 ?_;simp only [Act.put,sA,s0,sS]
      refine tk 10 ⟨some 86,.load 22 (.tmp 85),22, "ref.go:124",#[⟨9,.data⟩,⟨3,.guard⟩],some (3,false)⟩ hS0 ?_;simp only [Act.put,sA,s0,sS]
      refine tk 11 ⟨some 87,.call ⟨.builtin .len,#[.tmp 86],#[22]⟩,3, "ref.go:124",#[⟨10,.data⟩,⟨3,.guard⟩],some (3,false)⟩ hS0 ?_;simp only [Act.put,sA,s0,sS]
      refine tk 12 ⟨some 88,.binOp .add 3 (.tmp 84) (.tmp 87) 3,3, "ref.go:124",#[⟨8,.data⟩,⟨11,.data⟩,⟨3,.guard⟩],some (3,false)⟩ hS0 ?_;simp only [Act.put,sA,s0,sS]
      try simp only [hsum]
      refine tk 13 ⟨some 89,.binOp .geq 3 (.tmp 81) (.tmp 88) 3,4, "ref.go:124",#[⟨5,.data⟩,⟨12,.data⟩,⟨3,.guard⟩],some (3,false)⟩ hS0 ?_;simp only [Act.put,sA,s0,sS]
      refine tk 14 ⟨some 90,.pick (.tmp 79) (.const (.bool true)) (.tmp 89),4, "ref.go:124",#[⟨3,.data⟩,⟨13,.data⟩],none⟩ hS0 ?_;simp only [Act.put,sA,s0,sS]
      refine tk 15 ⟨some 91,.move (.tmp 90),4, "ref.go:124",#[⟨14,.data⟩,⟨3,.chain⟩],none⟩ hS0 ?_;simp only [Act.put,sA,s0,sS]
      refine tk 16 ⟨some 92,.fieldAddr 75 (.tmp 10) 1,0, "ref.go:124",#[⟨15,.guard⟩],some (15,false)⟩ hS0 ?_;simp only [Act.put,sA,s0,sS]
      refine tk 17 ⟨some 93,.load 3 (.tmp 92),3, "ref.go:124",#[⟨16,.data⟩,⟨15,.guard⟩],some (15,false)⟩ hS0 ?_;simp only [Act.put,sA,s0,sS]
      refine tk 18 ⟨some 94,.binOp .lss 3 (.tmp 93) (.const (.int .i64 0)) 3,4, "ref.go:124",#[⟨17,.data⟩,⟨15,.guard⟩],some (15,false)⟩ hS0 ?_;simp only [Act.put,sA,s0,sS]
      refine tk 19 ⟨some 95,.pick (.tmp 91) (.const (.bool true)) (.tmp 94),4, "ref.go:124",#[⟨15,.data⟩,⟨18,.data⟩],none⟩ hS0 ?_;simp only [Act.put,sA,s0,sS]
      refine tk 20 ⟨some 96,.move (.tmp 95),4, "ref.go:124",#[⟨19,.data⟩,⟨15,.chain⟩],none⟩ hS0 ?_;simp only [Act.put,sA,s0,sS]
      refine tu 21 ⟨some 97,.fieldAddr 75 (.tmp 10) 1,0, "ref.go:124",#[⟨20,.guard⟩],some (20,false)⟩ hS0 ?_;simp only [Act.put,sA,s0,sS]
      refine tu 22 ⟨some 98,.load 3 (.tmp 97),3, "ref.go:124",#[⟨21,.data⟩,⟨20,.guard⟩],some (20,false)⟩ hS0 ?_;simp only [Act.put,sA,s0,sS]
      refine tu 23 ⟨some 99,.move (.tmp 5),3, "ref.go:124",#[⟨20,.guard⟩],some (20,false)⟩ hS0 ?_;simp only [Act.put,sA,s0,sS]
      refine tu 24 ⟨some 100,.binOp .geq 3 (.tmp 98) (.tmp 99) 3,4, "ref.go:124",#[⟨22,.data⟩,⟨23,.data⟩,⟨20,.guard⟩],some (20,false)⟩ hS0 ?_;simp only [Act.put,sA,s0,sS]
      refine tk 25 ⟨some 101,.pick (.tmp 96) (.const (.bool true)) (.tmp 100),4, "ref.go:124",#[⟨20,.data⟩,⟨24,.data⟩],none⟩ hS0 ?_;simp only [Act.put,sA,s0,sS]
      refine tk 26 ⟨some 102,.move (.tmp 101),4, "ref.go:124",#[⟨25,.data⟩,⟨20,.chain⟩],none⟩ hS0 ?_;simp only [Act.put,sA,s0,sS]
      refine tu 27 ⟨some 103,.move (.tmp 9),3, "ref.go:124",#[⟨26,.guard⟩],some (26,false)⟩ hS0 ?_;simp only [Act.put,sA,s0,sS]
      refine tu 28 ⟨some 104,.binOp .gtr 3 (.tmp 103) (.const (.int .i64 0)) 3,4, "ref.go:124",#[⟨27,.data⟩,⟨26,.guard⟩],some (26,false)⟩ hS0 ?_;simp only [Act.put,sA,s0,sS]
      refine tu 29 ⟨some 105,.move (.tmp 104),4, "ref.go:124",#[⟨28,.data⟩,⟨26,.chain⟩,⟨26,.guard⟩],some (26,false)⟩ hS0 ?_;simp only [Act.put,sA,s0,sS]
      refine tu 30 ⟨some 106,.fieldAddr 68 (.tmp 7) 1,0, "ref.go:124",#[⟨29,.guard⟩],some (29,true)⟩ hS0 ?_;simp only [Act.put,sA,s0,sS]
      refine tu 31 ⟨some 107,.load 66 (.tmp 106),66, "ref.go:124",#[⟨30,.data⟩,⟨29,.guard⟩],some (29,true)⟩ hS0 ?_;simp only [Act.put,sA,s0,sS]
      refine tu 32 ⟨some 108,.move (.tmp 9),3, "ref.go:124",#[⟨29,.guard⟩],some (29,true)⟩ hS0 ?_;simp only [Act.put,sA,s0,sS]
      refine tu 33 ⟨some 109,.binOp .sub 3 (.tmp 108) (.const (.int .i64 1)) 3,3, "ref.go:124",#[⟨32,.data⟩,⟨29,.guard⟩],some (29,true)⟩ hS0 ?_;simp only [Act.put,sA,s0,sS]
      refine tu 34 ⟨some 110,.indexAddr 66 (.tmp 107) (.tmp 109),0, "ref.go:124",#[⟨31,.data⟩,⟨33,.data⟩,⟨29,.guard⟩],some (29,true)⟩ hS0 ?_;simp only [Act.put,sA,s0,sS]
      refine tu 35 ⟨some 111,.fieldAddr 75 (.tmp 110) 0,0, "ref.go:124",#[⟨34,.data⟩,⟨29,.guard⟩],some (29,true)⟩ hS0 ?_;simp only [Act.put,sA,s0,sS]
      refine tu 36 ⟨some 112,.load 3 (.tmp 111),3, "ref.go:124",#[⟨35,.data⟩,⟨29,.guard⟩],some (29,true)⟩ hS0 ?_;simp only [Act.put,sA,s0,sS]
      refine tu 37 ⟨some 113,.fieldAddr 75 (.tmp 10) 0,0, "ref.go:124",#[⟨29,.guard⟩],some (29,true)⟩ hS0 ?_;simp only [Act.put,sA,s0,sS]
      refine tu 38 ⟨some 114,.load 3 (.tmp 113),3, "ref.go:124",#[⟨37,.data⟩,⟨29,.guard⟩],some (29,true)⟩ hS0 ?_;simp only [Act.put,sA,s0,sS]
      refine tu 39 ⟨some 115,.binOp .geq 3 (.tmp 112) (.tmp 114) 3,4, "ref.go:124",#[⟨36,.data⟩,⟨38,.data⟩,⟨29,.guard⟩],some (29,true)⟩ hS0 ?_;simp only [Act.put,sA,s0,sS]
      refine tu 40 ⟨some 116,.pick (.tmp 105) (.tmp 115) (.const (.bool false)),4, "ref.go:124",#[⟨29,.data⟩,⟨39,.data⟩,⟨26,.guard⟩],some (26,false)⟩ hS0 ?_;simp only [Act.put,sA,s0,sS]
      refine tk 41 ⟨some 117,.pick (.tmp 102) (.const (.bool true)) (.tmp 116),4, "ref.go:124",#[⟨26,.data⟩,⟨40,.data⟩],none⟩ hS0 ?_;simp only [Act.put,sA,s0,sS]
      refine wpAnyL_done (by kernel_rfl) ?_ _
      go_wp2_with fail
      go_meet
      exact ⟨by rw [HE.out]; rfl,rfl⟩
    have g3':decide (g2<0)=false:=decide_eq_false c3
    by_cases c4:(l.length:Int)≤g2
    · have g4':decide ((l.length:Int)≤g2)=true:=decide_eq_true c4
      have HE:Hid (GB=false):=HGN.out (fun h=>by omega)
      clear HGN HGY hw1
      refine wp_region_L (fun W=>W.cell? ⟨w.heap.size,0,none⟩=some (.slice ta f.terms.length tc)∧W.cell? ⟨w.heap.size,1,none⟩=some (.slice na f.nons.length nc)∧W.cell? ⟨rb,1,none⟩=some (.slice (some ⟨b3,o3,none⟩) r.goes.length gc)∧W.cell? ⟨gb,0,none⟩=some (.int .i64 g1)∧W.cell? ⟨gb,1,none⟩=some (.int .i64 g2)∧W.cell? ⟨b3,o3+(k - 1) * 2,none⟩=some (.int .i64 p)) 42 (by kernel_rfl) 42 rfl ?_
      refine tk 0 ⟨some 76,.fieldAddr 75 (.tmp 10) 0,0, "ref.go:124",#[],none⟩ hS0 ?_;simp only [Act.put,sA,s0,sS]
      refine tk 1 ⟨some 77,.load 3 (.tmp 76),3, "ref.go:124",#[⟨0,.data⟩],none⟩ hS0 ?_;simp only [Act.put,sA,s0,sS]
      refine tk 2 ⟨some 78,.binOp .lss 3 (.tmp 77) (.const (.int .i64 0)) 3,4, "ref.go:124",#[⟨1,.data⟩],none⟩ hS0 ?_;simp only [Act.put,sA,s0,sS]
      refine tk 3 ⟨some 79,.move (.tmp 78),4, "ref.go:124",#[⟨2,.data⟩],none⟩ hS0 ?_;simp only [Act.put,sA,s0,sS]
      refine tk 4 ⟨some 80,.fieldAddr 75 (.tmp 10) 0,0, "ref.go:124",#[⟨3,.guard⟩],some (3,false)⟩ hS0 ?_;simp only [Act.put,sA,s0,sS]
      refine tk 5 ⟨some 81,.load 3 (.tmp 80),3, "ref.go:124",#[⟨4,.data⟩,⟨3,.guard⟩],some (3,false)⟩ hS0 ?_;simp only [Act.put,sA,s0,sS]
      refine tk 6 ⟨some 82,.fieldAddr 25 (.tmp 2) 0,0, "ref.go:124",#[⟨3,.guard⟩],some (3,false)⟩ hS0 ?_;simp only [Act.put,sA,s0,sS]
      refine tk 7 ⟨some 83,.load 22 (.tmp 82),22, "ref.go:124",#[⟨6,.data⟩,⟨3,.guard⟩],some (3,false)⟩ hS0 ?_;simp only [Act.put,sA,s0,sS]
      refine tk 8 ⟨some 84,.call ⟨.builtin .len,#[.tmp 83],#[22]⟩,3, "ref.go:124",#[⟨7,.data⟩,⟨3,.guard⟩],some (3,false)⟩ hS0 ?_;simp only [Act.put,sA,s0,sS]
      refine tk 9 ⟨some 85,.fieldAddr 25 (.tmp 2) 1,0, "ref.go:124",#[⟨3,.guard⟩],some (3,false)⟩ hS0 ?_;simp only [Act.put,sA,s0,sS]
      refine tk 10 ⟨some 86,.load 22 (.tmp 85),22, "ref.go:124",#[⟨9,.data⟩,⟨3,.guard⟩],some (3,false)⟩ hS0 ?_;simp only [Act.put,sA,s0,sS]
      refine tk 11 ⟨some 87,.call ⟨.builtin .len,#[.tmp 86],#[22]⟩,3, "ref.go:124",#[⟨10,.data⟩,⟨3,.guard⟩],some (3,false)⟩ hS0 ?_;simp only [Act.put,sA,s0,sS]
      refine tk 12 ⟨some 88,.binOp .add 3 (.tmp 84) (.tmp 87) 3,3, "ref.go:124",#[⟨8,.data⟩,⟨11,.data⟩,⟨3,.guard⟩],some (3,false)⟩ hS0 ?_;simp only [Act.put,sA,s0,sS]
      try simp only [hsum]
      refine tk 13 ⟨some 89,.binOp .geq 3 (.tmp 81) (.tmp 88) 3,4, "ref.go:124",#[⟨5,.data⟩,⟨12,.data⟩,⟨3,.guard⟩],some (3,false)⟩ hS0 ?_;simp only [Act.put,sA,s0,sS]
      refine tk 14 ⟨some 90,.pick (.tmp 79) (.const (.bool true)) (.tmp 89),4, "ref.go:124",#[⟨3,.data⟩,⟨13,.data⟩],none⟩ hS0 ?_;simp only [Act.put,sA,s0,sS]
      refine tk 15 ⟨some 91,.move (.tmp 90),4, "ref.go:124",#[⟨14,.data⟩,⟨3,.chain⟩],none⟩ hS0 ?_;simp only [Act.put,sA,s0,sS]
      refine tk 16 ⟨some 92,.fieldAddr 75 (.tmp 10) 1,0, "ref.go:124",#[⟨15,.guard⟩],some (15,false)⟩ hS0 ?_;simp only [Act.put,sA,s0,sS]
      refine tk 17 ⟨some 93,.load 3 (.tmp 92),3, "ref.go:124",#[⟨16,.data⟩,⟨15,.guard⟩],some (15,false)⟩ hS0 ?_;simp only [Act.put,sA,s0,sS]
      refine tk 18 ⟨some 94,.binOp .lss 3 (.tmp 93) (.const (.int .i64 0)) 3,4, "ref.go:124",#[⟨17,.data⟩,⟨15,.guard⟩],some (15,false)⟩ hS0 ?_;simp only [Act.put,sA,s0,sS]
      refine tk 19 ⟨some 95,.pick (.tmp 91) (.const (.bool true)) (.tmp 94),4, "ref.go:124",#[⟨15,.data⟩,⟨18,.data⟩],none⟩ hS0 ?_;simp only [Act.put,sA,s0,sS]
      refine tk 20 ⟨some 96,.move (.tmp 95),4, "ref.go:124",#[⟨19,.data⟩,⟨15,.chain⟩],none⟩ hS0 ?_;simp only [Act.put,sA,s0,sS]
      refine tk 21 ⟨some 97,.fieldAddr 75 (.tmp 10) 1,0, "ref.go:124",#[⟨20,.guard⟩],some (20,false)⟩ hS0 ?_;simp only [Act.put,sA,s0,sS]
      refine tk 22 ⟨some 98,.load 3 (.tmp 97),3, "ref.go:124",#[⟨21,.data⟩,⟨20,.guard⟩],some (20,false)⟩ hS0 ?_;simp only [Act.put,sA,s0,sS]
      refine tk 23 ⟨some 99,.move (.tmp 5),3, "ref.go:124",#[⟨20,.guard⟩],some (20,false)⟩ hS0 ?_;simp only [Act.put,sA,s0,sS]
      refine tk 24 ⟨some 100,.binOp .geq 3 (.tmp 98) (.tmp 99) 3,4, "ref.go:124",#[⟨22,.data⟩,⟨23,.data⟩,⟨20,.guard⟩],some (20,false)⟩ hS0 ?_;simp only [Act.put,sA,s0,sS]
      refine tk 25 ⟨some 101,.pick (.tmp 96) (.const (.bool true)) (.tmp 100),4, "ref.go:124",#[⟨20,.data⟩,⟨24,.data⟩],none⟩ hS0 ?_;simp only [Act.put,sA,s0,sS]
      refine tk 26 ⟨some 102,.move (.tmp 101),4, "ref.go:124",#[⟨25,.data⟩,⟨20,.chain⟩],none⟩ hS0 ?_;simp only [Act.put,sA,s0,sS]
      refine tu 27 ⟨some 103,.move (.tmp 9),3, "ref.go:124",#[⟨26,.guard⟩],some (26,false)⟩ hS0 ?_;simp only [Act.put,sA,s0,sS]
      refine tu 28 ⟨some 104,.binOp .gtr 3 (.tmp 103) (.const (.int .i64 0)) 3,4, "ref.go:124",#[⟨27,.data⟩,⟨26,.guard⟩],some (26,false)⟩ hS0 ?_;simp only [Act.put,sA,s0,sS]
      refine tu 29 ⟨some 105,.move (.tmp 104),4, "ref.go:124",#[⟨28,.data⟩,⟨26,.chain⟩,⟨26,.guard⟩],some (26,false)⟩ hS0 ?_;simp only [Act.put,sA,s0,sS]
      refine tu 30 ⟨some 106,.fieldAddr 68 (.tmp 7) 1,0, "ref.go:124",#[⟨29,.guard⟩],some (29,true)⟩ hS0 ?_;simp only [Act.put,sA,s0,sS]
      refine tu 31 ⟨some 107,.load 66 (.tmp 106),66, "ref.go:124",#[⟨30,.data⟩,⟨29,.guard⟩],some (29,true)⟩ hS0 ?_;simp only [Act.put,sA,s0,sS]
      refine tu 32 ⟨some 108,.move (.tmp 9),3, "ref.go:124",#[⟨29,.guard⟩],some (29,true)⟩ hS0 ?_;simp only [Act.put,sA,s0,sS]
      refine tu 33 ⟨some 109,.binOp .sub 3 (.tmp 108) (.const (.int .i64 1)) 3,3, "ref.go:124",#[⟨32,.data⟩,⟨29,.guard⟩],some (29,true)⟩ hS0 ?_;simp only [Act.put,sA,s0,sS]
      refine tu 34 ⟨some 110,.indexAddr 66 (.tmp 107) (.tmp 109),0, "ref.go:124",#[⟨31,.data⟩,⟨33,.data⟩,⟨29,.guard⟩],some (29,true)⟩ hS0 ?_;simp only [Act.put,sA,s0,sS]
      refine tu 35 ⟨some 111,.fieldAddr 75 (.tmp 110) 0,0, "ref.go:124",#[⟨34,.data⟩,⟨29,.guard⟩],some (29,true)⟩ hS0 ?_;simp only [Act.put,sA,s0,sS]
      refine tu 36 ⟨some 112,.load 3 (.tmp 111),3, "ref.go:124",#[⟨35,.data⟩,⟨29,.guard⟩],some (29,true)⟩ hS0 ?_;simp only [Act.put,sA,s0,sS]
      refine tu 37 ⟨some 113,.fieldAddr 75 (.tmp 10) 0,0, "ref.go:124",#[⟨29,.guard⟩],some (29,true)⟩ hS0 ?_;simp only [Act.put,sA,s0,sS]
      refine tu 38 ⟨some 114,.load 3 (.tmp 113),3, "ref.go:124",#[⟨37,.data⟩,⟨29,.guard⟩],some (29,true)⟩ hS0 ?_;simp only [Act.put,sA,s0,sS]
      refine tu 39 ⟨some 115,.binOp .geq 3 (.tmp 112) (.tmp 114) 3,4, "ref.go:124",#[⟨36,.data⟩,⟨38,.data⟩,⟨29,.guard⟩],some (29,true)⟩ hS0 ?_;simp only [Act.put,sA,s0,sS]
      refine tu 40 ⟨some 116,.pick (.tmp 105) (.tmp 115) (.const (.bool false)),4, "ref.go:124",#[⟨29,.data⟩,⟨39,.data⟩,⟨26,.guard⟩],some (26,false)⟩ hS0 ?_;simp only [Act.put,sA,s0,sS]
      refine tk 41 ⟨some 117,.pick (.tmp 102) (.const (.bool true)) (.tmp 116),4, "ref.go:124",#[⟨26,.data⟩,⟨40,.data⟩],none⟩ hS0 ?_;simp only [Act.put,sA,s0,sS]
      refine wpAnyL_done (by kernel_rfl) ?_ _
      go_wp2_with fail
      go_meet
      exact ⟨by rw [HE.out]; rfl,rfl⟩
    have g4':decide ((l.length:Int)≤g2)=false:=decide_eq_false c4
    by_cases c5:(0:Int)<(k:Int)
    · have hw2:=hw1 (by omega)
      have g5':decide ((0:Int)<(k:Int))=true:=decide_eq_true c5
      have g6:0<k:=by omega
      have g5:decide (0<k)=true:=decide_eq_true g6
      by_cases c6:g1≤p
      · have g6':decide (g1≤p)=true:=decide_eq_true c6
        have HE:Hid (GB=false):=HGN.out (fun h=>by have:=h.2.2.2.2 g6; omega)
        clear HGN HGY hw1
        refine wp_region_L (fun W=>W.cell? ⟨w.heap.size,0,none⟩=some (.slice ta f.terms.length tc)∧W.cell? ⟨w.heap.size,1,none⟩=some (.slice na f.nons.length nc)∧W.cell? ⟨rb,1,none⟩=some (.slice (some ⟨b3,o3,none⟩) r.goes.length gc)∧W.cell? ⟨gb,0,none⟩=some (.int .i64 g1)∧W.cell? ⟨gb,1,none⟩=some (.int .i64 g2)∧W.cell? ⟨b3,o3+(k - 1) * 2,none⟩=some (.int .i64 p)) 42 (by kernel_rfl) 42 rfl ?_
        refine tk 0 ⟨some 76,.fieldAddr 75 (.tmp 10) 0,0, "ref.go:124",#[],none⟩ hS0 ?_;simp only [Act.put,sA,s0,sS]
        refine tk 1 ⟨some 77,.load 3 (.tmp 76),3, "ref.go:124",#[⟨0,.data⟩],none⟩ hS0 ?_;simp only [Act.put,sA,s0,sS]
        refine tk 2 ⟨some 78,.binOp .lss 3 (.tmp 77) (.const (.int .i64 0)) 3,4, "ref.go:124",#[⟨1,.data⟩],none⟩ hS0 ?_;simp only [Act.put,sA,s0,sS]
        refine tk 3 ⟨some 79,.move (.tmp 78),4, "ref.go:124",#[⟨2,.data⟩],none⟩ hS0 ?_;simp only [Act.put,sA,s0,sS]
        refine tk 4 ⟨some 80,.fieldAddr 75 (.tmp 10) 0,0, "ref.go:124",#[⟨3,.guard⟩],some (3,false)⟩ hS0 ?_;simp only [Act.put,sA,s0,sS]
        refine tk 5 ⟨some 81,.load 3 (.tmp 80),3, "ref.go:124",#[⟨4,.data⟩,⟨3,.guard⟩],some (3,false)⟩ hS0 ?_;simp only [Act.put,sA,s0,sS]
        refine tk 6 ⟨some 82,.fieldAddr 25 (.tmp 2) 0,0, "ref.go:124",#[⟨3,.guard⟩],some (3,false)⟩ hS0 ?_;simp only [Act.put,sA,s0,sS]
        refine tk 7 ⟨some 83,.load 22 (.tmp 82),22, "ref.go:124",#[⟨6,.data⟩,⟨3,.guard⟩],some (3,false)⟩ hS0 ?_;simp only [Act.put,sA,s0,sS]
        refine tk 8 ⟨some 84,.call ⟨.builtin .len,#[.tmp 83],#[22]⟩,3, "ref.go:124",#[⟨7,.data⟩,⟨3,.guard⟩],some (3,false)⟩ hS0 ?_;simp only [Act.put,sA,s0,sS]
        refine tk 9 ⟨some 85,.fieldAddr 25 (.tmp 2) 1,0, "ref.go:124",#[⟨3,.guard⟩],some (3,false)⟩ hS0 ?_;simp only [Act.put,sA,s0,sS]
        refine tk 10 ⟨some 86,.load 22 (.tmp 85),22, "ref.go:124",#[⟨9,.data⟩,⟨3,.guard⟩],some (3,false)⟩ hS0 ?_;simp only [Act.put,sA,s0,sS]
        refine tk 11 ⟨some 87,.call ⟨.builtin .len,#[.tmp 86],#[22]⟩,3, "ref.go:124",#[⟨10,.data⟩,⟨3,.guard⟩],some (3,false)⟩ hS0 ?_;simp only [Act.put,sA,s0,sS]
        refine tk 12 ⟨some 88,.binOp .add 3 (.tmp 84) (.tmp 87) 3,3, "ref.go:124",#[⟨8,.data⟩,⟨11,.data⟩,⟨3,.guard⟩],some (3,false)⟩ hS0 ?_;simp only [Act.put,sA,s0,sS]
        try simp only [hsum]
        refine tk 13 ⟨some 89,.binOp .geq 3 (.tmp 81) (.tmp 88) 3,4, "ref.go:124",#[⟨5,.data⟩,⟨12,.data⟩,⟨3,.guard⟩],some (3,false)⟩ hS0 ?_;simp only [Act.put,sA,s0,sS]
        refine tk 14 ⟨some 90,.pick (.tmp 79) (.const (.bool true)) (.tmp 89),4, "ref.go:124",#[⟨3,.data⟩,⟨13,.data⟩],none⟩ hS0 ?_;simp only [Act.put,sA,s0,sS]
        refine tk 15 ⟨some 91,.move (.tmp 90),4, "ref.go:124",#[⟨14,.data⟩,⟨3,.chain⟩],none⟩ hS0 ?_;simp only [Act.put,sA,s0,sS]
        refine tk 16 ⟨some 92,.fieldAddr 75 (.tmp 10) 1,0, "ref.go:124",#[⟨15,.guard⟩],some (15,false)⟩ hS0 ?_;simp only [Act.put,sA,s0,sS]
        refine tk 17 ⟨some 93,.load 3 (.tmp 92),3, "ref.go:124",#[⟨16,.data⟩,⟨15,.guard⟩],some (15,false)⟩ hS0 ?_;simp only [Act.put,sA,s0,sS]
        refine tk 18 ⟨some 94,.binOp .lss 3 (.tmp 93) (.const (.int .i64 0)) 3,4, "ref.go:124",#[⟨17,.data⟩,⟨15,.guard⟩],some (15,false)⟩ hS0 ?_;simp only [Act.put,sA,s0,sS]
        refine tk 19 ⟨some 95,.pick (.tmp 91) (.const (.bool true)) (.tmp 94),4, "ref.go:124",#[⟨15,.data⟩,⟨18,.data⟩],none⟩ hS0 ?_;simp only [Act.put,sA,s0,sS]
        refine tk 20 ⟨some 96,.move (.tmp 95),4, "ref.go:124",#[⟨19,.data⟩,⟨15,.chain⟩],none⟩ hS0 ?_;simp only [Act.put,sA,s0,sS]
        refine tk 21 ⟨some 97,.fieldAddr 75 (.tmp 10) 1,0, "ref.go:124",#[⟨20,.guard⟩],some (20,false)⟩ hS0 ?_;simp only [Act.put,sA,s0,sS]
        refine tk 22 ⟨some 98,.load 3 (.tmp 97),3, "ref.go:124",#[⟨21,.data⟩,⟨20,.guard⟩],some (20,false)⟩ hS0 ?_;simp only [Act.put,sA,s0,sS]
        refine tk 23 ⟨some 99,.move (.tmp 5),3, "ref.go:124",#[⟨20,.guard⟩],some (20,false)⟩ hS0 ?_;simp only [Act.put,sA,s0,sS]
        refine tk 24 ⟨some 100,.binOp .geq 3 (.tmp 98) (.tmp 99) 3,4, "ref.go:124",#[⟨22,.data⟩,⟨23,.data⟩,⟨20,.guard⟩],some (20,false)⟩ hS0 ?_;simp only [Act.put,sA,s0,sS]
        refine tk 25 ⟨some 101,.pick (.tmp 96) (.const (.bool true)) (.tmp 100),4, "ref.go:124",#[⟨20,.data⟩,⟨24,.data⟩],none⟩ hS0 ?_;simp only [Act.put,sA,s0,sS]
        refine tk 26 ⟨some 102,.move (.tmp 101),4, "ref.go:124",#[⟨25,.data⟩,⟨20,.chain⟩],none⟩ hS0 ?_;simp only [Act.put,sA,s0,sS]
        refine tk 27 ⟨some 103,.move (.tmp 9),3, "ref.go:124",#[⟨26,.guard⟩],some (26,false)⟩ hS0 ?_;simp only [Act.put,sA,s0,sS]
        refine tk 28 ⟨some 104,.binOp .gtr 3 (.tmp 103) (.const (.int .i64 0)) 3,4, "ref.go:124",#[⟨27,.data⟩,⟨26,.guard⟩],some (26,false)⟩ hS0 ?_;simp only [Act.put,sA,s0,sS]
        refine tk 29 ⟨some 105,.move (.tmp 104),4, "ref.go:124",#[⟨28,.data⟩,⟨26,.chain⟩,⟨26,.guard⟩],some (26,false)⟩ hS0 ?_;simp only [Act.put,sA,s0,sS]
        refine tk 30 ⟨some 106,.fieldAddr 68 (.tmp 7) 1,0, "ref.go:124",#[⟨29,.guard⟩],some (29,true)⟩ hS0 ?_;simp only [Act.put,sA,s0,sS]
        refine tk 31 ⟨some 107,.load 66 (.tmp 106),66, "ref.go:124",#[⟨30,.data⟩,⟨29,.guard⟩],some (29,true)⟩ hS0 ?_;simp only [Act.put,sA,s0,sS]
        refine tk 32 ⟨some 108,.move (.tmp 9),3, "ref.go:124",#[⟨29,.guard⟩],some (29,true)⟩ hS0 ?_;simp only [Act.put,sA,s0,sS]
        refine tk 33 ⟨some 109,.binOp .sub 3 (.tmp 108) (.const (.int .i64 1)) 3,3, "ref.go:124",#[⟨32,.data⟩,⟨29,.guard⟩],some (29,true)⟩ hS0 ?_;simp only [Act.put,sA,s0,sS]
        try simp only [hw2]
        refine tk 34 ⟨some 110,.indexAddr 66 (.tmp 107) (.tmp 109),0, "ref.go:124",#[⟨31,.data⟩,⟨33,.data⟩,⟨29,.guard⟩],some (29,true)⟩ hS0 ?_;simp only [Act.put,sA,s0,sS]
        refine tk 35 ⟨some 111,.fieldAddr 75 (.tmp 110) 0,0, "ref.go:124",#[⟨34,.data⟩,⟨29,.guard⟩],some (29,true)⟩ hS0 ?_;simp only [Act.put,sA,s0,sS]
        refine tk 36 ⟨some 112,.load 3 (.tmp 111),3, "ref.go:124",#[⟨35,.data⟩,⟨29,.guard⟩],some (29,true)⟩ hS0 ?_;simp only [Act.put,sA,s0,sS]
        refine tk 37 ⟨some 113,.fieldAddr 75 (.tmp 10) 0,0, "ref.go:124",#[⟨29,.guard⟩],some (29,true)⟩ hS0 ?_;simp only [Act.put,sA,s0,sS]
        refine tk 38 ⟨some 114,.load 3 (.tmp 113),3, "ref.go:124",#[⟨37,.data⟩,⟨29,.guard⟩],some (29,true)⟩ hS0 ?_;simp only [Act.put,sA,s0,sS]
        refine tk 39 ⟨some 115,.binOp .geq 3 (.tmp 112) (.tmp 114) 3,4, "ref.go:124",#[⟨36,.data⟩,⟨38,.data⟩,⟨29,.guard⟩],some (29,true)⟩ hS0 ?_;simp only [Act.put,sA,s0,sS]
        refine tk 40 ⟨some 116,.pick (.tmp 105) (.tmp 115) (.const (.bool false)),4, "ref.go:124",#[⟨29,.data⟩,⟨39,.data⟩,⟨26,.guard⟩],some (26,false)⟩ hS0 ?_;simp only [Act.put,sA,s0,sS]
        refine tk 41 ⟨some 117,.pick (.tmp 102) (.const (.bool true)) (.tmp 116),4, "ref.go:124",#[⟨26,.data⟩,⟨40,.data⟩],none⟩ hS0 ?_;simp only [Act.put,sA,s0,sS]
        refine wpAnyL_done (by kernel_rfl) ?_ _
        go_wp2_with fail
        go_meet
        exact ⟨by rw [HE.out]; rfl,rfl⟩
      · have g6':decide (g1≤p)=false:=decide_eq_false c6
        have HE:Hid (GB=true):=HGY.out ⟨by omega,by omega,by omega,by omega,fun _=>by omega⟩
        clear HGN HGY hw1
        refine wp_region_L (fun W=>W.cell? ⟨w.heap.size,0,none⟩=some (.slice ta f.terms.length tc)∧W.cell? ⟨w.heap.size,1,none⟩=some (.slice na f.nons.length nc)∧W.cell? ⟨rb,1,none⟩=some (.slice (some ⟨b3,o3,none⟩) r.goes.length gc)∧W.cell? ⟨gb,0,none⟩=some (.int .i64 g1)∧W.cell? ⟨gb,1,none⟩=some (.int .i64 g2)∧W.cell? ⟨b3,o3+(k - 1) * 2,none⟩=some (.int .i64 p)) 42 (by kernel_rfl) 42 rfl ?_
        refine tk 0 ⟨some 76,.fieldAddr 75 (.tmp 10) 0,0, "ref.go:124",#[],none⟩ hS0 ?_;simp only [Act.put,sA,s0,sS]
        refine tk 1 ⟨some 77,.load 3 (.tmp 76),3, "ref.go:124",#[⟨0,.data⟩],none⟩ hS0 ?_;simp only [Act.put,sA,s0,sS]
        refine tk 2 ⟨some 78,.binOp .lss 3 (.tmp 77) (.const (.int .i64 0)) 3,4, "ref.go:124",#[⟨1,.data⟩],none⟩ hS0 ?_;simp only [Act.put,sA,s0,sS]
        refine tk 3 ⟨some 79,.move (.tmp 78),4, "ref.go:124",#[⟨2,.data⟩],none⟩ hS0 ?_;simp only [Act.put,sA,s0,sS]
        refine tk 4 ⟨some 80,.fieldAddr 75 (.tmp 10) 0,0, "ref.go:124",#[⟨3,.guard⟩],some (3,false)⟩ hS0 ?_;simp only [Act.put,sA,s0,sS]
        refine tk 5 ⟨some 81,.load 3 (.tmp 80),3, "ref.go:124",#[⟨4,.data⟩,⟨3,.guard⟩],some (3,false)⟩ hS0 ?_;simp only [Act.put,sA,s0,sS]
        refine tk 6 ⟨some 82,.fieldAddr 25 (.tmp 2) 0,0, "ref.go:124",#[⟨3,.guard⟩],some (3,false)⟩ hS0 ?_;simp only [Act.put,sA,s0,sS]
        refine tk 7 ⟨some 83,.load 22 (.tmp 82),22, "ref.go:124",#[⟨6,.data⟩,⟨3,.guard⟩],some (3,false)⟩ hS0 ?_;simp only [Act.put,sA,s0,sS]
        refine tk 8 ⟨some 84,.call ⟨.builtin .len,#[.tmp 83],#[22]⟩,3, "ref.go:124",#[⟨7,.data⟩,⟨3,.guard⟩],some (3,false)⟩ hS0 ?_;simp only [Act.put,sA,s0,sS]
        refine tk 9 ⟨some 85,.fieldAddr 25 (.tmp 2) 1,0, "ref.go:124",#[⟨3,.guard⟩],some (3,false)⟩ hS0 ?_;simp only [Act.put,sA,s0,sS]
        refine tk 10 ⟨some 86,.load 22 (.tmp 85),22, "ref.go:124",#[⟨9,.data⟩,⟨3,.guard⟩],some (3,false)⟩ hS0 ?_;simp only [Act.put,sA,s0,sS]
        refine tk 11 ⟨some 87,.call ⟨.builtin .len,#[.tmp 86],#[22]⟩,3, "ref.go:124",#[⟨10,.data⟩,⟨3,.guard⟩],some (3,false)⟩ hS0 ?_;simp only [Act.put,sA,s0,sS]
        refine tk 12 ⟨some 88,.binOp .add 3 (.tmp 84) (.tmp 87) 3,3, "ref.go:124",#[⟨8,.data⟩,⟨11,.data⟩,⟨3,.guard⟩],some (3,false)⟩ hS0 ?_;simp only [Act.put,sA,s0,sS]
        try simp only [hsum]
        refine tk 13 ⟨some 89,.binOp .geq 3 (.tmp 81) (.tmp 88) 3,4, "ref.go:124",#[⟨5,.data⟩,⟨12,.data⟩,⟨3,.guard⟩],some (3,false)⟩ hS0 ?_;simp only [Act.put,sA,s0,sS]
        refine tk 14 ⟨some 90,.pick (.tmp 79) (.const (.bool true)) (.tmp 89),4, "ref.go:124",#[⟨3,.data⟩,⟨13,.data⟩],none⟩ hS0 ?_;simp only [Act.put,sA,s0,sS]
        refine tk 15 ⟨some 91,.move (.tmp 90),4, "ref.go:124",#[⟨14,.data⟩,⟨3,.chain⟩],none⟩ hS0 ?_;simp only [Act.put,sA,s0,sS]
        refine tk 16 ⟨some 92,.fieldAddr 75 (.tmp 10) 1,0, "ref.go:124",#[⟨15,.guard⟩],some (15,false)⟩ hS0 ?_;simp only [Act.put,sA,s0,sS]
        refine tk 17 ⟨some 93,.load 3 (.tmp 92),3, "ref.go:124",#[⟨16,.data⟩,⟨15,.guard⟩],some (15,false)⟩ hS0 ?_;simp only [Act.put,sA,s0,sS]
        refine tk 18 ⟨some 94,.binOp .lss 3 (.tmp 93) (.const (.int .i64 0)) 3,4, "ref.go:124",#[⟨17,.data⟩,⟨15,.guard⟩],some (15,false)⟩ hS0 ?_;simp only [Act.put,sA,s0,sS]
        refine tk 19 ⟨some 95,.pick (.tmp 91) (.const (.bool true)) (.tmp 94),4, "ref.go:124",#[⟨15,.data⟩,⟨18,.data⟩],none⟩ hS0 ?_;simp only [Act.put,sA,s0,sS]
        refine tk 20 ⟨some 96,.move (.tmp 95),4, "ref.go:124",#[⟨19,.data⟩,⟨15,.chain⟩],none⟩ hS0 ?_;simp only [Act.put,sA,s0,sS]
        refine tk 21 ⟨some 97,.fieldAddr 75 (.tmp 10) 1,0, "ref.go:124",#[⟨20,.guard⟩],some (20,false)⟩ hS0 ?_;simp only [Act.put,sA,s0,sS]
        refine tk 22 ⟨some 98,.load 3 (.tmp 97),3, "ref.go:124",#[⟨21,.data⟩,⟨20,.guard⟩],some (20,false)⟩ hS0 ?_;simp only [Act.put,sA,s0,sS]
        refine tk 23 ⟨some 99,.move (.tmp 5),3, "ref.go:124",#[⟨20,.guard⟩],some (20,false)⟩ hS0 ?_;simp only [Act.put,sA,s0,sS]
        refine tk 24 ⟨some 100,.binOp .geq 3 (.tmp 98) (.tmp 99) 3,4, "ref.go:124",#[⟨22,.data⟩,⟨23,.data⟩,⟨20,.guard⟩],some (20,false)⟩ hS0 ?_;simp only [Act.put,sA,s0,sS]
        refine tk 25 ⟨some 101,.pick (.tmp 96) (.const (.bool true)) (.tmp 100),4, "ref.go:124",#[⟨20,.data⟩,⟨24,.data⟩],none⟩ hS0 ?_;simp only [Act.put,sA,s0,sS]
        refine tk 26 ⟨some 102,.move (.tmp 101),4, "ref.go:124",#[⟨25,.data⟩,⟨20,.chain⟩],none⟩ hS0 ?_;simp only [Act.put,sA,s0,sS]
        refine tk 27 ⟨some 103,.move (.tmp 9),3, "ref.go:124",#[⟨26,.guard⟩],some (26,false)⟩ hS0 ?_;simp only [Act.put,sA,s0,sS]
        refine tk 28 ⟨some 104,.binOp .gtr 3 (.tmp 103) (.const (.int .i64 0)) 3,4, "ref.go:124",#[⟨27,.data⟩,⟨26,.guard⟩],some (26,false)⟩ hS0 ?_;simp only [Act.put,sA,s0,sS]
        refine tk 29 ⟨some 105,.move (.tmp 104),4, "ref.go:124",#[⟨28,.data⟩,⟨26,.chain⟩,⟨26,.guard⟩],some (26,false)⟩ hS0 ?_;simp only [Act.put,sA,s0,sS]
        refine tk 30 ⟨some 106,.fieldAddr 68 (.tmp 7) 1,0, "ref.go:124",#[⟨29,.guard⟩],some (29,true)⟩ hS0 ?_;simp only [Act.put,sA,s0,sS]
        refine tk 31 ⟨some 107,.load 66 (.tmp 106),66, "ref.go:124",#[⟨30,.data⟩,⟨29,.guard⟩],some (29,true)⟩ hS0 ?_;simp only [Act.put,sA,s0,sS]
        refine tk 32 ⟨some 108,.move (.tmp 9),3, "ref.go:124",#[⟨29,.guard⟩],some (29,true)⟩ hS0 ?_;simp only [Act.put,sA,s0,sS]
        refine tk 33 ⟨some 109,.binOp .sub 3 (.tmp 108) (.const (.int .i64 1)) 3,3, "ref.go:124",#[⟨32,.data⟩,⟨29,.guard⟩],some (29,true)⟩ hS0 ?_;simp only [Act.put,sA,s0,sS]
        try simp only [hw2]
        refine tk 34 ⟨some 110,.indexAddr 66 (.tmp 107) (.tmp 109),0, "ref.go:124",#[⟨31,.data⟩,⟨33,.data⟩,⟨29,.guard⟩],some (29,true)⟩ hS0 ?_;simp only [Act.put,sA,s0,sS]
        refine tk 35 ⟨some 111,.fieldAddr 75 (.tmp 110) 0,0, "ref.go:124",#[⟨34,.data⟩,⟨29,.guard⟩],some (29,true)⟩ hS0 ?_;simp only [Act.put,sA,s0,sS]
        refine tk 36 ⟨some 112,.load 3 (.tmp 111),3, "ref.go:124",#[⟨35,.data⟩,⟨29,.guard⟩],some (29,true)⟩ hS0 ?_;simp only [Act.put,sA,s0,sS]
        refine tk 37 ⟨some 113,.fieldAddr 75 (.tmp 10) 0,0, "ref.go:124",#[⟨29,.guard⟩],some (29,true)⟩ hS0 ?_;simp only [Act.put,sA,s0,sS]
        refine tk 38 ⟨some 114,.load 3 (.tmp 113),3, "ref.go:124",#[⟨37,.data⟩,⟨29,.guard⟩],some (29,true)⟩ hS0 ?_;simp only [Act.put,sA,s0,sS]
        refine tk 39 ⟨some 115,.binOp .geq 3 (.tmp 112) (.tmp 114) 3,4, "ref.go:124",#[⟨36,.data⟩,⟨38,.data⟩,⟨29,.guard⟩],some (29,true)⟩ hS0 ?_;simp only [Act.put,sA,s0,sS]
        refine tk 40 ⟨some 116,.pick (.tmp 105) (.tmp 115) (.const (.bool false)),4, "ref.go:124",#[⟨29,.data⟩,⟨39,.data⟩,⟨26,.guard⟩],some (26,false)⟩ hS0 ?_;simp only [Act.put,sA,s0,sS]
        refine tk 41 ⟨some 117,.pick (.tmp 102) (.const (.bool true)) (.tmp 116),4, "ref.go:124",#[⟨26,.data⟩,⟨40,.data⟩],none⟩ hS0 ?_;simp only [Act.put,sA,s0,sS]
        refine wpAnyL_done (by kernel_rfl) ?_ _
        go_wp2_with fail
        go_meet
        exact ⟨by rw [HE.out]; rfl,rfl⟩
    · have g5':decide ((0:Int)<(k:Int))=false:=decide_eq_false c5
      have g6:¬ 0<k:=by omega
      have g5:decide (0<k)=false:=decide_eq_false g6
      have HE:Hid (GB=true):=HGY.out ⟨by omega,by omega,by omega,by omega,fun h=>absurd h g6⟩
      clear HGN HGY hw1
      refine wp_region_L (fun W=>W.cell? ⟨w.heap.size,0,none⟩=some (.slice ta f.terms.length tc)∧W.cell? ⟨w.heap.size,1,none⟩=some (.slice na f.nons.length nc)∧W.cell? ⟨rb,1,none⟩=some (.slice (some ⟨b3,o3,none⟩) r.goes.length gc)∧W.cell? ⟨gb,0,none⟩=some (.int .i64 g1)∧W.cell? ⟨gb,1,none⟩=some (.int .i64 g2)∧W.cell? ⟨b3,o3+(k - 1) * 2,none⟩=some (.int .i64 p)) 42 (by kernel_rfl) 42 rfl ?_
      refine tk 0 ⟨some 76,.fieldAddr 75 (.tmp 10) 0,0, "ref.go:124",#[],none⟩ hS0 ?_;simp only [Act.put,sA,s0,sS]
      refine tk 1 ⟨some 77,.load 3 (.tmp 76),3, "ref.go:124",#[⟨0,.data⟩],none⟩ hS0 ?_;simp only [Act.put,sA,s0,sS]
      refine tk 2 ⟨some 78,.binOp .lss 3 (.tmp 77) (.const (.int .i64 0)) 3,4, "ref.go:124",#[⟨1,.data⟩],none⟩ hS0 ?_;simp only [Act.put,sA,s0,sS]
      refine tk 3 ⟨some 79,.move (.tmp 78),4, "ref.go:124",#[⟨2,.data⟩],none⟩ hS0 ?_;simp only [Act.put,sA,s0,sS]
      refine tk 4 ⟨some 80,.fieldAddr 75 (.tmp 10) 0,0, "ref.go:124",#[⟨3,.guard⟩],some (3,false)⟩ hS0 ?_;simp only [Act.put,sA,s0,sS]
      refine tk 5 ⟨some 81,.load 3 (.tmp 80),3, "ref.go:124",#[⟨4,.data⟩,⟨3,.guard⟩],some (3,false)⟩ hS0 ?_;simp only [Act.put,sA,s0,sS]
      refine tk 6 ⟨some 82,.fieldAddr 25 (.tmp 2) 0,0, "ref.go:124",#[⟨3,.guard⟩],some (3,false)⟩ hS0 ?_;simp only [Act.put,sA,s0,sS]
      refine tk 7 ⟨some 83,.load 22 (.tmp 82),22, "ref.go:124",#[⟨6,.data⟩,⟨3,.guard⟩],some (3,false)⟩ hS0 ?_;simp only [Act.put,sA,s0,sS]
      refine tk 8 ⟨some 84,.call ⟨.builtin .len,#[.tmp 83],#[22]⟩,3, "ref.go:124",#[⟨7,.data⟩,⟨3,.guard⟩],some (3,false)⟩ hS0 ?_;simp only [Act.put,sA,s0,sS]
      refine tk 9 ⟨some 85,.fieldAddr 25 (.tmp 2) 1,0, "ref.go:124",#[⟨3,.guard⟩],some (3,false)⟩ hS0 ?_;simp only [Act.put,sA,s0,sS]
      refine tk 10 ⟨some 86,.load 22 (.tmp 85),22, "ref.go:124",#[⟨9,.data⟩,⟨3,.guard⟩],some (3,false)⟩ hS0 ?_;simp only [Act.put,sA,s0,sS]
      refine tk 11 ⟨some 87,.call ⟨.builtin .len,#[.tmp 86],#[22]⟩,3, "ref.go:124",#[⟨10,.data⟩,⟨3,.guard⟩],some (3,false)⟩ hS0 ?_;simp only [Act.put,sA,s0,sS]
      refine tk 12 ⟨some 88,.binOp .add 3 (.tmp 84) (.tmp 87) 3,3, "ref.go:124",#[⟨8,.data⟩,⟨11,.data⟩,⟨3,.guard⟩],some (3,false)⟩ hS0 ?_;simp only [Act.put,sA,s0,sS]
      try simp only [hsum]
      refine tk 13 ⟨some 89,.binOp .geq 3 (.tmp 81) (.tmp 88) 3,4, "ref.go:124",#[⟨5,.data⟩,⟨12,.data⟩,⟨3,.guard⟩],some (3,false)⟩ hS0 ?_;simp only [Act.put,sA,s0,sS]
      refine tk 14 ⟨some 90,.pick (.tmp 79) (.const (.bool true)) (.tmp 89),4, "ref.go:124",#[⟨3,.data⟩,⟨13,.data⟩],none⟩ hS0 ?_;simp only [Act.put,sA,s0,sS]
      refine tk 15 ⟨some 91,.move (.tmp 90),4, "ref.go:124",#[⟨14,.data⟩,⟨3,.chain⟩],none⟩ hS0 ?_;simp only [Act.put,sA,s0,sS]
      refine tk 16 ⟨some 92,.fieldAddr 75 (.tmp 10) 1,0, "ref.go:124",#[⟨15,.guard⟩],some (15,false)⟩ hS0 ?_;simp only [Act.put,sA,s0,sS]
      refine tk 17 ⟨some 93,.load 3 (.tmp 92),3, "ref.go:124",#[⟨16,.data⟩,⟨15,.guard⟩],some (15,false)⟩ hS0 ?_;simp only [Act.put,sA,s0,sS]
      refine tk 18 ⟨some 94,.binOp .lss 3 (.tmp 93) (.const (.int .i64 0)) 3,4, "ref.go:124",#[⟨17,.data⟩,⟨15,.guard⟩],some (15,false)⟩ hS0 ?_;simp only [Act.put,sA,s0,sS]
      refine tk 19 ⟨some 95,.pick (.tmp 91) (.const (.bool true)) (.tmp 94),4, "ref.go:124",#[⟨15,.data⟩,⟨18,.data⟩],none⟩ hS0 ?_;simp only [Act.put,sA,s0,sS]
      refine tk 20 ⟨some 96,.move (.tmp 95),4, "ref.go:124",#[⟨19,.data⟩,⟨15,.chain⟩],none⟩ hS0 ?_;simp only [Act.put,sA,s0,sS]
      refine tk 21 ⟨some 97,.fieldAddr 75 (.tmp 10) 1,0, "ref.go:124",#[⟨20,.guard⟩],some (20,false)⟩ hS0 ?_;simp only [Act.put,sA,s0,sS]
      refine tk 22 ⟨some 98,.load 3 (.tmp 97),3, "ref.go:124",#[⟨21,.data⟩,⟨20,.guard⟩],some (20,false)⟩ hS0 ?_;simp only [Act.put,sA,s0,sS]
      refine tk 23 ⟨some 99,.move (.tmp 5),3, "ref.go:124",#[⟨20,.guard⟩],some (20,false)⟩ hS0 ?_;simp only [Act.put,sA,s0,sS]
      refine tk 24 ⟨some 100,.binOp .geq 3 (.tmp 98) (.tmp 99) 3,4, "ref.go:124",#[⟨22,.data⟩,⟨23,.data⟩,⟨20,.guard⟩],some (20,false)⟩ hS0 ?_;simp only [Act.put,sA,s0,sS]
      refine tk 25 ⟨some 101,.pick (.tmp 96) (.const (.bool true)) (.tmp 100),4, "ref.go:124",#[⟨20,.data⟩,⟨24,.data⟩],none⟩ hS0 ?_;simp only [Act.put,sA,s0,sS]
      refine tk 26 ⟨some 102,.move (.tmp 101),4, "ref.go:124",#[⟨25,.data⟩,⟨20,.chain⟩],none⟩ hS0 ?_;simp only [Act.put,sA,s0,sS]
      refine tk 27 ⟨some 103,.move (.tmp 9),3, "ref.go:124",#[⟨26,.guard⟩],some (26,false)⟩ hS0 ?_;simp only [Act.put,sA,s0,sS]
      refine tk 28 ⟨some 104,.binOp .gtr 3 (.tmp 103) (.const (.int .i64 0)) 3,4, "ref.go:124",#[⟨27,.data⟩,⟨26,.guard⟩],some (26,false)⟩ hS0 ?_;simp only [Act.put,sA,s0,sS]
      refine tk 29 ⟨some 105,.move (.tmp 104),4, "ref.go:124",#[⟨28,.data⟩,⟨26,.chain⟩,⟨26,.guard⟩],some (26,false)⟩ hS0 ?_;simp only [Act.put,sA,s0,sS]
      refine tu 30 ⟨some 106,.fieldAddr 68 (.tmp 7) 1,0, "ref.go:124",#[⟨29,.guard⟩],some (29,true)⟩ hS0 ?_;simp only [Act.put,sA,s0,sS]
      refine tu 31 ⟨some 107,.load 66 (.tmp 106),66, "ref.go:124",#[⟨30,.data⟩,⟨29,.guard⟩],some (29,true)⟩ hS0 ?_;simp only [Act.put,sA,s0,sS]
      refine tu 32 ⟨some 108,.move (.tmp 9),3, "ref.go:124",#[⟨29,.guard⟩],some (29,true)⟩ hS0 ?_;simp only [Act.put,sA,s0,sS]
      refine tu 33 ⟨some 109,.binOp .sub 3 (.tmp 108) (.const (.int .i64 1)) 3,3, "ref.go:124",#[⟨32,.data⟩,⟨29,.guard⟩],some (29,true)⟩ hS0 ?_;simp only [Act.put,sA,s0,sS]
      refine tu 34 ⟨some 110,.indexAddr 66 (.tmp 107) (.tmp 109),0, "ref.go:124",#[⟨31,.data⟩,⟨33,.data⟩,⟨29,.guard⟩],some (29,true)⟩ hS0 ?_;simp only [Act.put,sA,s0,sS]
      refine tu 35 ⟨some 111,.fieldAddr 75 (.tmp 110) 0,0, "ref.go:124",#[⟨34,.data⟩,⟨29,.guard⟩],some (29,true)⟩ hS0 ?_;simp only [Act.put,sA,s0,sS]
      refine tu 36 ⟨some 112,.load 3 (.tmp 111),3, "ref.go:124",#[⟨35,.data⟩,⟨29,.guard⟩],some (29,true)⟩ hS0 ?_;simp only [Act.put,sA,s0,sS]
      refine tu 37 ⟨some 113,.fieldAddr 75 (.tmp 10) 0,0, "ref.go:124",#[⟨29,.guard⟩],some (29,true)⟩ hS0 ?_;simp only [Act.put,sA,s0,sS]
      refine tu 38 ⟨some 114,.load 3 (.tmp 113),3, "ref.go:124",#[⟨37,.data⟩,⟨29,.guard⟩],some (29,true)⟩ hS0 ?_;simp only [Act.put,sA,s0,sS]
      refine tu 39 ⟨some 115,.binOp .geq 3 (.tmp 112) (.tmp 114) 3,4, "ref.go:124",#[⟨36,.data⟩,⟨38,.data⟩,⟨29,.guard⟩],some (29,true)⟩ hS0 ?_;simp only [Act.put,sA,s0,sS]
      refine tk 40 ⟨some 116,.pick (.tmp 105) (.tmp 115) (.const (.bool false)),4, "ref.go:124",#[⟨29,.data⟩,⟨39,.data⟩,⟨26,.guard⟩],some (26,false)⟩ hS0 ?_;simp only [Act.put,sA,s0,sS]
      refine tk 41 ⟨some 117,.pick (.tmp 102) (.const (.bool true)) (.tmp 116),4, "ref.go:124",#[⟨26,.data⟩,⟨40,.data⟩],none⟩ hS0 ?_;simp only [Act.put,sA,s0,sS]
      refine wpAnyL_done (by kernel_rfl) ?_ _
      go_wp2_with fail
      go_meet
      exact ⟨by rw [HE.out]; rfl,rfl⟩
  case rest =>
  obtain ⟨rfl,rfl⟩:=hcut
  have BD:=BY.drew
  cases GB with
  | false =>
    have HE:Hid (R=false):=HN1.out (fun h=>by have:=HGB.out.1 h; cases this)
    have QB:=(HX.out _ BD).2.2.2.2
    clear HN1 HY1 HRN2 HTO2 HX HAC HGN HGY HGB hS0 hw1 hsum
    go_wp2_with fail
    go_ret
    exact ⟨by rw [HE.out]; rfl,QB⟩
  | true =>
    have HE:Hid (goTo (f.terms.length+f.nons.length) l.length r.goes (k+1)):=HY1.out (HGB.out.2 rfl)
    clear HN1 HY1 HRN2 HTO2 HX HAC HGN HGY HGB hS0 hw1 hsum
    go_wp2_with fail
    exact ⟨⟨k+1,by go_num,by omega,HE.out,BD⟩,by simp [intOf]; omega⟩
end Go.Proofs.YtbilbgjojdlobaaGreatDoor
