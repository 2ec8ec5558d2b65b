import Derived.Test.YtiamjafecbpfpaaGreatDoorJ01
import Derived.Test.YtiamjafecbpfpaaGreatDoorJ03
import Derived.Test.YtiamjafecbpfpaaGreatDoorJ04
import Derived.Test.YtiamjafecbpfpaaGreatDoorJ05
import Derived.Test.YtiamjafecbpfpaaGreatDoorJ10
import Derived.Test.YtiamjafecbpfpaaGreatDoorJ12

namespace Go.Proofs.YtiamjafecbpfpaaGreatDoor
open Go.RowKit
def Dt (w0:World) (g:Nat) (ns:List Int) (W:World):Prop:=DW w0.heap.size g ns W∧Below w0.heap.size w0 W
theorem Dt.next {w0 W W':World} {g:Nat} {ns:List Int} (h:Dt w0 g ns W) (hb:Below W.heap.size W W'):Dt w0 g ns W':=⟨h.1.next hb,h.2.trans (hb.mono h.2.size)⟩
theorem Dt.lt {w0 W:World} {g:Nat} {ns:List Int} (h:Dt w0 g ns W):g<W.heap.size:=h.1.lt
theorem Dt.new {w0 W W':World} {g:Nat} {ns:List Int} (h:Dt w0 g ns W) (hb:Below W.heap.size W W') (k:Nat) (hk:W.heap.size≤k):¬ inD g W' k:=fun hin=>by
  have:=(h.1.inLt ((inD_same (hb.block g h.lt) k).1 hin)).2
  omega
theorem dnum_any {w0 W:World} {g:Nat} {ns:List Int} (n:Int) (h:Dt w0 g ns W) (hb:ns.length+1≤70368744177664) :
    Calls Tryz.prog 22 #[.pointer (some ⟨g,0,none⟩),.int .i64 n] W fun e w'=>e=.returned (.tuple #[])∧Dt w0 g (ns++[n]) w'∧DWrote g W w':=by
  refine (rwnum_any n h.1 h.2.size hb).mono ?_
  rintro e w' ⟨rfl,h1,h2⟩
  exact ⟨rfl,⟨h1,h.2.trans (h.1.below h2 h.2.size)⟩,h2⟩
theorem conv_own {B:Nat} {bs:List UInt8} {vb:Value} {W:World} (ho:OwnB B bs vb W) (hp:0<bs.length):(convert 67 9 vb).run Tryz.prog W=.ok (.string ⟨bs.toArray⟩) W:=by
  obtain ⟨h1,h2⟩:=id ho
  rcases h2 with ⟨e,hn⟩ | ⟨g,cap,cur,e,hB,hg,h3⟩
  · omega
  · subst e
    refine run_convert_bytes_back W _ _ 5 ⟨g,0,none⟩ cap bs Tryz.underlying67 Tryz.underlying5 Tryz.underlying9 (fun i hi=>?_)
    exact World.ownsRow.cells ho (g:=g) rfl i _ (by simp [hi,encU8])
theorem flat_pre_bad {l:List Rw} {i:Nat} (h:badN ([(l.length:Int)]++(l.take i).flatMap numsR)=true):badN (numsT l)=true:=by
  have e:l.flatMap numsR=(l.take i).flatMap numsR++(l.drop i).flatMap numsR:=by rw [← List.flatMap_append,List.take_append_drop]
  unfold numsT
  rw [e,← List.append_assoc,badN_append,h]
  rfl
set_option maxRecDepth 100000 in
set_option maxHeartbeats 4000000 in
theorem rencode_any (l:List Rw) (v:Value) (w:World) (hl:SlW l v w) (hb:(numsT l).length≤70368744177664) :
    Calls Tryz.prog 10 #[.agg #[v]] w fun e w'=>e=.returned (.string ⟨(encTab l).toArray⟩)∧Below w.heap.size w w':=by
  obtain ⟨la,lc,rfl,_,_,_,hl4⟩:=id hl
  have hnl:(numsT l).length=1+(l.flatMap numsR).length:=by simp [numsT]; omega
  rw [hnl] at hb
  obtain ⟨w0,hw0⟩:∃ w0,w.alloc (Obj.cells #[.slice la l.length lc] 24)=w0:=⟨_,rfl⟩
  have B0:Below w.heap.size w w0:=by rw [← hw0]; exact (Below.refl _ _).alloc (Nat.le_refl _) _
  have hz0:w0.heap.size=w.heap.size+1:=by rw [← hw0]; simp
  have b0:w0.heap[w.heap.size]?=some (Obj.cells #[.slice la l.length lc] 24):=by rw [← hw0]; exact heap_alloc_new _ _
  have HSW:Hid (SlW l (.slice la l.length lc) w0):=hl.next B0
  have HT0:Hid (∀ W,Below w0.heap.size w0 W→W.cell? ⟨w.heap.size,0,none⟩=some (.slice la l.length lc)∧Below w.heap.size w W):=fun W hW=>⟨(hW.cell (p:=⟨w.heap.size,0,none⟩) (by simp only; omega)).trans (by rw [Lib.cell_of_heap b0]; rfl),B0.trans (hW.mono B0.size)⟩
  have hD:=DW.one (B:=w0.heap.size) w0 (Nat.le_refl _)
  have B1:Below w0.heap.size w0 (w0.alloc (.cells #[.slice none 0 0,.bool false] 76)):=(Below.refl _ _).alloc (Nat.le_refl _) _
  have hDt:Dt w0 w0.heap.size [] (w0.alloc (.cells #[.slice none 0 0,.bool false] 76)):=⟨hD,B1⟩
  obtain ⟨g,hg⟩:∃ g,w0.heap.size=g:=⟨_,rfl⟩
  rw [hg] at hDt
  have HN:Hid (∀ (n:Int) (W:World) (ns:List Int),Dt w0 g ns W→ns.length+1≤70368744177664→Calls Tryz.prog 22 #[.pointer (some ⟨g,0,none⟩),.int .i64 n] W fun e w'=>e=.returned (.tuple #[])∧Dt w0 g (ns++[n]) w'∧DWrote g W w'):=fun n W ns h1 h2=>dnum_any n h1 h2
  have HC:=HN.out l.length _ [] hDt (by simp)
  obtain ⟨c0,_⟩:=HT0.out _ B1
  have HGG:Hid (w0.heap.size=g):=hg
  clear hl hnl hD B0 b0 hDt B1 hz0 hg
  go_enter Tryz.func10,Tryz.ntmps10
  go_upto_region 2 with fail
  try rw [hw0]
  rw [HGG.out]
  clear hw0
  generalize w0.alloc (.cells #[.slice none 0 0,.bool false] 76)=W1 at *
  go_wp2_with fail
  refine HC.mono ?_
  rintro e w1 ⟨rfl,k1,k2⟩
  clear HC c0 k2
  go_wp2_with fail
  go_loopw [4] (fun iv wr=>∃ (i:Nat),iv=.int .i64 i∧i≤l.length∧Dt w0 g ([(l.length:Int)]++(l.take i).flatMap numsR) wr) (fun i _=>l.length - (intOf i).toNat)
  case atStart=>exact ⟨0,rfl,Nat.zero_le _,by simpa using k1⟩
  case round =>
  clear k1
  obtain ⟨i,rfl,hi,hD⟩:=hrel
  obtain ⟨c0,BW⟩:=HT0.out _ hD.2
  have cb:=hD.1.bad
  have hfin:∀ (b:Bool),badN ([(l.length:Int)]++(l.take i).flatMap numsR)=b→(b=true∨i=l.length)→(b=true→encTab l=[])∧(b=false→∃ vb,wr.cell? ⟨g,0,none⟩=some vb∧(convert 67 9 vb).run Tryz.prog wr=.ok (.string ⟨(encTab l).toArray⟩) wr):=fun b hb1 hb2=>by
    refine ⟨fun e=>?_,fun e=>?_⟩
    · subst e
      unfold encTab
      rw [flat_pre_bad hb1]; rfl
    · subst e
      obtain rfl:i=l.length:=hb2.resolve_left (by simp)
      rw [List.take_of_length_le (Nat.le_refl _)] at hb1 hD
      obtain ⟨bs,vb,h1,h2,_,h3⟩:=hD.1.buf
      have e1:encTab l=bs:=by
        unfold encTab
        rw [show numsT l=[(l.length:Int)]++l.flatMap numsR from rfl,hb1,h3 hb1]; rfl
      refine ⟨vb,h1,?_⟩
      rw [e1]
      exact conv_own h2 (by rw [h3 hb1,encN_len]; simp)
  have HFN:Hid (∀ (b:Bool),badN ([(l.length:Int)]++(l.take i).flatMap numsR)=b→(b=true∨i=l.length)→(b=true→encTab l=[])∧(b=false→∃ vb,wr.cell? ⟨g,0,none⟩=some vb∧(convert 67 9 vb).run Tryz.prog wr=.ok (.string ⟨(encTab l).toArray⟩) wr)):=hfin
  clear hfin
  by_cases hgo:i<l.length∧badN ([(l.length:Int)]++(l.take i).flatMap numsR)=false
  case neg =>
    clear HN HSW HT0 hD
    by_cases hlt:i<l.length
    · have hbt:badN ([(l.length:Int)]++(l.take i).flatMap numsR)=true:=by
        cases h:badN ([(l.length:Int)]++(l.take i).flatMap numsR) with
        | true=>rfl
        | false=>exact absurd ⟨hlt,h⟩ hgo
      have HE:Hid (encTab l=[]):=(HFN.out _ hbt (.inl rfl)).1 rfl
      rw [hbt] at cb
      have hlt':(i:Int)<l.length:=by omega
      have hd:decide ((i:Int)<l.length)=true:=decide_eq_true hlt'
      clear HFN hbt hgo
      go_wp2_with fail
      go_ret
      exact ⟨by rw [HE.out]; rfl,BW⟩
    · have hlt':¬ (i:Int)<l.length:=by omega
      have hd:decide ((i:Int)<l.length)=false:=decide_eq_false hlt'
      obtain ⟨b,hbn⟩:∃ b,badN ([(l.length:Int)]++(l.take i).flatMap numsR)=b:=⟨_,rfl⟩
      obtain ⟨f1,f2⟩:=HFN.out b hbn (.inr (by omega))
      rw [hbn] at cb
      cases b with
      | true =>
        have HE:Hid (encTab l=[]):=f1 rfl
        clear HFN hbn hgo f1 f2
        go_wp2_with fail
        go_ret
        exact ⟨by rw [HE.out]; rfl,BW⟩
      | false =>
        obtain ⟨vb,q0,q1⟩:=f2 rfl
        have HCV:Hid ((convert 67 9 vb).run Tryz.prog wr=.ok (.string ⟨(encTab l).toArray⟩) wr):=q1
        clear HFN hbn hgo f1 f2 q1
        go_wp2_with fail
        rw [HCV.out]
        simp only [Result.andThen]
        go_wp2_with fail
        go_ret
        exact ⟨rfl,BW⟩
  obtain ⟨hlt,hnb⟩:=hgo
  rw [hnb] at cb
  obtain ⟨_,_,e0,hal,_⟩:=HSW.out
  cases e0
  obtain ⟨b2,o2,va,vg,rfl,hb2,t0,t1,hA,hG⟩:=hal.at (Below.refl _ _) hlt
  have q0:=(hD.2.cell (p:=⟨b2,o2+i * 2,none⟩) hb2).trans t0
  have q1:=(hD.2.cell (p:=⟨b2,o2+i * 2+1,none⟩) hb2).trans t1
  have hll:=flat_len_lt numsR hlt
  have HTK:Hid ((l.take (i+1)).flatMap numsR=(l.take i).flatMap numsR++numsR l[i]):=flat_take numsR hlt
  obtain ⟨ns,hns⟩:∃ ns,[(l.length:Int)]++(l.take i).flatMap numsR=ns:=⟨_,rfl⟩
  have hnsl:ns.length=1+((l.take i).flatMap numsR).length:=by rw [← hns]; simp; omega
  have HNS:Hid ([(l.length:Int)]++(l.take i).flatMap numsR=ns):=hns
  rw [hns] at hD
  generalize l[i]=r at *
  obtain ⟨acs,gos⟩:=r
  simp only at *
  have hrl:(numsR ⟨acs,gos⟩).length=2+(acs.flatMap numsA).length+(gos.flatMap numsG).length:=by simp [numsR]; omega
  have hroom:ns.length+(2+(acs.flatMap numsA).length+(gos.flatMap numsG).length)≤70368744177664:=by omega
  have HSA:Hid (SlA acs va w0∧SlG gos vg w0):=⟨hA,hG⟩
  obtain ⟨aa,ac,rfl,_,_,_,hA4⟩:=id hA
  obtain ⟨ga,gc,rfl,_,_,_,hG4⟩:=id hG
  have ba:Below wr.heap.size wr (wr.alloc (Obj.cells #[.slice aa acs.length ac,.slice ga gos.length gc] 38)):=(Below.refl _ _).alloc (Nat.le_refl _) _
  have p0:(wr.alloc (Obj.cells #[.slice aa acs.length ac,.slice ga gos.length gc] 38)).heap[wr.heap.size]?=some (Obj.cells #[.slice aa acs.length ac,.slice ga gos.length gc] 38):=heap_alloc_new _ _
  have n0:¬ inD g (wr.alloc (Obj.cells #[.slice aa acs.length ac,.slice ga gos.length gc] 38)) wr.heap.size:=hD.new ba _ (Nat.le_refl _)
  have HC:=HN.out acs.length _ _ (hD.next ba) (by omega)
  have hlt':(i:Int)<l.length:=by omega
  have hd:decide ((i:Int)<l.length)=true:=decide_eq_true hlt'
  clear hal hA hG t0 t1 HFN hnb hD ba HSW hns hll hnsl hrl
  go_upto_region 7 with fail
  obtain ⟨rb,hrb⟩:∃ rb,wr.heap.size=rb:=⟨_,rfl⟩
  rw [hrb] at p0 n0 ⊢
  clear hrb c0 q0 q1 cb BW
  generalize wr.alloc (Obj.cells #[.slice aa acs.length ac,.slice ga gos.length gc] 38)=wa at *
  have d0:wa.cell? ⟨rb,0,none⟩=some (.slice aa acs.length ac):=by rw [Lib.cell_of_heap p0]; rfl
  go_wp2_with fail
  refine HC.mono ?_
  rintro e w2 ⟨rfl,k1,k2⟩
  have p1:=k2.blk p0 n0
  have n1:=k2.notIn n0 (blk_lt p0)
  clear HC k2 p0 n0 d0
  go_wp2_with fail
  go_loopw [6] (fun kv wr=>∃ (k:Nat),kv=.int .i64 k∧k≤acs.length∧Dt w0 g (ns++[(acs.length:Int)]++(acs.take k).flatMap numsA) wr∧wr.heap[rb]?=some (Obj.cells #[.slice aa acs.length ac,.slice ga gos.length gc] 38)∧¬ inD g wr rb) (fun i _=>acs.length - (intOf i).toNat)
  case atStart=>exact ⟨0,rfl,Nat.zero_le _,by simpa using k1,p1,n1⟩
  case round =>
  clear k1 p1 n1
  obtain ⟨k,rfl,hk,hD,p0,n0⟩:=hrel
  have d0:wr.cell? ⟨rb,0,none⟩=some (.slice aa acs.length ac):=by rw [Lib.cell_of_heap p0]; rfl
  have d1:wr.cell? ⟨rb,1,none⟩=some (.slice ga gos.length gc):=by rw [Lib.cell_of_heap p0]; rfl
  by_cases hka:k<acs.length
  case neg =>
    obtain rfl:k=acs.length:=by omega
    rw [List.take_of_length_le (Nat.le_refl _)] at hD
    have HC:=HN.out gos.length _ _ hD (by simp only [List.length_append,List.length_cons,List.length_nil]; omega)
    have hkn:¬ ((acs.length:Nat):Int)<(acs.length:Int):=by omega
    clear hk hka
    go_wp2_with fail
    refine HC.mono ?_
    rintro e w2 ⟨rfl,k1,k2⟩
    have p1:=k2.blk p0 n0
    have n1:=k2.notIn n0 (blk_lt p0)
    clear HC k2 p0 n0 d0 d1 hD hkn
    go_wp2_with fail
    go_loopw [9] (fun kv wr=>∃ (k:Nat),kv=.int .i64 k∧k≤gos.length∧Dt w0 g (ns++[(acs.length:Int)]++acs.flatMap numsA++[(gos.length:Int)]++(gos.take k).flatMap numsG) wr∧wr.heap[rb]?=some (Obj.cells #[.slice aa acs.length ac,.slice ga gos.length gc] 38)∧¬ inD g wr rb) (fun i _=>gos.length - (intOf i).toNat)
    case atStart=>exact ⟨0,rfl,Nat.zero_le _,by simpa using k1,p1,n1⟩
    case round =>
    clear k1 p1 n1
    obtain ⟨k,rfl,hk,hD,p0,n0⟩:=hrel
    have d1:wr.cell? ⟨rb,1,none⟩=some (.slice ga gos.length gc):=by rw [Lib.cell_of_heap p0]; rfl
    by_cases hkg:k<gos.length
    · obtain ⟨_,_,e0,hal,_⟩:=HSA.out.2
      cases e0
      obtain ⟨b3,o3,rfl,hb3,t0,t1,_,_⟩:=hal.at (Below.refl _ _) hkg
      have q0:=(hD.2.cell (p:=⟨b3,o3+k * 2,none⟩) hb3).trans t0
      have hll:=flat_len_lt numsG hkg
      have HTG:Hid ((gos.take (k+1)).flatMap numsG=(gos.take k).flatMap numsG++numsG gos[k]):=flat_take numsG hkg
      generalize gos[k]=a at *
      obtain ⟨x,y⟩:=a
      simp only at *
      have hl2:(numsG (x,y)).length=2:=rfl
      have HC:=HN.out x _ _ hD (by simp only [List.length_append,List.length_cons,List.length_nil]; omega)
      have HQ1:Hid (∀ W,Below w0.heap.size w0 W→W.cell? ⟨b3,o3+k * 2+1,none⟩=some (.int .i64 y)):=fun W hW=>(hW.cell (p:=⟨b3,o3+k * 2+1,none⟩) hb3).trans t1
      clear hD hal t0 t1 HSA
      go_wp2_with fail
      refine HC.mono ?_
      rintro e w2 ⟨rfl,k1,k2⟩
      have p1:=k2.blk p0 n0
      have n1:=k2.notIn n0 (blk_lt p0)
      have d2:w2.cell? ⟨rb,1,none⟩=some (.slice (some ⟨b3,o3,none⟩) gos.length gc):=by rw [Lib.cell_of_heap p1]; rfl
      have q1:=HQ1.out _ k1.2
      have HC2:=HN.out y _ _ k1 (by simp only [List.length_append,List.length_cons,List.length_nil]; omega)
      clear HC k1 k2 p0 n0 d1 HQ1 q0
      go_wp2_with fail
      refine HC2.mono ?_
      rintro e w3 ⟨rfl,k1,k2⟩
      have HF:Hid (Dt w0 g (ns++[(acs.length:Int)]++acs.flatMap numsA++[(gos.length:Int)]++(gos.take (k+1)).flatMap numsG) w3∧w3.heap[rb]?=some (Obj.cells #[.slice aa acs.length ac,.slice (some ⟨b3,o3,none⟩) gos.length gc] 38)∧¬ inD g w3 rb):=by
        refine ⟨?_,k2.blk p1 n1,k2.notIn n1 (blk_lt p1)⟩
        have e:ns++[(acs.length:Int)]++acs.flatMap numsA++[(gos.length:Int)]++(gos.take (k+1)).flatMap numsG=ns++[(acs.length:Int)]++acs.flatMap numsA++[(gos.length:Int)]++(gos.take k).flatMap numsG++[x]++[y]:=by rw [HTG.out]; simp [numsG]
        rw [e]; exact k1
      clear HC2 k1 k2 p1 n1 d2 q1 HTG HN
      go_wp2_with fail
      exact ⟨⟨k+1,by go_num,by omega,HF.out⟩,by simp [intOf]; omega⟩
    obtain rfl:k=gos.length:=by omega
    rw [List.take_of_length_le (Nat.le_refl _)] at hD
    have HF:Hid (Dt w0 g ([(l.length:Int)]++(l.take (i+1)).flatMap numsR) wr):=by
      show Dt _ _ _ _
      have e:[(l.length:Int)]++(l.take (i+1)).flatMap numsR=ns++[(acs.length:Int)]++acs.flatMap numsA++[(gos.length:Int)]++gos.flatMap numsG:=by rw [HTK.out,← List.append_assoc,HNS.out]; simp [numsR]
      rw [e]; exact hD
    have hkn:¬ ((gos.length:Nat):Int)<(gos.length:Int):=by omega
    clear hD HSA HTK HNS HN hk hkg
    go_wp2_with fail
    exact ⟨⟨i+1,by go_num,by omega,HF.out⟩,by simp [intOf]; omega⟩
  obtain ⟨_,_,e0,hal,_⟩:=HSA.out.1
  cases e0
  obtain ⟨b3,o3,u,rfl,hb3,t0,t1,t2,t3,t4,t5,t6,t7⟩:=hal.at (Below.refl _ _) hka
  have q0:=(hD.2.cell (p:=⟨b3,o3+k * 4,none⟩) hb3).trans t0
  have q1:=(hD.2.cell (p:=⟨b3,o3+k * 4+1,none⟩) hb3).trans t1
  have q2:=(hD.2.cell (p:=⟨b3,o3+k * 4+2,none⟩) hb3).trans t2
  have q3:=(hD.2.cell (p:=⟨b3,o3+k * 4+3,none⟩) hb3).trans t3
  have hll:=flat_len_lt numsA hka
  have HTA:Hid ((acs.take (k+1)).flatMap numsA=(acs.take k).flatMap numsA++numsA acs[k]):=flat_take numsA hka
  generalize acs[k]=a at *
  rw [numsA_len] at hll
  obtain ⟨look,tv,red,acc⟩:=a
  simp only at *
  have HRD:Hid (SlI red u w0):=t4
  obtain ⟨ua,uc,rfl,_⟩:=id t4
  obtain ⟨hu1,hu2⟩:=up1_wrap tv t6
  have ba:Below wr.heap.size wr (wr.alloc (Obj.cells #[.int .i64 look,.int .i64 tv,.slice ua red.length uc,.bool acc] 41)):=(Below.refl _ _).alloc (Nat.le_refl _) _
  have pa1:(wr.alloc (Obj.cells #[.int .i64 look,.int .i64 tv,.slice ua red.length uc,.bool acc] 41)).heap[wr.heap.size]?=some (Obj.cells #[.int .i64 look,.int .i64 tv,.slice ua red.length uc,.bool acc] 41):=heap_alloc_new _ _
  have na1:¬ inD g (wr.alloc (Obj.cells #[.int .i64 look,.int .i64 tv,.slice ua red.length uc,.bool acc] 41)) wr.heap.size:=hD.new ba _ (Nat.le_refl _)
  have p1:=(ba.block _ (blk_lt p0)).trans p0
  have n1:¬ inD g (wr.alloc (Obj.cells #[.int .i64 look,.int .i64 tv,.slice ua red.length uc,.bool acc] 41)) rb:=fun hin=>n0 ((inD_same (ba.block g hD.lt) _).1 hin)
  have HC:=HN.out look _ _ (hD.next ba) (by simp only [List.length_append,List.length_cons,List.length_nil]; omega)
  have hkl:(k:Int)<acs.length:=by omega
  have hkd:decide ((k:Int)<acs.length)=true:=decide_eq_true hkl
  clear hal t0 t1 t2 t3 t4 t5 t7 hD ba p0 n0
  go_upto_region 12 with fail
  obtain ⟨ab,hab⟩:∃ ab,wr.heap.size=ab:=⟨_,rfl⟩
  rw [hab] at pa1 na1 ⊢
  clear hab q0 q1 q2 q3 d0 d1
  generalize wr.alloc (Obj.cells #[.int .i64 look,.int .i64 tv,.slice ua red.length uc,.bool acc] 41)=wa at *
  have d0:wa.cell? ⟨ab,0,none⟩=some (.int .i64 look):=by rw [Lib.cell_of_heap pa1]; rfl
  go_wp2_with fail
  refine HC.mono ?_
  rintro e w2 ⟨rfl,k2,j2⟩
  have p2:=j2.blk p1 n1
  have n2:=j2.notIn n1 (blk_lt p1)
  have pa2:=j2.blk pa1 na1
  have na2:=j2.notIn na1 (blk_lt pa1)
  have d1:w2.cell? ⟨ab,1,none⟩=some (.int .i64 tv):=by rw [Lib.cell_of_heap pa2]; rfl
  clear HC j2 p1 n1 pa1 na1 d0
  unfold i64B at t6
  by_cases hbt:tv < -1∨tv ≥ 65535
  · have hub:badN (ns++[(acs.length:Int)]++(acs.take k).flatMap numsA++[look]++[up1 tv])=true:=by
      rw [badN_append]
      have:badN [up1 tv]=true:=by
        unfold badN up1
        simp
        split <;> omega
      rw [this]; simp
    have HS:=k2.1.setBad hub (by simp)
    obtain ⟨cs,hcs,hcz⟩:=k2.1.blk
    have cb:w2.cell? ⟨g,1,none⟩=some (.bool (badN (ns++[(acs.length:Int)]++(acs.take k).flatMap numsA++[look]))):=k2.1.bad
    have fb:w2.frozen? ⟨g,1,none⟩=false:=Lib.frozen_of_heap hcs _
    have k3:Dt w0 g (ns++[(acs.length:Int)]++(acs.take k).flatMap numsA++[look]++[up1 tv]) (w2.setCell ⟨g,1,none⟩ (.bool true)):=⟨HS.1,k2.2.trans (k2.1.below HS.2 k2.2.size)⟩
    have p3:=HS.2.blk p2 n2
    have n3:=HS.2.notIn n2 (blk_lt p2)
    have pa3:=HS.2.blk pa2 na2
    have na3:=HS.2.notIn na2 (blk_lt pa2)
    have HC3:True:=trivial
    clear HS hcs hcz hub k2 p2 n2 pa2 na2 hu1 hu2
    generalize badN (ns++[(acs.length:Int)]++(acs.take k).flatMap numsA++[look])=bb at *
    by_cases hlo:tv < -1
    · have hdl:decide (tv < -1)=true:=decide_eq_true hlo
      go_upto_region 16 with fail
      clear d1 cb fb
      generalize w2.setCell ⟨g,1,none⟩ (.bool true)=WZ at *
      clear HC3
      have d2:WZ.cell? ⟨ab,2,none⟩=some (.slice ua red.length uc):=by rw [Lib.cell_of_heap pa3]; rfl
      have HC4:=HN.out red.length _ _ k3 (by simp only [List.length_append,List.length_cons,List.length_nil]; omega)
      go_wp2_with fail
      refine HC4.mono ?_
      rintro e w4 ⟨rfl,k4,j4⟩
      have p4:=j4.blk p3 n3
      have n4:=j4.notIn n3 (blk_lt p3)
      have pa4:=j4.blk pa3 na3
      have na4:=j4.notIn na3 (blk_lt pa3)
      clear HC4 k3 j4 p3 n3 pa3 na3 d2
      go_wp2_with fail
      go_loopw [8] (fun jv wr=>∃ (j:Nat),jv=.int .i64 j∧j≤red.length∧Dt w0 g (ns++[(acs.length:Int)]++(acs.take k).flatMap numsA++[look]++[up1 tv]++[(red.length:Int)]++red.take j) wr∧wr.heap[rb]?=some (Obj.cells #[.slice (some ⟨b3,o3,none⟩) acs.length ac,.slice ga gos.length gc] 38)∧¬ inD g wr rb∧wr.heap[ab]?=some (Obj.cells #[.int .i64 look,.int .i64 tv,.slice ua red.length uc,.bool acc] 41)∧¬ inD g wr ab) (fun i _=>red.length - (intOf i).toNat)
      case atStart=>exact ⟨0,rfl,Nat.zero_le _,by simpa using k4,p4,n4,pa4,na4⟩
      case round =>
      clear k4 p4 n4 pa4 na4
      obtain ⟨j,rfl,hj,hD,p0,n0,pa,na⟩:=hrel
      have d2:wr.cell? ⟨ab,2,none⟩=some (.slice ua red.length uc):=by rw [Lib.cell_of_heap pa]; rfl
      by_cases hjr:j<red.length
      case pos =>
        obtain ⟨_,_,e0,hrl,_⟩:=HRD.out.next hD.2
        cases e0
        obtain ⟨b4,o4,rfl,hb4,q4⟩:=hrl.at (Below.refl _ _) hjr
        unfold encI at q4
        have HTR:Hid (red.take (j+1)=red.take j++[red[j]]):=List.take_succ_eq_append_getElem hjr
        have htl:(red.take j).length=j:=by rw [List.length_take]; omega
        have htl1:(red.take j).length≤j:=by omega
        generalize red[j]=x at *
        have HC5:=HN.out x _ _ hD (by simp only [List.length_append,List.length_cons,List.length_nil]; omega)
        clear hD hrl HRD htl htl1
        go_wp2_with fail
        refine HC5.mono ?_
        rintro e w5 ⟨rfl,k5,j5⟩
        have HF:Hid (Dt w0 g (ns++[(acs.length:Int)]++(acs.take k).flatMap numsA++[look]++[up1 tv]++[(red.length:Int)]++red.take (j+1)) w5∧w5.heap[rb]?=some (Obj.cells #[.slice (some ⟨b3,o3,none⟩) acs.length ac,.slice ga gos.length gc] 38)∧¬ inD g w5 rb∧w5.heap[ab]?=some (Obj.cells #[.int .i64 look,.int .i64 tv,.slice (some ⟨b4,o4,none⟩) red.length uc,.bool acc] 41)∧¬ inD g w5 ab):=by
          refine ⟨?_,j5.blk p0 n0,j5.notIn n0 (blk_lt p0),j5.blk pa na,j5.notIn na (blk_lt pa)⟩
          rw [HTR.out,← List.append_assoc]
          exact k5
        clear HC5 k5 j5 p0 n0 pa na d2 q4 HTR HN HTK HNS HSA HTA
        go_wp2_with fail
        exact ⟨⟨j+1,by go_num,by omega,HF.out⟩,by simp [intOf]; omega⟩
      obtain rfl:j=red.length:=by omega
      rw [List.take_of_length_le (Nat.le_refl _)] at hD
      have d3:wr.cell? ⟨ab,3,none⟩=some (.bool acc):=by rw [Lib.cell_of_heap pa]; rfl
      have HC6:=HN.out (accI acc) _ _ hD (by simp only [List.length_append,List.length_cons,List.length_nil]; omega)
      have hjn:¬ ((red.length:Nat):Int)<(red.length:Int):=by omega
      have HE:Hid (ns++[(acs.length:Int)]++(acs.take k).flatMap numsA++[look]++[up1 tv]++[(red.length:Int)]++red++[accI acc]=ns++[(acs.length:Int)]++(acs.take (k+1)).flatMap numsA):=by show _=_; rw [HTA.out]; simp [numsA]
      clear hD hj hjr na pa HN HRD HTA HTK HNS HSA
      cases acc with
      | true =>
        simp only [accI,if_true] at HC6 HE
        go_wp2_with fail
        refine HC6.mono ?_
        rintro e w6 ⟨rfl,k6,j6⟩
        rw [HE.out] at k6
        have HF:Hid (Dt w0 g (ns++[(acs.length:Int)]++(acs.take (k+1)).flatMap numsA) w6∧w6.heap[rb]?=some (Obj.cells #[.slice (some ⟨b3,o3,none⟩) acs.length ac,.slice ga gos.length gc] 38)∧¬ inD g w6 rb):=⟨k6,j6.blk p0 n0,j6.notIn n0 (blk_lt p0)⟩
        clear HC6 k6 j6 p0 n0 d2 d3 HE hjn
        go_wp2_with fail
        exact ⟨⟨k+1,by go_num,by omega,HF.out⟩,by simp [intOf]; omega⟩
      | false =>
        simp only [accI,Bool.false_eq_true,if_false] at HC6 HE
        go_wp2_with fail
        refine HC6.mono ?_
        rintro e w6 ⟨rfl,k6,j6⟩
        rw [HE.out] at k6
        have HF:Hid (Dt w0 g (ns++[(acs.length:Int)]++(acs.take (k+1)).flatMap numsA) w6∧w6.heap[rb]?=some (Obj.cells #[.slice (some ⟨b3,o3,none⟩) acs.length ac,.slice ga gos.length gc] 38)∧¬ inD g w6 rb):=⟨k6,j6.blk p0 n0,j6.notIn n0 (blk_lt p0)⟩
        clear HC6 k6 j6 p0 n0 d2 d3 HE hjn
        go_wp2_with fail
        exact ⟨⟨k+1,by go_num,by omega,HF.out⟩,by simp [intOf]; omega⟩
    · have hdl:decide (tv < -1)=false:=decide_eq_false hlo
      have hge:tv ≥ 65535:=hbt.resolve_left hlo
      have hdg:decide (tv ≥ 65535)=true:=decide_eq_true hge
      go_upto_region 16 with fail
      clear d1 cb fb
      generalize w2.setCell ⟨g,1,none⟩ (.bool true)=WZ at *
      clear HC3
      have d2:WZ.cell? ⟨ab,2,none⟩=some (.slice ua red.length uc):=by rw [Lib.cell_of_heap pa3]; rfl
      have HC4:=HN.out red.length _ _ k3 (by simp only [List.length_append,List.length_cons,List.length_nil]; omega)
      go_wp2_with fail
      refine HC4.mono ?_
      rintro e w4 ⟨rfl,k4,j4⟩
      have p4:=j4.blk p3 n3
      have n4:=j4.notIn n3 (blk_lt p3)
      have pa4:=j4.blk pa3 na3
      have na4:=j4.notIn na3 (blk_lt pa3)
      clear HC4 k3 j4 p3 n3 pa3 na3 d2
      go_wp2_with fail
      go_loopw [8] (fun jv wr=>∃ (j:Nat),jv=.int .i64 j∧j≤red.length∧Dt w0 g (ns++[(acs.length:Int)]++(acs.take k).flatMap numsA++[look]++[up1 tv]++[(red.length:Int)]++red.take j) wr∧wr.heap[rb]?=some (Obj.cells #[.slice (some ⟨b3,o3,none⟩) acs.length ac,.slice ga gos.length gc] 38)∧¬ inD g wr rb∧wr.heap[ab]?=some (Obj.cells #[.int .i64 look,.int .i64 tv,.slice ua red.length uc,.bool acc] 41)∧¬ inD g wr ab) (fun i _=>red.length - (intOf i).toNat)
      case atStart=>exact ⟨0,rfl,Nat.zero_le _,by simpa using k4,p4,n4,pa4,na4⟩
      case round =>
      clear k4 p4 n4 pa4 na4
      obtain ⟨j,rfl,hj,hD,p0,n0,pa,na⟩:=hrel
      have d2:wr.cell? ⟨ab,2,none⟩=some (.slice ua red.length uc):=by rw [Lib.cell_of_heap pa]; rfl
      by_cases hjr:j<red.length
      case pos =>
        obtain ⟨_,_,e0,hrl,_⟩:=HRD.out.next hD.2
        cases e0
        obtain ⟨b4,o4,rfl,hb4,q4⟩:=hrl.at (Below.refl _ _) hjr
        unfold encI at q4
        have HTR:Hid (red.take (j+1)=red.take j++[red[j]]):=List.take_succ_eq_append_getElem hjr
        have htl:(red.take j).length=j:=by rw [List.length_take]; omega
        have htl1:(red.take j).length≤j:=by omega
        generalize red[j]=x at *
        have HC5:=HN.out x _ _ hD (by simp only [List.length_append,List.length_cons,List.length_nil]; omega)
        clear hD hrl HRD htl htl1
        go_wp2_with fail
        refine HC5.mono ?_
        rintro e w5 ⟨rfl,k5,j5⟩
        have HF:Hid (Dt w0 g (ns++[(acs.length:Int)]++(acs.take k).flatMap numsA++[look]++[up1 tv]++[(red.length:Int)]++red.take (j+1)) w5∧w5.heap[rb]?=some (Obj.cells #[.slice (some ⟨b3,o3,none⟩) acs.length ac,.slice ga gos.length gc] 38)∧¬ inD g w5 rb∧w5.heap[ab]?=some (Obj.cells #[.int .i64 look,.int .i64 tv,.slice (some ⟨b4,o4,none⟩) red.length uc,.bool acc] 41)∧¬ inD g w5 ab):=by
          refine ⟨?_,j5.blk p0 n0,j5.notIn n0 (blk_lt p0),j5.blk pa na,j5.notIn na (blk_lt pa)⟩
          rw [HTR.out,← List.append_assoc]
          exact k5
        clear HC5 k5 j5 p0 n0 pa na d2 q4 HTR HN HTK HNS HSA HTA
        go_wp2_with fail
        exact ⟨⟨j+1,by go_num,by omega,HF.out⟩,by simp [intOf]; omega⟩
      obtain rfl:j=red.length:=by omega
      rw [List.take_of_length_le (Nat.le_refl _)] at hD
      have d3:wr.cell? ⟨ab,3,none⟩=some (.bool acc):=by rw [Lib.cell_of_heap pa]; rfl
      have HC6:=HN.out (accI acc) _ _ hD (by simp only [List.length_append,List.length_cons,List.length_nil]; omega)
      have hjn:¬ ((red.length:Nat):Int)<(red.length:Int):=by omega
      have HE:Hid (ns++[(acs.length:Int)]++(acs.take k).flatMap numsA++[look]++[up1 tv]++[(red.length:Int)]++red++[accI acc]=ns++[(acs.length:Int)]++(acs.take (k+1)).flatMap numsA):=by show _=_; rw [HTA.out]; simp [numsA]
      clear hD hj hjr na pa HN HRD HTA HTK HNS HSA
      cases acc with
      | true =>
        simp only [accI,if_true] at HC6 HE
        go_wp2_with fail
        refine HC6.mono ?_
        rintro e w6 ⟨rfl,k6,j6⟩
        rw [HE.out] at k6
        have HF:Hid (Dt w0 g (ns++[(acs.length:Int)]++(acs.take (k+1)).flatMap numsA) w6∧w6.heap[rb]?=some (Obj.cells #[.slice (some ⟨b3,o3,none⟩) acs.length ac,.slice ga gos.length gc] 38)∧¬ inD g w6 rb):=⟨k6,j6.blk p0 n0,j6.notIn n0 (blk_lt p0)⟩
        clear HC6 k6 j6 p0 n0 d2 d3 HE hjn
        go_wp2_with fail
        exact ⟨⟨k+1,by go_num,by omega,HF.out⟩,by simp [intOf]; omega⟩
      | false =>
        simp only [accI,Bool.false_eq_true,if_false] at HC6 HE
        go_wp2_with fail
        refine HC6.mono ?_
        rintro e w6 ⟨rfl,k6,j6⟩
        rw [HE.out] at k6
        have HF:Hid (Dt w0 g (ns++[(acs.length:Int)]++(acs.take (k+1)).flatMap numsA) w6∧w6.heap[rb]?=some (Obj.cells #[.slice (some ⟨b3,o3,none⟩) acs.length ac,.slice ga gos.length gc] 38)∧¬ inD g w6 rb):=⟨k6,j6.blk p0 n0,j6.notIn n0 (blk_lt p0)⟩
        clear HC6 k6 j6 p0 n0 d2 d3 HE hjn
        go_wp2_with fail
        exact ⟨⟨k+1,by go_num,by omega,HF.out⟩,by simp [intOf]; omega⟩
  have hlo:¬ tv < -1:=fun h=>hbt (.inl h)
  have hge:¬ tv ≥ 65535:=fun h=>hbt (.inr h)
  have hdl:decide (tv < -1)=false:=decide_eq_false hlo
  have hdg:decide (tv ≥ 65535)=false:=decide_eq_false hge
  have HC3:=HN.out (up1 tv) _ _ k2 (by simp only [List.length_append,List.length_cons,List.length_nil]; omega)
  clear k2 hbt
  go_wp2_with fail
  refine HC3.mono ?_
  rintro e w3 ⟨rfl,k3,j3⟩
  have p3:=j3.blk p2 n2
  have n3:=j3.notIn n2 (blk_lt p2)
  have pa3:=j3.blk pa2 na2
  have na3:=j3.notIn na2 (blk_lt pa2)
  clear j3 p2 n2 pa2 na2 d1 hu1 hu2
  clear HC3
  have d2:w3.cell? ⟨ab,2,none⟩=some (.slice ua red.length uc):=by rw [Lib.cell_of_heap pa3]; rfl
  have HC4:=HN.out red.length _ _ k3 (by simp only [List.length_append,List.length_cons,List.length_nil]; omega)
  go_wp2_with fail
  refine HC4.mono ?_
  rintro e w4 ⟨rfl,k4,j4⟩
  have p4:=j4.blk p3 n3
  have n4:=j4.notIn n3 (blk_lt p3)
  have pa4:=j4.blk pa3 na3
  have na4:=j4.notIn na3 (blk_lt pa3)
  clear HC4 k3 j4 p3 n3 pa3 na3 d2
  go_wp2_with fail
  go_loopw [8] (fun jv wr=>∃ (j:Nat),jv=.int .i64 j∧j≤red.length∧Dt w0 g (ns++[(acs.length:Int)]++(acs.take k).flatMap numsA++[look]++[up1 tv]++[(red.length:Int)]++red.take j) wr∧wr.heap[rb]?=some (Obj.cells #[.slice (some ⟨b3,o3,none⟩) acs.length ac,.slice ga gos.length gc] 38)∧¬ inD g wr rb∧wr.heap[ab]?=some (Obj.cells #[.int .i64 look,.int .i64 tv,.slice ua red.length uc,.bool acc] 41)∧¬ inD g wr ab) (fun i _=>red.length - (intOf i).toNat)
  case atStart=>exact ⟨0,rfl,Nat.zero_le _,by simpa using k4,p4,n4,pa4,na4⟩
  case round =>
  clear k4 p4 n4 pa4 na4
  obtain ⟨j,rfl,hj,hD,p0,n0,pa,na⟩:=hrel
  have d2:wr.cell? ⟨ab,2,none⟩=some (.slice ua red.length uc):=by rw [Lib.cell_of_heap pa]; rfl
  by_cases hjr:j<red.length
  case pos =>
    obtain ⟨_,_,e0,hrl,_⟩:=HRD.out.next hD.2
    cases e0
    obtain ⟨b4,o4,rfl,hb4,q4⟩:=hrl.at (Below.refl _ _) hjr
    unfold encI at q4
    have HTR:Hid (red.take (j+1)=red.take j++[red[j]]):=List.take_succ_eq_append_getElem hjr
    have htl:(red.take j).length=j:=by rw [List.length_take]; omega
    have htl1:(red.take j).length≤j:=by omega
    generalize red[j]=x at *
    have HC5:=HN.out x _ _ hD (by simp only [List.length_append,List.length_cons,List.length_nil]; omega)
    clear hD hrl HRD htl htl1
    go_wp2_with fail
    refine HC5.mono ?_
    rintro e w5 ⟨rfl,k5,j5⟩
    have HF:Hid (Dt w0 g (ns++[(acs.length:Int)]++(acs.take k).flatMap numsA++[look]++[up1 tv]++[(red.length:Int)]++red.take (j+1)) w5∧w5.heap[rb]?=some (Obj.cells #[.slice (some ⟨b3,o3,none⟩) acs.length ac,.slice ga gos.length gc] 38)∧¬ inD g w5 rb∧w5.heap[ab]?=some (Obj.cells #[.int .i64 look,.int .i64 tv,.slice (some ⟨b4,o4,none⟩) red.length uc,.bool acc] 41)∧¬ inD g w5 ab):=by
      refine ⟨?_,j5.blk p0 n0,j5.notIn n0 (blk_lt p0),j5.blk pa na,j5.notIn na (blk_lt pa)⟩
      rw [HTR.out,← List.append_assoc]
      exact k5
    clear HC5 k5 j5 p0 n0 pa na d2 q4 HTR HN HTK HNS HSA HTA
    go_wp2_with fail
    exact ⟨⟨j+1,by go_num,by omega,HF.out⟩,by simp [intOf]; omega⟩
  obtain rfl:j=red.length:=by omega
  rw [List.take_of_length_le (Nat.le_refl _)] at hD
  have d3:wr.cell? ⟨ab,3,none⟩=some (.bool acc):=by rw [Lib.cell_of_heap pa]; rfl
  have HC6:=HN.out (accI acc) _ _ hD (by simp only [List.length_append,List.length_cons,List.length_nil]; omega)
  have hjn:¬ ((red.length:Nat):Int)<(red.length:Int):=by omega
  have HE:Hid (ns++[(acs.length:Int)]++(acs.take k).flatMap numsA++[look]++[up1 tv]++[(red.length:Int)]++red++[accI acc]=ns++[(acs.length:Int)]++(acs.take (k+1)).flatMap numsA):=by show _=_; rw [HTA.out]; simp [numsA]
  clear hD hj hjr na pa HN HRD HTA HTK HNS HSA
  cases acc with
  | true =>
    simp only [accI,if_true] at HC6 HE
    go_wp2_with fail
    refine HC6.mono ?_
    rintro e w6 ⟨rfl,k6,j6⟩
    rw [HE.out] at k6
    have HF:Hid (Dt w0 g (ns++[(acs.length:Int)]++(acs.take (k+1)).flatMap numsA) w6∧w6.heap[rb]?=some (Obj.cells #[.slice (some ⟨b3,o3,none⟩) acs.length ac,.slice ga gos.length gc] 38)∧¬ inD g w6 rb):=⟨k6,j6.blk p0 n0,j6.notIn n0 (blk_lt p0)⟩
    clear HC6 k6 j6 p0 n0 d2 d3 HE hjn
    go_wp2_with fail
    exact ⟨⟨k+1,by go_num,by omega,HF.out⟩,by simp [intOf]; omega⟩
  | false =>
    simp only [accI,Bool.false_eq_true,if_false] at HC6 HE
    go_wp2_with fail
    refine HC6.mono ?_
    rintro e w6 ⟨rfl,k6,j6⟩
    rw [HE.out] at k6
    have HF:Hid (Dt w0 g (ns++[(acs.length:Int)]++(acs.take (k+1)).flatMap numsA) w6∧w6.heap[rb]?=some (Obj.cells #[.slice (some ⟨b3,o3,none⟩) acs.length ac,.slice ga gos.length gc] 38)∧¬ inD g w6 rb):=⟨k6,j6.blk p0 n0,j6.notIn n0 (blk_lt p0)⟩
    clear HC6 k6 j6 p0 n0 d2 d3 HE hjn
    go_wp2_with fail
    exact ⟨⟨k+1,by go_num,by omega,HF.out⟩,by simp [intOf]; omega⟩
end Go.Proofs.YtiamjafecbpfpaaGreatDoor
namespace Go.Proofs.YtiamjafecbpfpaaGreatDoor
open Go.RowKit
end Go.Proofs.YtiamjafecbpfpaaGreatDoor
namespace Go.Proofs.YtiamjafecbpfpaaGreatDoor
open Go.RowKit
end Go.Proofs.YtiamjafecbpfpaaGreatDoor
namespace Go.Proofs.YtiamjafecbpfpaaGreatDoor
open Go.RowKit
end Go.Proofs.YtiamjafecbpfpaaGreatDoor
namespace Go.Proofs.YtiamjafecbpfpaaGreatDoor
open Go.RowKit
end Go.Proofs.YtiamjafecbpfpaaGreatDoor
namespace Go.Proofs.YtiamjafecbpfpaaGreatDoor
open Go.RowKit
end Go.Proofs.YtiamjafecbpfpaaGreatDoor
namespace Go.Proofs.YtiamjafecbpfpaaGreatDoor
open Go.RowKit
end Go.Proofs.YtiamjafecbpfpaaGreatDoor
namespace Go.Proofs.YtiamjafecbpfpaaGreatDoor
open Go.RowKit
end Go.Proofs.YtiamjafecbpfpaaGreatDoor
namespace Go.Proofs.YtiamjafecbpfpaaGreatDoor
open Go.RowKit
end Go.Proofs.YtiamjafecbpfpaaGreatDoor
namespace Go.Proofs.YtiamjafecbpfpaaGreatDoor
open Go.RowKit
end Go.Proofs.YtiamjafecbpfpaaGreatDoor
namespace Go.Proofs.YtiamjafecbpfpaaGreatDoor
open Go.RowKit
end Go.Proofs.YtiamjafecbpfpaaGreatDoor
namespace Go.Proofs.YtiamjafecbpfpaaGreatDoor
open Go.RowKit
end Go.Proofs.YtiamjafecbpfpaaGreatDoor
namespace Go.Proofs.YtiamjafecbpfpaaGreatDoor
open Go.RowKit
end Go.Proofs.YtiamjafecbpfpaaGreatDoor
namespace Go.Proofs.YtiamjafecbpfpaaGreatDoor
theorem dot_end {f:Fl} {x:Ir} (hx:fitI f x=true) (hn:nextI f x=none):x.2.1=(rightI f x.1).length:=by
  have h:=fitI_iff.1 hx
  unfold nextI at hn
  rw [if_pos hx,Option.map_eq_none_iff,List.getElem?_eq_none_iff] at hn
  omega
theorem redL_rise {f:Fl} {l:List Ir} (hr:RisingI l) (hf:∀ x∈l,fitI f x=true) (t:Int):(redL f l t).Pairwise (· < ·):=by
  unfold redL
  rw [List.pairwise_map]
  have h1:(l.filter fun x=>decide (nextI f x=none∧x.2.2=t∧0≤x.1)).Pairwise ltI:=List.Pairwise.filter _ hr
  refine List.Pairwise.imp_of_mem (fun {a b} ha hb hab=>?_) h1
  have ha1:=List.mem_filter.1 ha
  have hb1:=List.mem_filter.1 hb
  have ha2:=of_decide_eq_true ha1.2
  have hb2:=of_decide_eq_true hb1.2
  have e1:=dot_end (hf a ha1.1) ha2.1
  have e2:=dot_end (hf b hb1.1) hb2.1
  unfold ltI at hab
  rcases hab with h | ⟨h,h'⟩
  · exact h
  · exfalso
    rw [h] at e1
    omega
theorem redL_in {f:Fl} {l:List Ir} (hf:∀ x∈l,fitI f x=true) (t:Int):∀ x∈redL f l t,0≤x∧x<(f.prods.length:Int):=by
  intro x hx
  unfold redL at hx
  obtain ⟨y,hy,rfl⟩:=List.mem_map.1 hx
  have h1:=List.mem_filter.1 hy
  have h2:=of_decide_eq_true h1.2
  have h3:=fitI_iff.1 (hf y h1.1)
  omega
theorem all_len {f:Fl} (hp:FitP f) {R:List (List Ir)} (h:allF f=some R):1≤R.length∧R.length≤600:=by
  obtain ⟨T,rfl,_,_,hl⟩:=all_sets hp h
  simp [setsOf]; omega
theorem find_act {f:Fl} {R:List (List Ir)} {l:List Ir} {t:Nat} (ht:t≤f.terms.length):((actRow f R l).find? (fun a=>a.look == (t:Int))).getD ⟨t,-1,[],false⟩=actAt f R l t:=by
  have hlk:∀ s:Nat,(actAt f R l s).look=(s:Int):=fun _=>rfl
  cases hs:someA (actAt f R l t) with
  | true =>
    have hmem:actAt f R l t∈actRow f R l:=List.mem_filter.2 ⟨List.mem_map.2 ⟨t,List.mem_range.2 (by omega),rfl⟩,hs⟩
    cases hf:(actRow f R l).find? (fun a=>a.look == (t:Int)) with
    | none =>
      have:=List.find?_eq_none.1 hf _ hmem
      simp [hlk] at this
    | some a =>
      have h1:=List.find?_some hf
      have h2:=List.mem_of_find?_eq_some hf
      unfold actRow at h2
      obtain ⟨s,_,rfl⟩:=List.mem_map.1 (List.mem_filter.1 h2).1
      simp only [hlk,beq_iff_eq] at h1
      have:s=t:=by omega
      subst this
      rfl
  | false =>
    have hf:(actRow f R l).find? (fun a=>a.look == (t:Int))=none:=by
      rw [List.find?_eq_none]
      intro a ha hl
      unfold actRow at ha
      obtain ⟨h1,h2⟩:=List.mem_filter.1 ha
      obtain ⟨s,_,rfl⟩:=List.mem_map.1 h1
      simp only [hlk,beq_iff_eq] at hl
      have:s=t:=by omega
      subst this
      rw [hs] at h2; cases h2
    rw [hf]
    unfold someA at hs
    have hs:=of_decide_eq_false hs
    have h1:¬ 0≤(actAt f R l t).to:=fun h=>hs (.inl h)
    have h2:(actAt f R l t).acc=false:=by cases e:(actAt f R l t).acc with
      | false=>rfl
      | true=>exact absurd (.inr (.inl e)) hs
    have h3:(actAt f R l t).red=[]:=Classical.not_not.1 (fun h=>hs (.inr (.inr h)))
    have h4:(actAt f R l t).to=-1:=by
      unfold actAt toF at h1 ⊢
      simp only at h1 ⊢
      split at h1
      · rename_i hlt
        rw [if_pos hlt]
        split at h1
        · rename_i hm; rw [if_pos hm]; rfl
        · simp only [Option.getD_some] at h1
          omega
      · rename_i hlt
        rw [if_neg hlt]
    show (⟨t,-1,[],false⟩:Ac)=actAt f R l t
    rw [← h4,← h3,← h2]
    rfl
end Go.Proofs.YtiamjafecbpfpaaGreatDoor
namespace Go.Proofs.YtiamjafecbpfpaaGreatDoor
def closC (f:Fl) (R:List (List Int)) (Le:List Bool):Nat→List Ir→List Ir→Option (List Ir)
  | 0,_,_=>none
  | _+1,set,[]=>some set
  | k+1,set,x :: rest=>if fitI f x=true∧x ∉ set then closC f R Le k (putI x set) (rest++addsL f R Le x) else closC f R Le k set rest
theorem closC_spec {f:Fl} {R:List (List Int)} {Le:List Bool} (h:FE f R Le) (hp:FitP f) {S:Ir→Prop} {L:List Ir}:∀ (k:Nat) (set todo:List Ir),CW f S set todo→closC f R Le k set todo=some L→ClosI f S L
  | 0,_,_,_,e=>by cases e
  | k+1,set,[],hc,e=>by
    simp only [closC,Option.some.injEq] at e
    subst e; exact hc.done
  | k+1,set,x :: rest,hc,e=>by
    rw [closC] at e
    split at e
    · rename_i h1
      exact closC_spec h hp k _ _ (hc.new h1.1 (fun y=>adds_iff h hp)) e
    · rename_i h1
      refine closC_spec h hp k _ _ (hc.skip ?_) e
      by_cases h2:fitI f x=true
      · exact .inr (Classical.byContradiction fun h3=>h1 ⟨h2,h3⟩)
      · exact .inl (by simpa using h2)
theorem closC_eq {f:Fl} {R:List (List Int)} {Le:List Bool} (h:FE f R Le) (hp:FitP f) {k:Nat} {S L:List Ir} (e:closC f R Le k [] S=some L):closF f S=L :=
  closF_eq (closC_spec h hp k [] S (CW.start f S) e)
def runC (f:Fl) (R:List (List Int)) (Le:List Bool) (m:Nat):Nat→Nat→List (List Ir)→Option (List (List Ir))
  | 0,_,_=>none
  | k+1,i,T=>match (begL f :: T)[i]? with
    | none=>some T
    | some K=>match closC f R Le m [] K with
      | none=>none
      | some l=>match rowK (kernsL f l) T with
        | none=>none
        | some T'=>runC f R Le m k (i+1) T'
theorem runC_spec {f:Fl} {R:List (List Int)} {Le:List Bool} (h:FE f R Le) (hp:FitP f) {m:Nat}:∀ (k i:Nat) (T T':List (List Ir)),Met f T→T.Nodup→T.length+1≤600→i≤T.length+1→runC f R Le m k i T=some T'→runA f (601 - i) i (setsOf f T)=some (setsOf f T')
  | 0,_,_,_,_,_,_,_,e=>by cases e
  | k+1,i,T,T',hT,hn,hl,hi,e=>by
    rw [runC] at e
    cases hK:(begL f :: T)[i]? with
    | none =>
      rw [hK] at e
      simp only [Option.some.injEq] at e
      subst e
      have:=List.getElem?_eq_none_iff.1 hK
      simp at this
      exact run_end (by omega) (by omega)
    | some K =>
      rw [hK] at e
      simp only at e
      have hlt:=(List.getElem?_eq_some_iff.1 hK).1
      simp at hlt
      cases hC:closC f R Le m [] K with
      | none=>rw [hC] at e; cases e
      | some l =>
        rw [hC] at e
        simp only at e
        have hc:=closC_eq h hp hC
        rw [run_step hp hT hl (by omega) hK,hc]
        cases hr:rowK (kernsL f l) T with
        | none=>rw [hr] at e; cases e
        | some T2 =>
          rw [hr] at e
          simp only at e
          obtain ⟨k1,k2,k3,k4⟩:=rowK_met (f:=f) _ T T2 (kernsL_kern (by rw [← hc]; exact (closF_spec hp K).1)) hT hn hl hr
          have:=runC_spec h hp k (i+1) T2 T' k1 k2 k3 (by have:=k4.length_le; omega) e
          rw [Option.bind_some,show 600 - i=601 - (i+1) by omega]
          exact this
theorem allC_eq {f:Fl} {R:List (List Int)} {Le:List Bool} (h:FE f R Le) (hp:FitP f) {m k:Nat} {T:List (List Ir)} (e:runC f R Le m k 0 []=some T):allF f=some (setsOf f T) :=
  (run_start f).trans (runC_spec h hp k 0 [] T (by intro K hK; cases hK) List.nodup_nil (by simp) (by simp) e)
end Go.Proofs.YtiamjafecbpfpaaGreatDoor
namespace Go.Proofs.YtiamjafecbpfpaaGreatDoor
open Go.RowKit
def bx (n:UInt8):ByteArray:=⟨#[n]⟩
def itA (s:Int):It:=⟨s,⟨#[]⟩,⟨#[]⟩⟩
def fE:Fl:=⟨[bx 120,bx 121],[bx 97],[⟨2,[itA 0,itA 2],0⟩,⟨2,[itA 1],0⟩]⟩
def gE:Gr:=[(2,[0,2]),(2,[1])]
theorem fit_E:FitP fE:=by
  refine ⟨by decide,by decide,by decide,fun p hp=>?_,fun p hp=>?_,fun p hp x hx=>?_⟩
  all_goals simp only [fE,List.mem_cons,List.not_mem_nil,or_false] at hp
  all_goals rcases hp with rfl | rfl
  all_goals try (simp [fE])
  all_goals simp only [List.mem_cons,List.not_mem_nil,or_false] at hx
  · rcases hx with rfl | rfl <;> decide
  · subst hx; decide
theorem closedF_of' {emp:Nat→Prop} {R:List (List Int)} {l:Nat} {sy:List Nat} (h:∀ k,(hk:k<sy.length)→(∀ i,(hi:i<k)→emp sy[i])→∀ t,InR R sy[k] t→InR R l t):ClosedF emp R (l,sy):=by
  intro pre x post hp he t ht
  simp only at hp
  subst hp
  have:=h pre.length (by simp) (fun i hi=>by rw [List.getElem_append_left hi]; exact he _ (List.getElem_mem hi)) t
  simp at this
  exact this ht
def rE:List (List Int):=[[0],[1],[0,1]]
def lE:List Bool:=[false,false,false]
theorem eE:GivesB (fun _=>False) gE 3 lE:=by
  refine ⟨rfl,fun s hs=>⟨fun h=>?_,fun h=>?_⟩⟩
  · unfold OnB lE at h
    match s,hs with
    | 0,_=>simp at h
    | 1,_=>simp at h
    | 2,_=>simp at h
  · refine complete_B (base:=fun _=>False) (g:=gE) (fun s h=>h.elim) (fun p hp=>?_) h
    simp only [gE,List.mem_cons,List.not_mem_nil,or_false] at hp
    rcases hp with rfl | rfl <;> intro hx
    · exact absurd (hx 0 (by simp)) (by simp [OnB,lE])
    · exact absurd (hx 1 (by simp)) (by simp [OnB,lE])
theorem fstE:GivesR (Fst (Der (fun _=>False) gE) 2 gE) 3 rE:=by
  refine ⟨rfl,?_,fun s hs t=>⟨fun h=>?_,fun h=>?_⟩⟩
  · intro l hl
    simp [rE] at hl
    rcases hl with rfl | rfl | rfl <;> simp [Rising]
  · obtain ⟨l,h1,h2⟩:=h
    match s,hs with
    | 0,_=>simp [rE] at h1; subst h1; simp at h2; subst h2; exact .term (t:=0) (by omega)
    | 1,_=>simp [rE] at h1; subst h1; simp at h2; subst h2; exact .term (t:=1) (by omega)
    | 2,_ =>
      simp [rE] at h1
      subst h1
      simp at h2
      rcases h2 with rfl | rfl
      · exact .prod (pre:=[]) (x:=0) (post:=[2]) (by simp [gE]) (by simp) (.term (t:=0) (by omega))
      · exact .prod (pre:=[]) (x:=1) (post:=[]) (by simp [gE]) (by simp) (.term (t:=1) (by omega))
  · refine complete_F (emp:=Der (fun _=>False) gE) (terms:=2) (g:=gE) (fun t ht=>?_) (fun p hp=>?_) h
    · match t,ht with
      | 0,_=>exact ⟨[0],rfl,by simp⟩
      | 1,_=>exact ⟨[1],rfl,by simp⟩
    · simp only [gE,List.mem_cons,List.not_mem_nil,or_false] at hp
      rcases hp with rfl | rfl
      · refine closedF_of' (fun k hk he t ht=>?_)
        obtain ⟨l,h1,h2⟩:=ht
        match k,hk with
        | 0,_=>simp [rE] at h1; subst h1; simp at h2; subst h2; exact ⟨[0,1],rfl,by simp⟩
        | 1,_=>simp [rE] at h1; subst h1; exact ⟨[0,1],rfl,h2⟩
      · refine closedF_of' (fun k hk _ t ht=>?_)
        obtain ⟨l,h1,h2⟩:=ht
        match k,hk with
        | 0,_=>simp [rE] at h1; subst h1; simp at h2; subst h2; exact ⟨[0,1],rfl,by simp⟩
theorem feE:FE fE rE lE:=⟨fstE,eE⟩
theorem begE:closF fE (begL fE)=[(-1,0,2),(0,0,2),(1,0,2)]:=closC_eq feE fit_E (k:=30) (by decide)
def kE:List (List Ir):=[[(0,1,2)],[(1,1,2)],[(-1,1,2)],[(0,2,2)]]
theorem allE:allF fE=some (setsOf fE kE):=allC_eq feE fit_E (m:=30) (k:=10) (by decide)
end Go.Proofs.YtiamjafecbpfpaaGreatDoor
namespace Go.Proofs.YtiamjafecbpfpaaGreatDoor
theorem rise_len {p:Int}:∀ (l:List Int) (m:Int),l.Pairwise (· < ·)→(∀ x∈l,m≤x∧x<p)→l.length≤(p - m).toNat
  | [],_,_,_=>Nat.zero_le _
  | x :: t,m,h,hin=>by
    have hx:=hin x (by simp)
    have:=rise_len t (x+1) (List.pairwise_cons.1 h).2 (fun y hy=>⟨by have:=(List.pairwise_cons.1 h).1 y hy; omega,(hin y (by simp [hy])).2⟩)
    rw [List.length_cons]
    omega
theorem sum_le {l:List Nat} {c:Nat} (h:∀ x∈l,x≤c):l.sum≤l.length * c:=by
  induction l with
  | nil=>simp
  | cons a l ih =>
    rw [List.sum_cons,List.length_cons,Nat.succ_mul]
    have:=h a (by simp)
    have:=ih (fun x hx=>h x (by simp [hx]))
    omega
theorem size_row {f:Fl} {R:List (List Ir)} {l:List Ir} (hr:RisingI l) (hf:∀ x∈l,fitI f x=true) (h1:f.n≤16) (h2:f.prods.length≤16):sizeR (rowT f R l)≤400:=by
  have hn:f.n=f.terms.length+f.nons.length:=rfl
  have hg:(goRow f R l).length≤f.n:=by
    have:=List.length_filterMap_le (fun s=>(toF f R l s).map fun (t:Int)=>((s:Int),t)) (List.range f.n)
    simpa [goRow] using this
  have ha:(actRow f R l).length≤17:=by
    unfold actRow
    refine Nat.le_trans (List.length_filter_le _ _) ?_
    rw [List.length_map,List.length_range]; omega
  have hs:sizeA (actRow f R l)≤(actRow f R l).length * 17:=by
    unfold sizeA
    have:=sum_le (l:=(actRow f R l).map fun a=>1+a.red.length) (c:=17) (fun x hx=>by
      obtain ⟨a,ha,rfl⟩:=List.mem_map.1 hx
      unfold actRow at ha
      obtain ⟨t,_,rfl⟩:=List.mem_map.1 (List.mem_filter.1 ha).1
      have:=rise_len (p:=f.prods.length) (redL f l t) 0 (redL_rise hr hf t) (fun x hx=>redL_in hf t x hx)
      show 1+(redL f l t).length≤17
      omega)
    simpa using this
  unfold sizeR rowT
  simp only
  have:(actRow f R l).length * 17≤17 * 17:=Nat.mul_le_mul_right _ ha
  omega
theorem size_tab {f:Fl} (hp:FitP f) (h1:f.n≤16) (h2:f.prods.length≤16) {T:List Rw} (h:tabF f=some T):sizeTb T≤240000:=by
  unfold tabF at h
  obtain ⟨R,hR,rfl⟩:=Option.map_eq_some_iff.1 h
  have hl:=all_len hp hR
  unfold sizeTb
  have:=sum_le (l:=(R.map (rowT f R)).map sizeR) (c:=400) (fun x hx=>by
    obtain ⟨r,hr,rfl⟩:=List.mem_map.1 hx
    obtain ⟨l,hm,rfl⟩:=List.mem_map.1 hr
    obtain ⟨k1,k2⟩:=sets_fit hp hR hm
    exact size_row k1 k2 h1 h2)
  rw [List.length_map,List.length_map] at this
  have h3:R.length * 400≤600 * 400:=Nat.mul_le_mul_right _ hl.2
  omega
def actC (f:Fl) (l:List Ir) (t:Nat):Ac:=⟨t,if t<f.terms.length∧movedL f l (t:Int)≠[] then 0 else -1,redL f l t,accL f l t⟩
def actsC (f:Fl) (l:List Ir):List Ac:=((List.range (f.terms.length+1)).map (actC f l)).filter someA
def tornC (f:Fl) (l:List Ir):Nat:=((actsC f l).filter tornA).length
theorem act_same (f:Fl) (R:List (List Ir)) (l:List Ir) (t:Nat):someA (actAt f R l t)=someA (actC f l t)∧tornA (actAt f R l t)=tornA (actC f l t):=by
  have e:((actAt f R l t).to=-1∧(actC f l t).to=-1)∨(0≤(actAt f R l t).to∧(actC f l t).to=0):=by
    unfold actAt actC toF
    simp only
    by_cases h1:t<f.terms.length
    · by_cases h2:movedL f l (t:Int)=[]
      · simp [h1,h2]
      · right; simp [h1,h2]
    · simp [h1]
  have e1:(actAt f R l t).red=(actC f l t).red:=rfl
  have e2:(actAt f R l t).acc=(actC f l t).acc:=rfl
  constructor
  · unfold someA
    rw [e1,e2,decide_eq_decide]
    rcases e with ⟨h1,h2⟩ | ⟨h1,h2⟩
    · rw [h1,h2]
    · constructor
      · intro _; exact .inl (by omega)
      · intro _; exact .inl h1
  · unfold tornA
    rw [e1,e2]
    have e3:((actAt f R l t).to != -1)=((actC f l t).to != -1):=by
      rcases e with ⟨h1,h2⟩ | ⟨h1,h2⟩
      · rw [h1,h2]
      · rw [h2]
        have:¬ (actAt f R l t).to=-1:=by omega
        simp [this]
    rw [e3]
theorem torn_row {f:Fl} {R:List (List Ir)} {l:List Ir} (n:Int):(tornRow n (actRow f R l)).length=tornC f l:=by
  unfold tornRow tornC actRow actsC
  rw [List.length_map,List.filter_filter,List.filter_filter,List.filter_map,List.filter_map,List.length_map,List.length_map]
  congr 1
  refine List.filter_congr (fun t _=>?_)
  have:=act_same f R l t
  simp only [Function.comp]
  rw [this.1,this.2]
theorem torn_len (f:Fl) (R R':List (List Ir)):(tornL (R'.map (rowT f R))).length=(R'.map (tornC f)).sum:=by
  unfold tornL
  rw [List.length_flatMap]
  congr 1
  have:∀ (l:List (List Ir)) (n:Nat),((l.map (rowT f R)).zipIdx n).map (fun p=>(tornRow p.2 p.1.acts).length)=l.map (tornC f):=by
    intro l
    induction l with
    | nil=>intro n; rfl
    | cons a l ih =>
      intro n
      rw [List.map_cons,List.zipIdx_cons,List.map_cons,List.map_cons,ih]
      congr 1
      exact torn_row _
  exact this R' 0
end Go.Proofs.YtiamjafecbpfpaaGreatDoor
namespace Go.Proofs.YtiamjafecbpfpaaGreatDoor
open Go.RowKit
theorem row2 {α:Type} (enc:α→Value) (x y:α) (w:World) (t:TypeId):RowAt enc [x,y] (some ⟨w.heap.size,0,none⟩) (w.alloc (Obj.cells #[enc x,enc y] t)):=by
  intro i z hi
  refine ⟨w.heap.size,0,rfl,by simp,?_⟩
  match i,hi with
  | 0,hi=>simp at hi; subst hi; simp
  | 1,hi=>simp at hi; subst hi; simp
theorem its2 (x y:It) (w:World) (t:TypeId) (hx:i64B x.sym∧x.fld.size≤9223372036854775807∧x.als.size≤9223372036854775807) (hy:i64B y.sym∧y.fld.size≤9223372036854775807∧y.als.size≤9223372036854775807) :
    ItsAt [x,y] (some ⟨w.heap.size,0,none⟩) (w.alloc (Obj.cells #[.int .i64 x.sym,.string x.fld,.string x.als,.int .i64 y.sym,.string y.fld,.string y.als] t)):=by
  intro i z hi
  refine ⟨w.heap.size,0,rfl,by simp,?_⟩
  match i,hi with
  | 0,hi=>simp at hi; subst hi; exact ⟨by simp,by simp,by simp,hx⟩
  | 1,hi=>simp at hi; subst hi; exact ⟨by simp,by simp,by simp,hy⟩
theorem its1 (x:It) (w:World) (t:TypeId) (hx:i64B x.sym∧x.fld.size≤9223372036854775807∧x.als.size≤9223372036854775807) :
    ItsAt [x] (some ⟨w.heap.size,0,none⟩) (w.alloc (Obj.cells #[.int .i64 x.sym,.string x.fld,.string x.als] t)):=by
  intro i z hi
  refine ⟨w.heap.size,0,rfl,by simp,?_⟩
  match i,hi with
  | 0,hi=>simp at hi; subst hi; exact ⟨by simp,by simp,by simp,hx⟩
theorem itA_ok (s:Int) (h:i64B s):i64B (itA s).sym∧(itA s).fld.size≤9223372036854775807∧(itA s).als.size≤9223372036854775807:=⟨h,by simp [itA,ByteArray.size],by simp [itA,ByteArray.size]⟩
theorem row1 {α:Type} (enc:α→Value) (x:α) (w:World) (t:TypeId):RowAt enc [x] (some ⟨w.heap.size,0,none⟩) (w.alloc (Obj.cells #[enc x] t)):=by
  intro i z hi
  refine ⟨w.heap.size,0,rfl,by simp,?_⟩
  match i,hi with
  | 0,hi=>simp at hi; subst hi; simp
def wE1 (w:World):World:=w.alloc (Obj.cells #[.string (bx 120),.string (bx 121)] 9)
def wE2 (w:World):World:=(wE1 w).alloc (Obj.cells #[.string (bx 97)] 9)
def wE3 (w:World):World:=(wE2 w).alloc (Obj.cells #[.int .i64 0,.string ⟨#[]⟩,.string ⟨#[]⟩,.int .i64 2,.string ⟨#[]⟩,.string ⟨#[]⟩] 44)
def wE4 (w:World):World:=(wE3 w).alloc (Obj.cells #[.int .i64 1,.string ⟨#[]⟩,.string ⟨#[]⟩] 44)
def wE5 (w:World):World:=(wE4 w).alloc (Obj.cells #[.int .i64 2,.slice (some ⟨w.heap.size+1+1,0,none⟩) 2 2,.int .i64 0,.int .i64 2,.slice (some ⟨w.heap.size+1+1+1,0,none⟩) 1 1,.int .i64 0] 47)
def aE (n:Nat):FlA:=⟨some ⟨n,0,none⟩,2,some ⟨n+1,0,none⟩,1,some ⟨n+1+1+1+1,0,none⟩,2⟩
theorem sz1 (w:World):(wE1 w).heap.size=w.heap.size+1:=by simp [wE1]
theorem sz2 (w:World):(wE2 w).heap.size=w.heap.size+1+1:=by simp [wE2,sz1]
theorem sz3 (w:World):(wE3 w).heap.size=w.heap.size+1+1+1:=by simp [wE3,sz2]
theorem sz4 (w:World):(wE4 w).heap.size=w.heap.size+1+1+1+1:=by simp [wE4,sz3]
theorem below_new (w:World) (o:Obj):Below w.heap.size w (w.alloc o):=(Below.refl _ _).alloc (Nat.le_refl _) _
theorem flE (w:World):FlAt fE (aE w.heap.size) (wE5 w):=by
  have b2:Below (wE1 w).heap.size (wE1 w) (wE2 w):=below_new _ _
  have b3:Below (wE2 w).heap.size (wE2 w) (wE3 w):=below_new _ _
  have b4:Below (wE3 w).heap.size (wE3 w) (wE4 w):=below_new _ _
  have b5:Below (wE4 w).heap.size (wE4 w) (wE5 w):=below_new _ _
  have r1:RowAt Value.string [bx 120,bx 121] (some ⟨w.heap.size,0,none⟩) (wE5 w):=((((row2 Value.string (bx 120) (bx 121) w _:RowAt _ _ _ (wE1 w)).next b2).next b3).next b4).next b5
  have r2:RowAt Value.string [bx 97] (some ⟨w.heap.size+1,0,none⟩) (wE5 w):=by
    have:=row1 Value.string (bx 97) (wE1 w) 9
    rw [sz1] at this
    exact (((this:RowAt _ _ _ (wE2 w)).next b3).next b4).next b5
  have i1:ItsAt [itA 0,itA 2] (some ⟨w.heap.size+1+1,0,none⟩) (wE5 w):=by
    have:=its2 (itA 0) (itA 2) (wE2 w) 44 (itA_ok 0 (by unfold i64B; omega)) (itA_ok 2 (by unfold i64B; omega))
    rw [sz2] at this
    exact ((this:ItsAt _ _ (wE3 w)).next b4).next b5
  have i2:ItsAt [itA 1] (some ⟨w.heap.size+1+1+1,0,none⟩) (wE5 w):=by
    have:=its1 (itA 1) (wE3 w) 44 (itA_ok 1 (by unfold i64B; omega))
    rw [sz3] at this
    exact (this:ItsAt _ _ (wE4 w)).next b5
  have pr:PrsAt fE.prods (some ⟨w.heap.size+1+1+1+1,0,none⟩) (wE5 w):=by
    intro i p hi
    have hs:=sz4 w
    refine ⟨w.heap.size+1+1+1+1,0,?_⟩
    have hsz:w.heap.size+1+1+1+1<(wE5 w).heap.size:=by simp [wE5,sz4]
    match i,hi with
    | 0,hi =>
      simp [fE] at hi; subst hi
      refine ⟨.slice (some ⟨w.heap.size+1+1,0,none⟩) 2 2,rfl,hsz,?_,?_,?_,⟨_,2,rfl,i1,(fun h=>by cases h),Nat.le_refl _,by omega⟩,by unfold i64B; simp,by unfold i64B; simp⟩ <;> (rw [← hs]; simp [wE5])
    | 1,hi =>
      simp [fE] at hi; subst hi
      refine ⟨.slice (some ⟨w.heap.size+1+1+1,0,none⟩) 1 1,rfl,hsz,?_,?_,?_,⟨_,1,rfl,i2,(fun h=>by cases h),Nat.le_refl _,by omega⟩,by unfold i64B; simp,by unfold i64B; simp⟩ <;> (rw [← hs]; simp [wE5])
    | i+2,hi=>simp [fE] at hi
  exact ⟨r1,r2,pr,by decide,by decide,by decide,(show 2≤2 from Nat.le_refl _),fun h=>by cases h⟩
theorem fitB_E:fitB fE=true:=by decide
def sE:List (List Ir):=[[(-1,0,2),(0,0,2),(1,0,2)],[(0,0,2),(0,1,2),(1,0,2)],[(1,1,2)],[(-1,1,2)],[(0,2,2)]]
theorem setsE:setsOf fE kE=sE:=by
  have h1:closF fE [(0,1,2)]=[(0,0,2),(0,1,2),(1,0,2)]:=closC_eq feE fit_E (k:=30) (by decide)
  have h2:closF fE [(1,1,2)]=[(1,1,2)]:=closC_eq feE fit_E (k:=30) (by decide)
  have h3:closF fE [(-1,1,2)]=[(-1,1,2)]:=closC_eq feE fit_E (k:=30) (by decide)
  have h4:closF fE [(0,2,2)]=[(0,2,2)]:=closC_eq feE fit_E (k:=30) (by decide)
  unfold setsOf kE sE
  simp only [List.map_cons,List.map_nil]
  rw [begE,h1,h2,h3,h4]
noncomputable def tE:List Rw:=sE.map (rowT fE sE)
theorem tabE:tabF fE=some tE:=by
  unfold tabF tE
  rw [allE,setsE]; rfl
theorem tornE:(tornL tE).length=0:=by
  unfold tE
  rw [torn_len]
  decide
theorem actE {t:Nat} (ht:t≤2):actF tE 0 t=actAt fE sE [(-1,0,2),(0,0,2),(1,0,2)] t:=by
  have h:rowF tE 0=rowT fE sE [(-1,0,2),(0,0,2),(1,0,2)]:=by
    unfold rowF tE sE
    rw [if_pos (Int.le_refl _)]; rfl
  unfold actF
  rw [h]
  exact find_act (f:=fE) (R:=sE) (l:=[(-1,0,2),(0,0,2),(1,0,2)]) (t:=t) ht
theorem actE0:0≤(actF tE 0 0).to:=by
  have h:=actE (t:=0) (by omega)
  have h':actF tE 0 0=actAt fE sE [(-1,0,2),(0,0,2),(1,0,2)] 0:=h
  rw [h']
  unfold actAt toF
  simp only
  rw [if_pos (by decide),if_neg (by decide)]
  simp
theorem actE1:0≤(actF tE 0 1).to:=by
  have h:=actE (t:=1) (by omega)
  have h':actF tE 0 1=actAt fE sE [(-1,0,2),(0,0,2),(1,0,2)] 1:=h
  rw [h']
  unfold actAt toF
  simp only
  rw [if_pos (by decide),if_neg (by decide)]
  simp
theorem actE2:(actF tE 0 2).to=-1:=by
  have h:=actE (t:=2) (by omega)
  have h':actF tE 0 2=actAt fE sE [(-1,0,2),(0,0,2),(1,0,2)] 2:=h
  rw [h']
  unfold actAt
  simp only
  rw [if_neg (by decide)]
def fT:Fl:=⟨[bx 120],[bx 97],[⟨1,[itA 1,itA 1],0⟩,⟨1,[itA 0],0⟩]⟩
def gT:Gr:=[(1,[1,1]),(1,[0])]
theorem fit_T:FitP fT:=by
  refine ⟨by decide,by decide,by decide,fun p hp=>?_,fun p hp=>?_,fun p hp x hx=>?_⟩
  all_goals simp only [fT,List.mem_cons,List.not_mem_nil,or_false] at hp
  all_goals rcases hp with rfl | rfl
  all_goals try (simp [fT])
  all_goals simp only [List.mem_cons,List.not_mem_nil,or_false,or_self] at hx
  all_goals subst hx
  all_goals decide
theorem fitB_T:fitB fT=true:=by decide
def rT:List (List Int):=[[0],[0]]
def lT:List Bool:=[false,false]
theorem eT:GivesB (fun _=>False) gT 2 lT:=by
  refine ⟨rfl,fun s hs=>⟨fun h=>?_,fun h=>?_⟩⟩
  · unfold OnB lT at h
    match s,hs with
    | 0,_=>simp at h
    | 1,_=>simp at h
  · refine complete_B (base:=fun _=>False) (g:=gT) (fun s h=>h.elim) (fun p hp=>?_) h
    simp only [gT,List.mem_cons,List.not_mem_nil,or_false] at hp
    rcases hp with rfl | rfl <;> intro hx
    · exact absurd (hx 1 (by simp)) (by simp [OnB,lT])
    · exact absurd (hx 0 (by simp)) (by simp [OnB,lT])
theorem fstT:GivesR (Fst (Der (fun _=>False) gT) 1 gT) 2 rT:=by
  refine ⟨rfl,?_,fun s hs t=>⟨fun h=>?_,fun h=>?_⟩⟩
  · intro l hl
    simp [rT] at hl
    subst hl; simp [Rising]
  · obtain ⟨l,h1,h2⟩:=h
    match s,hs with
    | 0,_=>simp [rT] at h1; subst h1; simp at h2; subst h2; exact .term (t:=0) (by omega)
    | 1,_ =>
      simp [rT] at h1
      subst h1
      simp at h2
      subst h2
      exact .prod (pre:=[]) (x:=0) (post:=[]) (by simp [gT]) (by simp) (.term (t:=0) (by omega))
  · refine complete_F (emp:=Der (fun _=>False) gT) (terms:=1) (g:=gT) (fun t ht=>?_) (fun p hp=>?_) h
    · match t,ht with
      | 0,_=>exact ⟨[0],rfl,by simp⟩
    · simp only [gT,List.mem_cons,List.not_mem_nil,or_false] at hp
      rcases hp with rfl | rfl
      · refine closedF_of' (fun k hk he t ht=>?_)
        obtain ⟨l,h1,h2⟩:=ht
        match k,hk with
        | 0,_=>simp [rT] at h1; subst h1; exact ⟨[0],rfl,h2⟩
        | 1,_=>simp [rT] at h1; subst h1; exact ⟨[0],rfl,h2⟩
      · refine closedF_of' (fun k hk _ t ht=>?_)
        obtain ⟨l,h1,h2⟩:=ht
        match k,hk with
        | 0,_=>simp [rT] at h1; subst h1; simp at h2; subst h2; exact ⟨[0],rfl,by simp⟩
theorem feT:FE fT rT lT:=⟨fstT,eT⟩
def kT:List (List Ir):=[[(1,1,0),(1,1,1)],[(-1,1,1),(0,1,0),(0,1,1)],[(0,1,0),(0,1,1),(0,2,0),(0,2,1)]]
theorem allT:allF fT=some (setsOf fT kT):=allC_eq feT fit_T (m:=60) (k:=30) (by decide)
def sT:List (List Ir):=[[(-1,0,1),(0,0,0),(0,0,1),(1,0,0),(1,0,1)],[(1,1,0),(1,1,1)],[(-1,1,1),(0,0,0),(0,0,1),(0,1,0),(0,1,1),(1,0,0),(1,0,1)],[(0,0,0),(0,0,1),(0,1,0),(0,1,1),(0,2,0),(0,2,1),(1,0,0),(1,0,1)]]
theorem setsT:setsOf fT kT=sT:=by
  have h0:closF fT (begL fT)=[(-1,0,1),(0,0,0),(0,0,1),(1,0,0),(1,0,1)]:=closC_eq feT fit_T (k:=60) (by decide)
  have h1:closF fT [(1,1,0),(1,1,1)]=[(1,1,0),(1,1,1)]:=closC_eq feT fit_T (k:=60) (by decide)
  have h2:closF fT [(-1,1,1),(0,1,0),(0,1,1)]=[(-1,1,1),(0,0,0),(0,0,1),(0,1,0),(0,1,1),(1,0,0),(1,0,1)]:=closC_eq feT fit_T (k:=60) (by decide)
  have h3:closF fT [(0,1,0),(0,1,1),(0,2,0),(0,2,1)]=[(0,0,0),(0,0,1),(0,1,0),(0,1,1),(0,2,0),(0,2,1),(1,0,0),(1,0,1)]:=closC_eq feT fit_T (k:=60) (by decide)
  unfold setsOf kT sT
  simp only [List.map_cons,List.map_nil]
  rw [h0,h1,h2,h3]
noncomputable def tT:List Rw:=sT.map (rowT fT sT)
theorem tabT:tabF fT=some tT:=by
  unfold tabF tT
  rw [allT,setsT]; rfl
theorem tornT:(tornL tT).length=1:=by
  unfold tT
  rw [torn_len]
  decide
theorem sizeE:sizeTb tE≤240000:=size_tab fit_E (by decide) (by decide) tabE
theorem sizeT2:sizeTb tT≤240000:=size_tab fit_T (by decide) (by decide) tabT
def wT1 (w:World):World:=w.alloc (Obj.cells #[.string (bx 120)] 9)
def wT2 (w:World):World:=(wT1 w).alloc (Obj.cells #[.string (bx 97)] 9)
def wT3 (w:World):World:=(wT2 w).alloc (Obj.cells #[.int .i64 1,.string ⟨#[]⟩,.string ⟨#[]⟩,.int .i64 1,.string ⟨#[]⟩,.string ⟨#[]⟩] 44)
def wT4 (w:World):World:=(wT3 w).alloc (Obj.cells #[.int .i64 0,.string ⟨#[]⟩,.string ⟨#[]⟩] 44)
def wT5 (w:World):World:=(wT4 w).alloc (Obj.cells #[.int .i64 1,.slice (some ⟨w.heap.size+1+1,0,none⟩) 2 2,.int .i64 0,.int .i64 1,.slice (some ⟨w.heap.size+1+1+1,0,none⟩) 1 1,.int .i64 0] 47)
def aT (n:Nat):FlA:=⟨some ⟨n,0,none⟩,1,some ⟨n+1,0,none⟩,1,some ⟨n+1+1+1+1,0,none⟩,2⟩
theorem tz1 (w:World):(wT1 w).heap.size=w.heap.size+1:=by simp [wT1]
theorem tz2 (w:World):(wT2 w).heap.size=w.heap.size+1+1:=by simp [wT2,tz1]
theorem tz3 (w:World):(wT3 w).heap.size=w.heap.size+1+1+1:=by simp [wT3,tz2]
theorem tz4 (w:World):(wT4 w).heap.size=w.heap.size+1+1+1+1:=by simp [wT4,tz3]
theorem flT (w:World):FlAt fT (aT w.heap.size) (wT5 w):=by
  have b2:Below (wT1 w).heap.size (wT1 w) (wT2 w):=below_new _ _
  have b3:Below (wT2 w).heap.size (wT2 w) (wT3 w):=below_new _ _
  have b4:Below (wT3 w).heap.size (wT3 w) (wT4 w):=below_new _ _
  have b5:Below (wT4 w).heap.size (wT4 w) (wT5 w):=below_new _ _
  have r1:RowAt Value.string [bx 120] (some ⟨w.heap.size,0,none⟩) (wT5 w):=((((row1 Value.string (bx 120) w _:RowAt _ _ _ (wT1 w)).next b2).next b3).next b4).next b5
  have r2:RowAt Value.string [bx 97] (some ⟨w.heap.size+1,0,none⟩) (wT5 w):=by
    have:=row1 Value.string (bx 97) (wT1 w) 9
    rw [tz1] at this
    exact (((this:RowAt _ _ _ (wT2 w)).next b3).next b4).next b5
  have i1:ItsAt [itA 1,itA 1] (some ⟨w.heap.size+1+1,0,none⟩) (wT5 w):=by
    have:=its2 (itA 1) (itA 1) (wT2 w) 44 (itA_ok 1 (by unfold i64B; omega)) (itA_ok 1 (by unfold i64B; omega))
    rw [tz2] at this
    exact ((this:ItsAt _ _ (wT3 w)).next b4).next b5
  have i2:ItsAt [itA 0] (some ⟨w.heap.size+1+1+1,0,none⟩) (wT5 w):=by
    have:=its1 (itA 0) (wT3 w) 44 (itA_ok 0 (by unfold i64B; omega))
    rw [tz3] at this
    exact (this:ItsAt _ _ (wT4 w)).next b5
  have pr:PrsAt fT.prods (some ⟨w.heap.size+1+1+1+1,0,none⟩) (wT5 w):=by
    intro i p hi
    have hs:=tz4 w
    refine ⟨w.heap.size+1+1+1+1,0,?_⟩
    have hsz:w.heap.size+1+1+1+1<(wT5 w).heap.size:=by simp [wT5,tz4]
    match i,hi with
    | 0,hi =>
      simp [fT] at hi; subst hi
      refine ⟨.slice (some ⟨w.heap.size+1+1,0,none⟩) 2 2,rfl,hsz,?_,?_,?_,⟨_,2,rfl,i1,(fun h=>by cases h),Nat.le_refl _,by omega⟩,by unfold i64B; simp,by unfold i64B; simp⟩ <;> (rw [← hs]; simp [wT5])
    | 1,hi =>
      simp [fT] at hi; subst hi
      refine ⟨.slice (some ⟨w.heap.size+1+1+1,0,none⟩) 1 1,rfl,hsz,?_,?_,?_,⟨_,1,rfl,i2,(fun h=>by cases h),Nat.le_refl _,by omega⟩,by unfold i64B; simp,by unfold i64B; simp⟩ <;> (rw [← hs]; simp [wT5])
    | i+2,hi=>simp [fT] at hi
  exact ⟨r1,r2,pr,by decide,by decide,by decide,(show 2≤2 from Nat.le_refl _),fun h=>by cases h⟩
end Go.Proofs.YtiamjafecbpfpaaGreatDoor
namespace Go.Proofs.YtiamjafecbpfpaaGreatDoor
open Go.RowKit Go.Maps
def Built (f:Fl) (w:World) (e:Ending) (W':World):Prop:=((∃ v' T,tabF f=some T∧e=.returned (.tuple #[.agg #[v'],.int .i64 0])∧SlW T v' W'∧T.length≤600)∨(tabF f=none∧e=.returned (.tuple #[.agg #[.slice none 0 0],.int .i64 15])))∧Below w.heap.size w W'
set_option maxRecDepth 100000 in
set_option maxHeartbeats 2000000 in
theorem build12_any (f:Fl) (a:FlA) (w:World) (hf:FlAt f a w) (hb:fitB f=true) (hT:Tb w) :
    Calls Tryz.prog 12 #[a.val f] w fun e w'=>Built f w e w':=by
  obtain ⟨ir,hir,hr0,hr1,hr2⟩:=info_parts infoRow
  have hp:=fit_facts hb
  have HAL:Hid (∀ W,Below w.heap.size w W→Calls Tryz.prog 24 #[a.val f] W fun e w'=>Alls f W e w'):=fun W hW=>allP_any f a W (hf.next hW) hb (hT.next hW)
  have HMO:Hid (∀ (R:List (List Ir)) (v:Value) W,allF f=some R→SlLL R v W→R.length≤600→(∀ x∈R,x.length≤maxI)→Calls Tryz.prog 25 #[a.val f,v] W fun e w'=>∃ m b,e=.returned (.pointer (some ⟨m,0,none⟩))∧MkAt f a R m b w'∧Below W.heap.size W w'):=fun R v W h1 h2 h3 h4=>makerOf_any f a R v W hp h1 h2 h3 h4
  have HRO:Hid (∀ (R:List (List Ir)) (l:List Ir) (v:Value) (m b i:Nat) W,Below w.heap.size w W→allF f=some R→R.length≤600→R[i]?=some l→l.length≤maxI→MkAt f a R m b W→SlL l v W→Calls Tryz.prog 26 #[.pointer (some ⟨m,0,none⟩),v] W fun e w'=>∃ va vg,e=.returned (.agg #[va,vg])∧KeepR W.heap.size w'.heap.size (rowT f R l) va vg w'∧Below W.heap.size W w'):=fun R l v m b i W h0 h1 h2 h3 h4 h5 h6=>rowM_any f a R l v m b i W hp h1 h2 h3 h4 (hf.next h0) h5 h6
  obtain ⟨ta,tc,na,nc,pa,pc⟩:=a
  obtain ⟨w0,hw0⟩:∃ w0,(w.alloc (Obj.cells #[.slice ta f.terms.length tc,.slice na f.nons.length nc,.slice pa f.prods.length pc] 50)).alloc (Obj.cells #[.slice none 0 0] 24)=w0:=⟨_,rfl⟩
  have B0:Below w.heap.size w w0:=by rw [← hw0]; exact ((Below.refl _ _).alloc (Nat.le_refl _) _).alloc (by simp) _
  have d0:w0.cell? ⟨w.heap.size,0,none⟩=some (.slice ta f.terms.length tc):=by rw [← hw0]; simp
  have d1:w0.cell? ⟨w.heap.size,1,none⟩=some (.slice na f.nons.length nc):=by rw [← hw0]; simp
  have d2:w0.cell? ⟨w.heap.size,2,none⟩=some (.slice pa f.prods.length pc):=by rw [← hw0]; simp
  have hz:w0.heap[w.heap.size+1]?=some (Obj.cells #[.slice none 0 0] 24):=by rw [← hw0]; exact heap_alloc2_new _ _ _
  have hzl:w.heap.size+1<w0.heap.size:=(Array.getElem?_eq_some_iff.1 hz).1
  clear hf hT
  unfold FlA.val at *
  simp only at *
  go_enter Tryz.func12,Tryz.ntmps12
  go_upto_region 1 with fail
  try rw [hw0]
  clear hw0
  have HA:=HAL.out w0 B0
  go_wp2_with fail
  refine HA.mono ?_
  rintro e w1 ⟨h1,b1⟩
  have B1:Below w.heap.size w w1:=B0.trans (b1.mono B0.size)
  have hz1:w1.heap[w.heap.size+1]?=some (Obj.cells #[.slice none 0 0] 24):=(b1.block _ hzl).trans hz
  have D0:=(b1.cell (p:=⟨w.heap.size,0,none⟩) (Nat.lt_of_succ_lt hzl)).trans d0
  have D1:=(b1.cell (p:=⟨w.heap.size,1,none⟩) (Nat.lt_of_succ_lt hzl)).trans d1
  have D2:=(b1.cell (p:=⟨w.heap.size,2,none⟩) (Nat.lt_of_succ_lt hzl)).trans d2
  have hzl1:=Nat.lt_of_lt_of_le hzl b1.size
  clear HA HAL d0 d1 d2
  rcases h1 with ⟨v',R,k1,rfl,k2,k3,k4⟩ | ⟨k1,rfl⟩
  · have HTF:Hid (tabF f=some (R.map (rowT f R))):=by show _=_; unfold tabF; rw [k1]; rfl
    have HSL:Hid (∀ W,Below w1.heap.size w1 W→SlLL R v' W):=fun W hW=>k2.next hW
    obtain ⟨ra,rc,rfl,_⟩:=id k2
    have HM:=HMO.out R _ w1 k1 k2 k3 k4
    have HK1:Hid (allF f=some R):=k1
    have HK4:Hid (∀ x∈R,x.length≤maxI):=k4
    clear HMO k2 k4
    go_wp2_with fail
    refine HM.mono ?_
    rintro e w2 ⟨m,b,rfl,hMk,b2⟩
    have B2:Below w.heap.size w w2:=B1.trans (b2.mono B1.size)
    have HMK:Hid (∀ W,Below w2.heap.size w2 W→MkAt f ⟨ta,tc,na,nc,pa,pc⟩ R m b W):=fun W hW=>hMk.next hW
    have bt:Below w2.heap.size w2 (w2.alloc (Obj.cells #[.slice none 0 0] 24)):=(Below.refl _ _).alloc (Nat.le_refl _) _
    have hz3:(w2.alloc (Obj.cells #[.slice none 0 0] 24)).heap[w.heap.size+1]?=some (Obj.cells #[.slice none 0 0] 24):=(bt.block _ (Nat.lt_of_lt_of_le hzl1 b2.size)).trans ((b2.block _ hzl1).trans hz1)
    have htb:(w2.alloc (Obj.cells #[.slice none 0 0] 24)).heap[w2.heap.size]?=some (Obj.cells #[.slice none 0 0] 24):=heap_alloc_new _ _
    have B3:Below w.heap.size w (w2.alloc (Obj.cells #[.slice none 0 0] 24)):=B2.trans (bt.mono B2.size)
    have HS3:Hid (∀ W,But (fun k=>k=w2.heap.size) (w2.alloc (Obj.cells #[.slice none 0 0] 24)) W→SlLL R (.slice ra R.length rc) W∧MkAt f ⟨ta,tc,na,nc,pa,pc⟩ R m b W):=fun W hW=>by
      have hb:=bt.trans (hW.below bt.size (fun k e=>by omega))
      exact ⟨HSL.out W (b2.trans (hb.mono b2.size)),HMK.out W hb⟩
    clear HM hMk HMK HSL D0 D1 D2 hz1 hz
    go_wp2_with fail
    obtain ⟨tb,htbe⟩:∃ tb,w2.heap.size=tb:=⟨_,rfl⟩
    have htz:w.heap.size+1<tb:=by have:=b2.size; omega
    rw [htbe] at htb HS3 ⊢
    generalize w2.alloc (Obj.cells #[.slice none 0 0] 24)=w3 at *
    have htl:tb<w3.heap.size:=(Array.getElem?_eq_some_iff.1 htb).1
    have HBT:Hid (∀ W,But (fun k=>k=tb) w3 W→Below w.heap.size w W):=fun W hW=>B3.trans (hW.below B3.size (fun k e=>by omega))
    go_loopw [24] (fun iv wr=>∃ (i:Nat) (vs:List (Value × Value)) (vt:Value),iv=.int .i64 i∧i≤R.length∧wr.heap[tb]?=some (Obj.cells #[vt] 24)∧OwnW w3.heap.size w3.heap.size ((R.take i).map (rowT f R)) vs vt wr∧But (fun k=>k=tb) w3 wr) (fun i _=>R.length - (Go.RowKit.intOf i).toNat)
    case atStart=>exact ⟨0,[],.slice none 0 0,rfl,Nat.zero_le _,htb,by simpa using OwnW.nil _ _ _,But.refl _ _⟩
    case round =>
    obtain ⟨i,vs,vt,rfl,hi,hbx,hO,BR⟩:=hrel
    obtain ⟨vta,vtc,rfl⟩:=slice_of_ownK hO.own
    have hBW:=HBT.out _ BR
    have hbs:=hBW.size
    have hbr:=BR.size
    have hvle:vs.length≤600:=by
      have:=hO.len
      rw [List.length_map,List.length_take] at this
      omega
    by_cases hlt:i<R.length
    case neg =>
      obtain rfl:i=R.length:=by omega
      rw [List.take_of_length_le (Nat.le_refl _)] at hO
      have hzr:wr.heap[w.heap.size+1]?=some (Obj.cells #[.slice none 0 0] 24):=(BR.block _ (Array.getElem?_eq_some_iff.1 hz3).1 (fun e=>by omega)).trans hz3
      have c0:wr.cell? ⟨tb,0,none⟩=some (.slice vta vs.length vtc):=by rw [Lib.cell_of_heap hbx]; rfl
      have z0:wr.cell? ⟨w.heap.size+1,0,none⟩=some (.slice none 0 0):=by rw [Lib.cell_of_heap hzr]; rfl
      have fz:wr.frozen? ⟨w.heap.size+1,0,none⟩=false:=Lib.frozen_of_heap hzr _
      have hz9:(wr.setCell ⟨w.heap.size+1,0,none⟩ (.slice vta vs.length vtc)).heap[w.heap.size+1]?=some (Obj.cells #[.slice vta vs.length vtc] 24):=by
        have h1:=blk_set (o:=0) hzr (.slice vta vs.length vtc)
        simpa using h1
      have hB9:But (fun k=>k=w.heap.size+1) wr (wr.setCell ⟨w.heap.size+1,0,none⟩ (.slice vta vs.length vtc)):=(But.refl _ wr).setCell _ _ (.inr rfl)
      have hO9:=hO.keep hB9 (fun k e=>by omega) (fun k hk e=>by have:=(World.ownsRow.lt hO.own k hk).1; omega)
      have HR:Hid (SlW (R.map (rowT f R)) (.slice vta vs.length vtc) (wr.setCell ⟨w.heap.size+1,0,none⟩ (.slice vta vs.length vtc))∧Below w.heap.size w (wr.setCell ⟨w.heap.size+1,0,none⟩ (.slice vta vs.length vtc))):=⟨hO9.sl (by rw [List.length_map]; omega),hBW.trans (hB9.below hbs (fun k e=>by omega))⟩
      clear hO hO9 hB9 HRO HS3
      go_wp2_with fail
      refine bodyPost_ret (results_cell_tmp rfl _ _ _ rfl rfl (run_loadVar_row _ _ _ _ _ _ _ hz9 Tryz.underlying24 rfl (by kernel_rfl))) rfl ?_
      exact ⟨.inl ⟨_,_,HTF.out,rfl,HR.out.1,by rw [List.length_map]; exact k3⟩,HR.out.2⟩
    obtain ⟨hsll,hMk⟩:=HS3.out _ BR
    obtain ⟨_,_,e0,hrl,_⟩:=hsll
    cases e0
    obtain ⟨b2',o2,u,rfl,hb2,c0,hsl⟩:=hrl.at (Below.refl _ _) hlt
    have HRC:=HRO.out R R[i] u m b i wr.drew hBW.drew HK1.out k3 (List.getElem?_eq_getElem hlt) (HK4.out _ (List.getElem_mem hlt)) (hMk.next (Below.refl _ wr).drew) (hsl.next (Below.refl _ wr).drew)
    obtain ⟨ua,uc,rfl,_⟩:=hsl
    have HRCH:Hid (Calls Tryz.prog 26 #[.pointer (some ⟨m,0,none⟩),.slice ua R[i].length uc] wr.drew fun e w'=>∃ va vg,e=.returned (.agg #[va,vg])∧KeepR wr.drew.heap.size w'.heap.size (rowT f R R[i]) va vg w'∧Below wr.drew.heap.size wr.drew w'):=HRC
    have HTK:Hid ((R.take (i+1)).map (rowT f R)=(R.take i).map (rowT f R)++[rowT f R R[i]]):=by
      show _=_
      rw [List.take_succ_eq_append_getElem hlt,List.map_append]; rfl
    have hbxl:tb<wr.heap.size:=(Array.getElem?_eq_some_iff.1 hbx).1
    have hS0:(fun W:World=>(W.cell? ⟨tb,0,none⟩=some (.slice vta vs.length vtc))) wr.drew:=by
      show wr.cell? _=_
      rw [Lib.cell_of_heap hbx]; rfl
    have HO:Hid (OwnW w3.heap.size w3.heap.size ((R.take i).map (rowT f R)) vs (.slice vta vs.length vtc) wr):=hO
    have HBX:Hid (wr.heap[tb]?=some (Obj.cells #[.slice vta vs.length vtc] 24)):=hbx
    have HBR:Hid (But (fun k=>k=tb) w3 wr):=BR
    generalize rowT f R R[i]=rr at *
    generalize R[i].length=rl at *
    clear HRC hrl hMk HS3 hO hbx BR HK1 HK4 HRO
    go_wp2_with fail
    refine wp_region_L (fun W=>W.cell? ⟨tb,0,none⟩=some (.slice vta vs.length vtc)) 8 (by kernel_rfl) 9 rfl ?_
    refine tk 0 ⟨some 28,.fieldAddr 24 (.tmp 7) 0,0, "table.go:23",#[],none⟩ hS0 ?_;simp only [Act.put,sA,s0,sS]
    refine tk 1 ⟨some 29,.load 22 (.tmp 28),22, "table.go:23",#[⟨0,.data⟩],none⟩ hS0 ?_;simp only [Act.put,sA,s0,sS]
    refine tk 2 ⟨some 30,.move (.tmp 6),82, "table.go:23",#[],none⟩ hS0 ?_;simp only [Act.put,sA,s0,sS]
    refine tk 3 ⟨some 31,.move (.tmp 9),84, "table.go:23",#[],none⟩ hS0 ?_;simp only [Act.put,sA,s0,sS]
    refine wpAnyL_one' (i:=4) (o:=⟨some 32,.call ⟨.value (.func 26),#[.tmp 30,.tmp 31],#[82,84]⟩,38, "table.go:23",#[⟨2,.data⟩,⟨3,.data⟩],none⟩) (by kernel_rfl) rfl rfl (fun KQ hK=>?_)
    go_simp
    refine HRCH.out.mono ?_
    rintro e w6 ⟨va,vg,rfl,hkr,b6⟩
    have b6':Below wr.heap.size wr w6:=(Below.refl _ wr).drew.trans b6
    have hbx6:w6.heap[tb]?=some (Obj.cells #[.slice vta vs.length vtc] 24):=(b6'.block _ hbxl).trans HBX.out
    have hS1:w6.cell? ⟨tb,0,none⟩=some (.slice vta vs.length vtc):=by rw [Lib.cell_of_heap hbx6]; rfl
    refine hK.out _ _ (fun _=>hS1) ?_
    obtain ⟨q1,q2⟩:=hkr w6 (fun _=>False) (But.refl _ _) (fun _ h=>h.elim)
    obtain ⟨aa,ac,rfl,_⟩:=q1
    obtain ⟨ga,gc,rfl,_⟩:=q2
    have HKR:Hid (KeepR wr.heap.size w6.heap.size rr (.slice aa rr.acts.length ac) (.slice ga rr.goes.length gc) w6):=hkr
    have ba:Below w6.heap.size w6 (w6.alloc (Obj.cells #[.slice aa rr.acts.length ac,.slice ga rr.goes.length gc] 38)):=(Below.refl _ _).alloc (Nat.le_refl _) _
    have hSa:(w6.alloc (Obj.cells #[.slice aa rr.acts.length ac,.slice ga rr.goes.length gc] 38)).cell? ⟨tb,0,none⟩=some (.slice vta vs.length vtc):=(ba.cell (p:=⟨tb,0,none⟩) (Array.getElem?_eq_some_iff.1 hbx6).1).trans hS1
    have HOa:Hid (OwnW w3.heap.size w3.heap.size ((R.take i).map (rowT f R)) vs (.slice vta vs.length vtc) (w6.alloc (Obj.cells #[.slice aa rr.acts.length ac,.slice ga rr.goes.length gc] 38))):=(HO.out.next b6').next ba
    have HN2:∀ (i:Nat) (u:Value),[Value.slice aa rr.acts.length ac,.slice ga rr.goes.length gc][i]?=some u→(w6.alloc (Obj.cells #[.slice aa rr.acts.length ac,.slice ga rr.goes.length gc] 38)).cell? ((⟨w6.heap.size,0,none⟩:Addr).add i)=some u:=fun i u hi=>by
      rw [add_plain,Nat.zero_add]
      rcases i with _ | _ | i <;> simp at hi <;> subst hi <;> simp
    have hszn:w3.heap.size≤(w6.alloc (Obj.cells #[.slice aa rr.acts.length ac,.slice ga rr.goes.length gc] 38)).heap.size:=Nat.le_trans hbr (Nat.le_trans b6'.size ba.size)
    have hbxa:(w6.alloc (Obj.cells #[.slice aa rr.acts.length ac,.slice ga rr.goes.length gc] 38)).heap[tb]?=some (Obj.cells #[.slice vta vs.length vtc] 24):=(ba.block _ (Array.getElem?_eq_some_iff.1 hbx6).1).trans hbx6
    clear hK hkr
    refine wpAnyL_one' (i:=5) (o:=⟨some 33,.buildSlice 22 1 #[(0,.tmp 32)],22, "table.go:23",#[⟨4,.data⟩],none⟩) (by kernel_rfl) rfl rfl (fun KQ hK=>?_)
    go_simp
    refine hK.out _ _ (fun _=>hSa) ?_
    clear hK
    refine wpAnyL_one' (i:=6) (o:=⟨some 34,.call ⟨.builtin .append,#[.tmp 29,.tmp 33],#[22,22]⟩,22, "table.go:23",#[⟨1,.data⟩,⟨5,.data⟩,⟨4,.chain⟩],none⟩) (by kernel_rfl) rfl rfl (fun KQ hK=>?_)
    rw [if_pos (by rfl)]
    refine wp_append_ownq (.tmp 29) (.tmp 33) 22 rfl w3.heap.size 38 ir _ 2 48 Tryz.underlying22 hir hr0 hr1 hr2 rfl (by decide) _ _ _ rfl HOa.out.own ⟨w6.heap.size,0,none⟩ 1 [.slice aa rr.acts.length ac,.slice ga rr.goes.length gc] rfl rfl HN2 (by simp [Value.oneCell']) (by unfold maxLen; omega) (by omega) hszn ?_
    intro v' w8 hown' hgrow hat
    have hbx8:w8.heap[tb]?=some (Obj.cells #[.slice vta vs.length vtc] 24):=(hgrow.block _ (Array.getElem?_eq_some_iff.1 hbxa).1 (fun e=>by have:=(World.ownsRow.lt HOa.out.own tb e.symm).1; omega)).trans hbxa
    have hS8:w8.cell? ⟨tb,0,none⟩=some (.slice vta vs.length vtc):=by rw [Lib.cell_of_heap hbx8]; rfl
    have hf8:w8.frozen? ⟨tb,0,none⟩=false:=Lib.frozen_of_heap hbx8 _
    obtain ⟨va',vc',rfl⟩:=slice_of_ownK hown'
    have hO8:=HOa.out.more (r:=rr) (p:=(.slice aa rr.acts.length ac,.slice ga rr.goes.length gc)) (HKR.out.keep (D:=fun _=>False) (But.of_next ba) (fun _ h=>h.elim)) hbr (by simp) (fun k hk=>(World.ownsRow.lt HO.out.own k hk).2) hgrow hown' hat
    have hB8:But (fun k=>k=tb) w3 (w8.setCell ⟨tb,0,none⟩ (.slice va' (vs.length+1) vc')):=by
      have hba:But (fun k=>k=tb) w3 (w6.alloc (Obj.cells #[.slice aa rr.acts.length ac,.slice ga rr.goes.length gc] 38)):=(HBR.out.trans (But.of_next b6')).trans (But.of_next ba)
      refine But.setCell ⟨hgrow.os.trans hba.os,hgrow.tape.trans hba.tape,hgrow.output.trans hba.output,Nat.le_trans hba.size hgrow.size,fun k hk hd=>(hgrow.block k (Nat.lt_of_lt_of_le hk hba.size) (fun e=>?_)).trans (hba.block k hk hd)⟩ _ _ (.inr rfl)
      have:=(World.ownsRow.lt HOa.out.own k e.symm).1
      omega
    have HF:Hid ((w8.setCell ⟨tb,0,none⟩ (.slice va' (vs.length+1) vc')).heap[tb]?=some (Obj.cells #[.slice va' (vs.length+1) vc'] 24)∧OwnW w3.heap.size w3.heap.size ((R.take (i+1)).map (rowT f R)) (vs++[(.slice aa rr.acts.length ac,.slice ga rr.goes.length gc)]) (.slice va' (vs.length+1) vc') (w8.setCell ⟨tb,0,none⟩ (.slice va' (vs.length+1) vc'))∧But (fun k=>k=tb) w3 (w8.setCell ⟨tb,0,none⟩ (.slice va' (vs.length+1) vc'))):=by
      refine ⟨?_,?_,hB8⟩
      · have h1:=blk_set (o:=0) hbx8 (.slice va' (vs.length+1) vc')
        simpa using h1
      · rw [HTK.out]
        exact hO8.keep (D:=fun k=>k=tb) ((But.refl _ w8).setCell _ _ (.inr rfl)) (fun k e=>by omega) (fun k hk e=>by have:=(World.ownsRow.lt hown' k hk).1; omega)
    refine hK.out _ _ (fun _=>hS8) ?_
    clear hK hown' hgrow hat hO8 hB8
    simp only [Act.put,sA,s0,sS]
    refine tk 7 ⟨some 35,.fieldAddr 24 (.tmp 7) 0,0, "table.go:23",#[⟨0,.phase⟩,⟨1,.phase⟩,⟨2,.phase⟩,⟨3,.phase⟩,⟨4,.phase⟩,⟨5,.phase⟩,⟨6,.phase⟩],none⟩ hS8 ?_;simp only [Act.put,sA,s0,sS]
    refine wpAnyL_one' (i:=8) (o:=⟨none,.store 22 (.tmp 35) (.tmp 34),0, "table.go:23",#[⟨7,.data⟩,⟨6,.data⟩,⟨6,.chain⟩,⟨0,.phase⟩,⟨1,.phase⟩,⟨2,.phase⟩,⟨3,.phase⟩,⟨4,.phase⟩,⟨5,.phase⟩,⟨6,.phase⟩],none⟩) (by kernel_rfl) rfl rfl (fun KQ hK=>?_)
    go_simp
    refine hK.out _ _ (fun h=>absurd h (by omega)) ?_
    clear hK
    refine wpAnyL_done (by kernel_rfl) ?_ _
    clear hS0 hS1 hSa hS8 hf8 HKR HOa HO HBX HBR HRCH HTK HN2 hbx6 hbxa hbx8
    go_wp2_with fail
    exact ⟨⟨i+1,_,_,by go_num,by omega,HF.out⟩,by simp [Go.RowKit.intOf]; omega⟩
  · have HNF:Hid (tabF f=none):=by show _=_; unfold tabF; rw [k1]; rfl
    have z0:w1.cell? ⟨w.heap.size+1,0,none⟩=some (.slice none 0 0):=by rw [Lib.cell_of_heap hz1]; rfl
    have fz:w1.frozen? ⟨w.heap.size+1,0,none⟩=false:=Lib.frozen_of_heap hz1 _
    have hz9:(w1.setCell ⟨w.heap.size+1,0,none⟩ (.slice none 0 0)).heap[w.heap.size+1]?=some (Obj.cells #[.slice none 0 0] 24):=by
      have h1:=blk_set (o:=0) hz1 (.slice none 0 0)
      simpa using h1
    have HB9:Hid (Below w.heap.size w (w1.setCell ⟨w.heap.size+1,0,none⟩ (.slice none 0 0))):=B1.setCell (by simp) _
    clear HRO HMO k1
    go_wp2_with fail
    refine bodyPost_ret (results_cell_tmp rfl _ _ _ rfl rfl (run_loadVar_row _ _ _ _ _ _ _ hz9 Tryz.underlying24 rfl (by kernel_rfl))) rfl ?_
    exact ⟨.inr ⟨HNF.out,rfl⟩,HB9.out⟩
end Go.Proofs.YtiamjafecbpfpaaGreatDoor
namespace Go.Proofs.YtiamjafecbpfpaaGreatDoor
open Go.RowKit
set_option maxRecDepth 100000 in
set_option maxHeartbeats 1000000 in
theorem table0_any {B g:Nat} (w:World) (h:WsAt B g [⟨[],false⟩] w) (hBw:B≤w.heap.size) :
    Calls Tryz.prog 20 #[.pointer (some ⟨g,0,none⟩),.agg #[.slice none 0 0]] w fun e w'=>e=.returned (.tuple #[])∧WsAt B g [⟨[0,0],false⟩] w'∧Wrote g w w':=by
  have Bx:Below w.heap.size w ((w.alloc (Obj.cells #[.slice none 0 0] 24)).alloc (Obj.cells #[.int .i64 0] 3)):=((Below.refl _ _).alloc (Nat.le_refl _) _).alloc (by simp) _
  have HS:Hid (SlI [0] (.slice (some ⟨w.heap.size+1,0,none⟩) 1 1) ((w.alloc (Obj.cells #[.slice none 0 0] 24)).alloc (Obj.cells #[.int .i64 0] 3))):=by
    refine ⟨_,_,rfl,fun k u hk=>⟨_,_,rfl,by simp,?_⟩,fun h=>(by cases h),(by simp),fun u hu=>?_⟩
    · rcases k with _ | k <;> simp at hk
      subst hk; simp [encI]
    · simp at hu
      unfold i64B
      omega
  have t0:((w.alloc (Obj.cells #[.slice none 0 0] 24)).alloc (Obj.cells #[.int .i64 0] 3)).cell? ⟨w.heap.size,0,none⟩=some (.slice none 0 0):=by simp
  have hni:∀ k,inW g ((w.alloc (Obj.cells #[.slice none 0 0] 24)).alloc (Obj.cells #[.int .i64 0] 3)) k→k<w.heap.size:=fun k hk=>(h.inLt ((inW_same (Bx.block g h.lt) k).1 hk)).2
  have HC:=numbers_any (B:=B) (g:=g) (i:=0) (L:=[⟨[],false⟩]) (x:=⟨[],false⟩) [0] _ _ HS.out (h.next Bx) rfl (fun ad n c e _ hin=>by
    injection e with e1
    injection e1 with e1
    subst e1
    have:=hni _ hin
    simp only at this
    omega) (by simp) (by simp) (Nat.le_trans hBw Bx.size)
  have HC2:Hid (Calls Tryz.prog 32 #[.pointer (some ⟨g,0,none⟩),.slice (some ⟨w.heap.size+1,0,none⟩) 1 1] ((w.alloc (Obj.cells #[.slice none 0 0] 24)).alloc (Obj.cells #[.int .i64 0] 3)) fun e w'=>e=.returned (.tuple #[])∧WsAt B g [⟨[0,0],false⟩] w'∧Wrote g w w'∧w'.cell? ⟨w.heap.size,0,none⟩=some (.slice none 0 0)):=by
    refine Calls.mono (show Calls Tryz.prog 32 #[.pointer (some ⟨g,0,none⟩),.slice (some ⟨w.heap.size+1,0,none⟩) 1 1] _ _ by simpa using HC) ?_
    rintro e w' ⟨rfl,h1,h2⟩
    refine ⟨rfl,h1,(h.wrote Bx).trans h2,?_⟩
    rw [← t0]
    exact h2.1.cell (p:=⟨w.heap.size,0,none⟩) (by simp; omega) (fun hin=>by have:=hni _ hin; simp only at this; omega)
  clear HC h HS Bx hni t0
  go_enter Tryz.func20,Tryz.ntmps20
  go_wp2_with fail
  refine HC2.out.mono ?_
  rintro e w1 ⟨rfl,h1,h2,h3⟩
  have HR:Hid (WsAt B g [⟨[0,0],false⟩] w1∧Wrote g w w1):=⟨h1,h2⟩
  clear h1 h2 HC2
  go_wp2_with fail
  go_loopw [15] (fun iv wr=>iv=.int .i64 0∧wr=w1) (fun _ _=>0)
  case atStart=>exact ⟨rfl,rfl⟩
  case round =>
  obtain ⟨rfl,rfl⟩:=hrel
  go_wp2_with fail
  go_end0
  exact ⟨rfl,HR.out⟩
set_option maxRecDepth 100000 in
set_option maxHeartbeats 1000000 in
theorem encode0_any (w:World):Calls Tryz.prog 9 #[.agg #[.slice none 0 0]] w fun e w'=>e=.returned (.string ⟨#[0,0]⟩)∧Below w.heap.size w w':=by
  have B1:Below w.heap.size w (w.alloc (Obj.cells #[.slice none 0 0] 24)):=(Below.refl _ _).alloc (Nat.le_refl _) _
  have hW:=WsAt.one (B:=w.heap.size) (w.alloc (Obj.cells #[.slice none 0 0] 24)) (by simp)
  have e1:(w.alloc (Obj.cells #[.slice none 0 0] 24)).heap.size=w.heap.size+1:=by simp
  rw [e1] at hW
  have B2:Below w.heap.size w ((w.alloc (Obj.cells #[.slice none 0 0] 24)).alloc (.cells #[.pointer none,.slice none 0 0,.bool false] 71)):=B1.alloc (by simp) _
  have HT:=table0_any _ hW (Nat.le_trans B2.size (Nat.le_refl _))
  have HW:Hid (WsAt w.heap.size (w.heap.size+1) [⟨[],false⟩] ((w.alloc (Obj.cells #[.slice none 0 0] 24)).alloc (.cells #[.pointer none,.slice none 0 0,.bool false] 71))):=hW
  clear hW e1
  go_enter Tryz.func9,Tryz.ntmps9
  go_wp2_with fail
  refine HT.mono ?_
  rintro e w2 ⟨rfl,h1,h2⟩
  have B3:Below w.heap.size w w2:=B2.trans (HW.out.below h2 B2.size)
  have cb:=h1.bad 0 _ rfl
  obtain ⟨bv,hbv,hob⟩:=h1.buf 0 _ rfl
  simp only [Nat.zero_mul,Nat.zero_add] at cb hbv hob
  have HST:=string_any w.heap.size (w.heap.size+1) 0 [0,0] bv w2 hbv hob (fun e=>by cases e) (by simp)
  have HBB:Hid (∀ k,bv.ownBlock=some k→w.heap.size≤k):=fun k hk=>(World.ownsRow.lt hob k hk).1
  have hsz:=B3.size
  clear HT HW h1 h2 hbv hob
  go_wp2_with fail
  refine HST.mono ?_
  rintro e w3 ⟨rfl,b3⟩
  have B9:Below w.heap.size w w3:=B3.trans (b3.below hsz HBB.out)
  clear HST b3 HBB
  go_wp2_with fail
  go_ret
  exact ⟨rfl,B9⟩
theorem box3 (W:World) (n:Nat) (a b c:Value) (t:TypeId) (h:W.heap.size=n):(W.alloc (Obj.cells #[a,b,c] t)).cell? ⟨n,0,none⟩=some a∧(W.alloc (Obj.cells #[a,b,c] t)).cell? ⟨n,1,none⟩=some b∧(W.alloc (Obj.cells #[a,b,c] t)).cell? ⟨n,2,none⟩=some c∧n<(W.alloc (Obj.cells #[a,b,c] t)).heap.size:=by
  subst h
  refine ⟨?_,?_,?_,?_⟩ <;> simp
set_option maxRecDepth 100000 in
set_option maxHeartbeats 4000000 in
theorem awake12_any (w:World) (hT:Tb w):Calls Tryz.prog 6 #[] w fun e w'=>e=.returned (.bool true)∧Below w.heap.size w w':=by
  have HBE:Hid (∀ n W,Below w.heap.size w W→FlAt fE (aE n) W→Calls Tryz.prog 12 #[.agg #[.slice (some ⟨n,0,none⟩) 2 2,.slice (some ⟨n+1,0,none⟩) 1 1,.slice (some ⟨n+1+1+1+1,0,none⟩) 2 2]] W fun e w'=>∃ v,e=.returned (.tuple #[.agg #[v],.int .i64 0])∧SlW tE v w'∧Below W.heap.size W w'):=fun n W hW hf=>by
    refine (build12_any fE (aE n) W hf fitB_E (hT.next hW)).mono ?_
    rintro e w' ⟨h1 | ⟨h1,_⟩,h2⟩
    · obtain ⟨v,T,k1,rfl,k2,_⟩:=h1
      rw [tabE] at k1
      obtain rfl:=Option.some.inj k1
      exact ⟨v,rfl,k2,h2⟩
    · rw [tabE] at h1; cases h1
  have HBT:Hid (∀ n W,Below w.heap.size w W→FlAt fT (aT n) W→Calls Tryz.prog 12 #[.agg #[.slice (some ⟨n,0,none⟩) 1 1,.slice (some ⟨n+1,0,none⟩) 1 1,.slice (some ⟨n+1+1+1+1,0,none⟩) 2 2]] W fun e w'=>∃ v,e=.returned (.tuple #[.agg #[v],.int .i64 0])∧SlW tT v w'∧Below W.heap.size W w'):=fun n W hW hf=>by
    refine (build12_any fT (aT n) W hf fitB_T (hT.next hW)).mono ?_
    rintro e w' ⟨h1 | ⟨h1,_⟩,h2⟩
    · obtain ⟨v,T,k1,rfl,k2,_⟩:=h1
      rw [tabT] at k1
      obtain rfl:=Option.some.inj k1
      exact ⟨v,rfl,k2,h2⟩
    · rw [tabT] at h1; cases h1
  have HTO:Hid (∀ (l:List Rw) (v:Value) W,SlW l v W→sizeTb l≤240000→Calls Tryz.prog 13 #[.agg #[v]] W fun e w'=>∃ v',e=.returned v'∧SlG (tornL l) v' w'∧Apart W.heap.size v'∧Below W.heap.size W w'):=fun l v W h1 h2=>torn_any l v W h1 (by omega)
  have HAC:Hid (∀ (v:Value) (y:Int) W,SlW tE v W→Calls Tryz.prog 14 #[.agg #[v],.int .i64 0,.int .i64 y] W fun e w'=>∃ u,e=.returned (.agg #[.int .i64 (actF tE 0 y).look,.int .i64 (actF tE 0 y).to,u,.bool (actF tE 0 y).acc])∧SlI (actF tE 0 y).red u w'∧Apart W.heap.size u∧Below W.heap.size W w'):=fun v y W h1=>act12_any tE v 0 y W h1 (by have:=sizeE; omega)
  have HEC:Hid (∀ W,Calls Tryz.prog 9 #[.agg #[.slice none 0 0]] W fun e w'=>e=.returned (.string ⟨#[0,0]⟩)∧Below W.heap.size W w'):=fun W=>encode0_any W
  -- the first one
  have B5:Below w.heap.size w (wE5 w):=((((below_new w _).alloc (by simp) _).alloc (by simp; omega) _).alloc (by simp; omega) _).alloc (by simp; omega) _
  have hz5:(wE5 w).heap.size=w.heap.size+1+1+1+1+1:=by simp [wE5,sz4]
  obtain ⟨w6,hw6⟩:∃ w6,(wE5 w).alloc (Obj.cells #[.slice (some ⟨w.heap.size,0,none⟩) 2 2,.slice (some ⟨w.heap.size+1,0,none⟩) 1 1,.slice (some ⟨w.heap.size+1+1+1+1,0,none⟩) 2 2] 50)=w6:=⟨_,rfl⟩
  have X1:=box3 (wE5 w) _ (.slice (some ⟨w.heap.size,0,none⟩) 2 2) (.slice (some ⟨w.heap.size+1,0,none⟩) 1 1) (.slice (some ⟨w.heap.size+1+1+1+1,0,none⟩) 2 2) 50 hz5
  have B6:Below w.heap.size w w6:=by rw [← hw6]; exact B5.alloc B5.size _
  have HF6:Hid (∀ W,Below w6.heap.size w6 W→FlAt fE (aE w.heap.size) W):=fun W hW=>(by
    have h1:FlAt fE (aE w.heap.size) w6:=by rw [← hw6]; exact (flE w).next (below_new _ _)
    exact h1.next hW)
  rw [hw6] at X1
  unfold wE5 wE4 wE3 wE2 wE1 bx at hw6
  -- the second one
  have C5:Below w6.heap.size w6 (wT5 w6):=((((below_new w6 _).alloc (by simp) _).alloc (by simp; omega) _).alloc (by simp; omega) _).alloc (by simp; omega) _
  have hy5:(wT5 w6).heap.size=w6.heap.size+1+1+1+1+1:=by simp [wT5,tz4]
  obtain ⟨w7,hw7⟩:∃ w7,(wT5 w6).alloc (Obj.cells #[.slice (some ⟨w6.heap.size,0,none⟩) 1 1,.slice (some ⟨w6.heap.size+1,0,none⟩) 1 1,.slice (some ⟨w6.heap.size+1+1+1+1,0,none⟩) 2 2] 50)=w7:=⟨_,rfl⟩
  have X2:=box3 (wT5 w6) _ (.slice (some ⟨w6.heap.size,0,none⟩) 1 1) (.slice (some ⟨w6.heap.size+1,0,none⟩) 1 1) (.slice (some ⟨w6.heap.size+1+1+1+1,0,none⟩) 2 2) 50 hy5
  have b7:Below w6.heap.size w6 w7:=by rw [← hw7]; exact C5.alloc C5.size _
  have B7:Below w.heap.size w w7:=B6.trans (b7.mono B6.size)
  have HF7:Hid (∀ W,Below w7.heap.size w7 W→FlAt fT (aT w6.heap.size) W):=fun W hW=>(by
    have h1:FlAt fT (aT w6.heap.size) w7:=by rw [← hw7]; exact (flT w6).next (below_new _ _)
    exact h1.next hW)
  rw [hw7] at X2
  unfold wT5 wT4 wT3 wT2 wT1 bx at hw7
  clear hT B5 C5 hz5 hy5
  go_enter Tryz.func6,Tryz.ntmps6
  go_upto_region 2 with fail
  try rw [hw6]
  clear hw6
  go_upto_region 3 with fail
  try rw [hw7]
  clear hw7
  obtain ⟨x0,x1,x2,xl⟩:=X1
  obtain ⟨y0,y1,y2,yl⟩:=X2
  have X0':=(b7.cell (p:=⟨w.heap.size+1+1+1+1+1,0,none⟩) xl).trans x0
  have X1':=(b7.cell (p:=⟨w.heap.size+1+1+1+1+1,1,none⟩) xl).trans x1
  have X2':=(b7.cell (p:=⟨w.heap.size+1+1+1+1+1,2,none⟩) xl).trans x2
  have HB1:=HBE.out w.heap.size w7 B7 (HF6.out w7 b7)
  clear x0 x1 x2 HBE HF6
  obtain ⟨n0,hn0⟩:∃ n0,w.heap.size=n0:=⟨_,rfl⟩
  obtain ⟨n6,hn6⟩:∃ n6,w6.heap.size=n6:=⟨_,rfl⟩
  obtain ⟨F1,hF1⟩:∃ F1,n0+1+1+1+1+1=F1:=⟨_,rfl⟩
  obtain ⟨F2,hF2⟩:∃ F2,n6+1+1+1+1+1=F2:=⟨_,rfl⟩
  have HN0:Hid (n0≤w.heap.size):=Nat.le_of_eq hn0.symm
  have HNE:Hid (n0=w.heap.size):=hn0.symm
  simp only [hn0] at X0' X1' X2' HB1 HBT B7 ⊢
  simp only [hn6] at y0 y1 y2 yl HF7 ⊢
  simp only [hF1] at X0' X1' X2' ⊢
  simp only [hF2] at y0 y1 y2 yl ⊢
  clear hF1 hF2 hn0 hn6 xl b7 B6
  go_wp2_with fail
  refine HB1.mono ?_
  rintro e w8 ⟨v,rfl,hSv,b8⟩
  have B8:Below n0 w w8:=B7.trans (b8.mono (Nat.le_trans HN0.out B7.size))
  have HSV:Hid (∀ W,Below w8.heap.size w8 W→SlW tE v W):=fun W hW=>hSv.next hW
  obtain ⟨va,vc,rfl,_⟩:=hSv
  have b9:Below w8.heap.size w8 (w8.alloc (Obj.cells #[.slice va tE.length vc] 24)):=(Below.refl _ _).alloc (Nat.le_refl _) _
  have q0:(w8.alloc (Obj.cells #[.slice va tE.length vc] 24)).cell? ⟨w8.heap.size,0,none⟩=some (.slice va tE.length vc):=by simp
  have ql:w8.heap.size<(w8.alloc (Obj.cells #[.slice va tE.length vc] 24)).heap.size:=by simp
  have B9:Below n0 w (w8.alloc (Obj.cells #[.slice va tE.length vc] 24)):=B8.trans (b9.mono (Nat.le_trans HN0.out B8.size))
  have b79:Below w7.heap.size w7 (w8.alloc (Obj.cells #[.slice va tE.length vc] 24)):=b8.trans (b9.mono b8.size)
  have Y0:=(b79.cell (p:=⟨F2,0,none⟩) yl).trans y0
  have Y1:=(b79.cell (p:=⟨F2,1,none⟩) yl).trans y1
  have Y2:=(b79.cell (p:=⟨F2,2,none⟩) yl).trans y2
  have HB2:=HBT.out n6 _ B9 (HF7.out _ b79)
  clear HB1 X0' X1' X2' y0 y1 y2 HBT HF7
  generalize hte:tE.length=ne at *
  go_upto_region 4 with fail
  generalize w8.alloc (Obj.cells #[.slice va ne vc] 24)=w9 at *
  go_wp2_with fail
  refine HB2.mono ?_
  rintro e w10 ⟨u,rfl,hSu,b10⟩
  have B10:Below n0 w w10:=B9.trans (b10.mono (Nat.le_trans HN0.out B9.size))
  have HSU:Hid (∀ W,Below w10.heap.size w10 W→SlW tT u W):=fun W hW=>hSu.next hW
  obtain ⟨ua,uc,rfl,_⟩:=hSu
  have b11:Below w10.heap.size w10 (w10.alloc (Obj.cells #[.slice ua tT.length uc] 24)):=(Below.refl _ _).alloc (Nat.le_refl _) _
  have r0:(w10.alloc (Obj.cells #[.slice ua tT.length uc] 24)).cell? ⟨w10.heap.size,0,none⟩=some (.slice ua tT.length uc):=by simp
  have rl:w10.heap.size<(w10.alloc (Obj.cells #[.slice ua tT.length uc] 24)).heap.size:=by simp
  have B11:Below n0 w (w10.alloc (Obj.cells #[.slice ua tT.length uc] 24)):=B10.trans (b11.mono (Nat.le_trans HN0.out B10.size))
  have b911:Below w9.heap.size w9 (w10.alloc (Obj.cells #[.slice ua tT.length uc] 24)):=b10.trans (b11.mono b10.size)
  have Q0:=(b911.cell (p:=⟨w8.heap.size,0,none⟩) ql).trans q0
  have ql':w8.heap.size<(w10.alloc (Obj.cells #[.slice ua tT.length uc] 24)).heap.size:=Nat.lt_of_lt_of_le ql b911.size
  have HK:Hid (∀ W,Below (w10.alloc (Obj.cells #[.slice ua tT.length uc] 24)).heap.size (w10.alloc (Obj.cells #[.slice ua tT.length uc] 24)) W→W.cell? ⟨w8.heap.size,0,none⟩=some (.slice va ne vc)∧W.cell? ⟨w10.heap.size,0,none⟩=some (.slice ua tT.length uc)∧SlW tE (.slice va ne vc) W∧SlW tT (.slice ua tT.length uc) W∧Below n0 w W):=fun W hW=>⟨(hW.cell (p:=⟨w8.heap.size,0,none⟩) ql').trans Q0,(hW.cell (p:=⟨w10.heap.size,0,none⟩) rl).trans r0,HSV.out W (b9.trans ((b911.trans (hW.mono b911.size)).mono b9.size)),HSU.out W (b11.trans (hW.mono b11.size)),B11.trans (hW.mono (Nat.le_trans HN0.out B11.size))⟩
  clear HB2 Y0 Y1 Y2 HSV HSU
  generalize htt:tT.length=nt at *
  go_upto_region 5 with fail
  generalize w10.alloc (Obj.cells #[.slice ua nt uc] 24)=wb at *
  have hb0:=Below.refl wb.heap.size wb
  obtain ⟨k0,k1,k2,k3,k4⟩:=HK.out wb hb0
  have HT1:=HTO.out tE _ wb k2 sizeE
  clear k2 k3 k4 r0 q0 Q0
  go_wp2_with fail
  refine HT1.mono ?_
  rintro e w12 ⟨tv,rfl,hsg,_,b12⟩
  obtain ⟨tva,tvc,rfl,_⟩:=hsg
  have hl1:(tornL tE).length=0:=tornE
  rw [hl1]
  have c12:=hb0.trans b12
  obtain ⟨k0,k1,k2,k3,k4⟩:=HK.out w12 c12
  have HT2:=HTO.out tT _ w12 k3 sizeT2
  clear HT1 k2 k3 k4
  go_wp2_with fail
  refine HT2.mono ?_
  rintro e w13 ⟨tv2,rfl,hsg2,_,b13⟩
  obtain ⟨tva2,tvc2,rfl,_⟩:=hsg2
  have hl2:(tornL tT).length=1:=tornT
  rw [hl2]
  have c13:=c12.trans (b13.mono c12.size)
  obtain ⟨k0,k1,k2,k3,k4⟩:=HK.out w13 c13
  have HA0:=HAC.out _ 0 w13 k2
  clear HT2 k2 k3 k4
  go_wp2_with fail
  refine HA0.mono ?_
  rintro e w14 ⟨g0,rfl,hg0,_,b14⟩
  obtain ⟨g0a,g0c,rfl,_⟩:=hg0
  have c14:=c13.trans (b14.mono c13.size)
  have ht0:=actE0
  obtain ⟨k0,k1,k2,k3,k4⟩:=HK.out w14 c14
  have HA1:=HAC.out _ 1 w14 k2
  clear HA0 k2 k3 k4
  generalize (actF tE 0 0).look=z0 at *
  generalize (actF tE 0 0).to=z1 at *
  generalize (actF tE 0 0).red.length=z2 at *
  generalize (actF tE 0 0).acc=z3 at *
  have hd0:decide (z1 ≥ 0)=true:=decide_eq_true ht0
  have hfd:∀ W:World,(Instr.field 41 (.agg #[.int .i64 z0,.int .i64 z1,.slice g0a z2 g0c,.bool z3]) 1).run Tryz.prog W=.ok (.int .i64 z1) W:=fun _=>by kernel_rfl
  go_wp2_with fail
  refine HA1.mono ?_
  rintro e w15 ⟨g1,rfl,hg1,_,b15⟩
  obtain ⟨g1a,g1c,rfl,_⟩:=hg1
  have c15:=c14.trans (b15.mono c14.size)
  have ht1:=actE1
  obtain ⟨k0,k1,k2,k3,k4⟩:=HK.out w15 c15
  have HA2:=HAC.out _ 2 w15 k2
  clear HA1 k2 k3 k4
  generalize (actF tE 0 1).look=y0 at *
  generalize (actF tE 0 1).to=y1 at *
  generalize (actF tE 0 1).red.length=y2 at *
  generalize (actF tE 0 1).acc=y3 at *
  have hd1:decide (y1 ≥ 0)=true:=decide_eq_true ht1
  clear hfd
  have hfd:∀ W:World,(Instr.field 41 (.agg #[.int .i64 y0,.int .i64 y1,.slice g1a y2 g1c,.bool y3]) 1).run Tryz.prog W=.ok (.int .i64 y1) W:=fun _=>by kernel_rfl
  go_wp2_with fail
  refine HA2.mono ?_
  rintro e w16 ⟨g2,rfl,hg2,_,b16⟩
  obtain ⟨g2a,g2c,rfl,_⟩:=hg2
  have c16:=c15.trans (b16.mono c15.size)
  have ht2:=actE2
  rw [ht2]
  have HE:=HEC.out w16
  generalize (actF tE 0 2).look=x0 at *
  generalize (actF tE 0 2).red.length=x2 at *
  generalize (actF tE 0 2).acc=x3 at *
  clear HA2 hfd
  have hfd:∀ W:World,(Instr.field 41 (.agg #[.int .i64 x0,.int .i64 (-1),.slice g2a x2 g2c,.bool x3]) 1).run Tryz.prog W=.ok (.int .i64 (-1)) W:=fun _=>by kernel_rfl
  go_wp2_with fail
  refine HE.mono ?_
  rintro e w17 ⟨rfl,b17⟩
  have c17:=c16.trans (b17.mono c16.size)
  obtain ⟨_,_,_,_,k4⟩:=HK.out w17 c17
  clear HE
  go_wp2_with fail
  go_ret
  exact ⟨rfl,by have h:=HNE.out; rw [← h]; exact k4⟩
end Go.Proofs.YtiamjafecbpfpaaGreatDoor
