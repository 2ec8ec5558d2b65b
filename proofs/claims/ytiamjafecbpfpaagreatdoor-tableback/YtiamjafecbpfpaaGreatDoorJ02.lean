import Derived.Test.YtiamjafecbpfpaaGreatDoorJ01
import Derived.RangeFuncNested
import Derived.RangeFuncBound
import Derived.RangeFuncCalls
import Derived.RangeFuncLeaves
import Derived.Shelf.Abstract
import Derived.Shelf.RegionOpen
import Derived.OwnWalkIn
import Derived.TacticsInMore
import Derived.LoopNIn
import Derived.LoopIn
import Derived.Scope
import Derived.Sort.LoopGhostIn
import Derived.Maps.OwnSet
import Derived.Maps.Views
import Derived.DeepKeys4
import Derived.Laws.IdiomStrings

namespace Go.Proofs.YtiamjafecbpfpaaGreatDoor
open Go.RowKit
set_option maxHeartbeats 400000 in
theorem begins_any (c:Nat) (w:World):Calls Tryz.prog 109 #[.int .u8 c] w fun e w'=>e=.returned (.bool (letB c))∧w'=w:=by
  go_enter Tryz.func109,Tryz.ntmps109
  go_wp2
  all_goals
    go_ret
    refine ⟨ret_bool ?_,rfl⟩
    unfold letB
    rw [Bool.eq_iff_iff]
    simp
    omega
set_option maxHeartbeats 400000 in
theorem isDigit_any (c:Nat) (w:World):Calls Tryz.prog 136 #[.int .u8 c] w fun e w'=>e=.returned (.bool (digB c))∧w'=w:=by
  go_enter Tryz.func136,Tryz.ntmps136
  go_wp2
  all_goals
    go_ret
    refine ⟨ret_bool ?_,rfl⟩
    unfold digB
    rw [Bool.eq_iff_iff]
    simp
    omega
theorem name_facts {s:ByteArray} (h:nameB s=true):s.size≠0∧s.size≤32∧∀ k (hk:k<s.size),okB k s[k].toNat=true:=by
  unfold nameB at h
  simp only [Bool.and_eq_true,decide_eq_true_eq] at h
  refine ⟨h.1.1,h.1.2,fun k hk=>?_⟩
  have:=List.all_eq_true.1 h.2 k (List.mem_range.2 hk)
  unfold okAt at this
  rwa [dif_pos hk] at this
set_option maxHeartbeats 1600000 in
theorem nameLen_any (s:ByteArray) (w:World) (h:nameB s=true):Calls Tryz.prog 110 #[.string s] w fun e w'=>e=.returned (.int .i64 s.size)∧w'=w:=by
  obtain ⟨h0,h1,h2⟩:=name_facts h
  have HO:Hid (∀ k (hk:k<s.size),okB k s[k].toNat=true):=h2
  clear h h2
  go_enter Tryz.func110,Tryz.ntmps110
  go_wp2
  go_loopw [3] (fun i wr=>∃ (j:Nat),i=.int .i64 j∧j≤s.size∧wr=w) (fun i _=>s.size - (intOf i).toNat)
  case atStart=>exact ⟨0,rfl,Nat.zero_le _,rfl⟩
  case round =>
    obtain ⟨j,rfl,hj,rfl⟩:=hrel
    by_cases hlt:j<s.size
    · have hL:=begins_any (s[j].toNat) wr
      have hD:=isDigit_any (s[j].toNat) wr
      have hok:=HO.out j hlt
      unfold okB at hok
      cases hl:letB s[j].toNat with
      | true =>
        rw [hl] at hL
        clear hl hok hD
        go_wp2_with (go_at_call 109; refine hL.mono ?_; rintro e w1 ⟨rfl,rfl⟩)
        exact ⟨⟨j+1,by go_num,by omega,trivial⟩,by simp [intOf]; omega⟩
      | false =>
        rw [hl] at hL hok
        simp at hok
        rw [hok.2] at hD
        clear hl hok
        go_wp2_with (first | (go_at_call 109; refine hL.mono ?_; rintro e w1 ⟨rfl,rfl⟩) | (go_at_call 136; refine hD.mono ?_; rintro e w1 ⟨rfl,rfl⟩))
        exact ⟨⟨j+1,by go_num,by omega,trivial⟩,by simp [intOf]; omega⟩
    · obtain rfl:j=s.size:=by omega
      go_wp2
      go_ret
      exact ⟨rfl,rfl⟩
set_option maxHeartbeats 1600000 in
theorem gname_any (s:ByteArray) (w:World) (h:nameB s=true):Calls Tryz.prog 87 #[.string s] w fun e w'=>e=.returned (.bool true)∧w'=w:=by
  have hN:=nameLen_any s w h
  obtain ⟨h0,h1,h2⟩:=name_facts h
  have hpos:0<s.size:=by omega
  have hok:=h2 0 hpos
  unfold okB at hok
  simp at hok
  have hL:=begins_any (s[0].toNat) w
  rw [hok] at hL
  have hnil:¬ s.toList=[]:=fun e=>h0 ((toList_nil s).1 e)
  have h3:s.toList.isEmpty=false:=by simpa using hnil
  clear h h2 hok
  go_enter Tryz.func87,Tryz.ntmps87
  go_wp2_with (first | (go_at_call 109; refine hL.mono ?_; rintro e w1 ⟨rfl,rfl⟩) | (go_at_call 110; refine hN.mono ?_; rintro e w1 ⟨rfl,rfl⟩))
  go_ret
  exact ⟨rfl,rfl⟩
set_option maxHeartbeats 1600000 in
theorem nameOr_any (s:ByteArray) (w:World) (h:nameN s=true):Calls Tryz.prog 72 #[.string s] w fun e w'=>e=.returned (.bool true)∧w'=w:=by
  unfold nameN at h
  by_cases hz:s.size=0
  · have h0:s.toList=[]:=(toList_nil s).2 hz
    clear h
    go_enter Tryz.func72,Tryz.ntmps72
    go_wp2
    go_ret
    exact ⟨rfl,rfl⟩
  · have hn:nameB s=true:=by rw [decide_eq_false hz] at h; simpa using h
    have hG:=gname_any s w hn
    have hnil:¬ s.toList=[]:=fun e=>hz ((toList_nil s).1 e)
    have h3:s.toList.isEmpty=false:=by simpa using hnil
    clear h hn
    go_enter Tryz.func72,Tryz.ntmps72
    go_wp2_with (go_at_call 87; refine hG.mono ?_; rintro e w1 ⟨rfl,rfl⟩)
    go_ret
    exact ⟨rfl,rfl⟩
set_option maxHeartbeats 1600000 in
theorem fitTexts_any (l:List ByteArray) (ao:Option Addr) (cap:Nat) (w:World) (hc:RowAt Value.string l ao w) (h:titlesB l=true) (hl:l.length≤1000000) :
    Calls Tryz.prog 53 #[.slice ao l.length cap] w fun e w'=>e=.returned (.bool true)∧w'=w:=by
  have HT:Hid (∀ s∈l,s.size≠0∧s.size≤80):=fun s hs=>by
    have:=List.all_eq_true.1 h s hs
    simpa using this
  clear h
  go_enter Tryz.func53,Tryz.ntmps53
  go_wp2
  go_loopw [7] (fun i wr=>∃ (j:Nat),i=.int .i64 j∧j≤l.length∧wr=w) (fun i _=>l.length - (intOf i).toNat)
  case atStart=>exact ⟨0,rfl,Nat.zero_le _,rfl⟩
  case round =>
    obtain ⟨j,rfl,hj,rfl⟩:=hrel
    by_cases hlt:j<l.length
    · obtain ⟨b,off,rfl,_,c0⟩:=hc.at (Below.refl _ _) hlt
      have h0:=HT.out _ (List.getElem_mem hlt)
      generalize l[j]=s at *
      have hnil:¬ s.toList=[]:=fun e=>h0.1 ((toList_nil s).1 e)
      have h3:s.toList.isEmpty=false:=by simpa using hnil
      obtain ⟨_,h80⟩:=h0
      clear hc
      go_wp2
      exact ⟨⟨j+1,by go_num,by omega,trivial⟩,by simp [intOf]; omega⟩
    · go_wp2
      go_ret
      exact ⟨rfl,rfl⟩
set_option maxRecDepth 100000 in
set_option maxHeartbeats 800000 in
theorem fsymbols_any (f:Fl) (a:FlA) (w:World) (hp:f.n≤600) :
    Calls Tryz.prog 52 #[a.val f] w fun e w'=>e=.returned (.int .i64 f.n)∧Below w.heap.size w w':=by
  obtain ⟨ta,tc,na,nc,pa,pc⟩:=a
  unfold FlA.val
  simp only
  unfold Fl.n at *
  go_enter Tryz.func52,Tryz.ntmps52
  go_wp2_with fail
  go_ret
  exact ⟨ret_int (by omega),(Below.refl _ _).alloc (Nat.le_refl _) _⟩
set_option maxRecDepth 100000 in
set_option maxHeartbeats 800000 in
theorem fisSymbol_any (f:Fl) (a:FlA) (x:Int) (w:World) (hp:f.n≤600) (hx:0≤x∧x<(f.n:Int)) :
    Calls Tryz.prog 71 #[a.val f,.int .i64 x] w fun e w'=>e=.returned (.bool true)∧Below w.heap.size w w':=by
  have hS:=fun W=>fsymbols_any f a W hp
  obtain ⟨ta,tc,na,nc,pa,pc⟩:=a
  unfold FlA.val at hS ⊢
  simp only at *
  have HS:Hid (∀ W,Calls Tryz.prog 52 #[.agg #[.slice ta f.terms.length tc,.slice na f.nons.length nc,.slice pa f.prods.length pc]] W fun e w'=>e=.returned (.int .i64 f.n)∧Below W.heap.size W w'):=hS
  clear hS
  have B0:Below w.heap.size w (w.alloc (Obj.cells #[Value.slice ta f.terms.length tc,Value.slice na f.nons.length nc,Value.slice pa f.prods.length pc] 50)):=(Below.refl _ _).alloc (Nat.le_refl _) _
  obtain ⟨h1,h2⟩:=hx
  have hd:decide (0≤x)=true:=decide_eq_true h1
  go_enter Tryz.func71,Tryz.ntmps71
  go_wp2_with fail
  refine (HS.out _).mono ?_
  rintro e w1 ⟨rfl,hb1⟩
  have HB:Hid (Below w.heap.size w w1):=below_then B0 hb1 B0.size
  clear B0 hb1
  go_wp2_with fail
  go_ret
  exact ⟨ret_bool (by simp),HB.out⟩
theorem prod_facts {t n:Int} {p:Pr} (h:prodB t n p=true):t≤p.left∧p.left<n∧p.right.length≤64∧-10000≤p.prec∧p.prec≤10000∧∀ x∈p.right,(0≤x.sym∧x.sym<n)∧nameN x.fld=true∧nameN x.als=true:=by
  unfold prodB at h
  simp only [Bool.and_eq_true,decide_eq_true_eq] at h
  refine ⟨h.1.1,h.1.2.1,h.1.2.2.1,h.1.2.2.2.1,h.1.2.2.2.2,fun x hx=>?_⟩
  have:=List.all_eq_true.1 h.2 x hx
  unfold itemB at this
  simp only [Bool.and_eq_true,decide_eq_true_eq] at this
  exact ⟨this.1.1,this.1.2,this.2⟩
set_option maxRecDepth 100000 in
set_option maxHeartbeats 1600000 in
theorem fitProd_any (f:Fl) (a:FlA) (p:Pr) (v:Value) (w:World) (hn:f.n≤600) (hv:SlT p.right v w) (h:prodB f.terms.length (f.n:Int) p=true) :
    Calls Tryz.prog 54 #[a.val f,.agg #[.int .i64 p.left,v,.int .i64 p.prec]] w fun e w'=>e=.returned (.bool true)∧Below w.heap.size w w':=by
  obtain ⟨p1,p2,p3,p4,p5,p6⟩:=prod_facts h
  have HI:Hid (∀ x W,0≤x→x<(f.n:Int)→Calls Tryz.prog 71 #[a.val f,.int .i64 x] W fun e w'=>e=.returned (.bool true)∧Below W.heap.size W w'):=fun x W h1 h2=>fisSymbol_any f a x W hn ⟨h1,h2⟩
  have HNM:Hid (∀ s W,nameN s=true→Calls Tryz.prog 72 #[.string s] W fun e w'=>e=.returned (.bool true)∧w'=W):=fun s W h=>nameOr_any s W h
  have HX:Hid (∀ x∈p.right,(0≤x.sym∧x.sym<(f.n:Int))∧nameN x.fld=true∧nameN x.als=true):=p6
  obtain ⟨ra,rc,rfl,hI,_,hr1,hr2⟩:=hv
  obtain ⟨ta,tc,na,nc,pa,pc⟩:=a
  have X0:=FBox.new f ⟨ta,tc,na,nc,pa,pc⟩ 50 w
  have B0:Below w.heap.size w (w.alloc (fobj f ⟨ta,tc,na,nc,pa,pc⟩ 50)):=(Below.refl _ _).alloc (Nat.le_refl _) _
  have X1:=X0.next ((Below.refl _ _).alloc (Nat.le_refl _) (Obj.cells #[.int .i64 p.left,.slice ra p.right.length rc,.int .i64 p.prec] 47))
  have B1:=B0.alloc B0.size (Obj.cells #[.int .i64 p.left,.slice ra p.right.length rc,.int .i64 p.prec] 47)
  have q0:((w.alloc (fobj f ⟨ta,tc,na,nc,pa,pc⟩ 50)).alloc (Obj.cells #[.int .i64 p.left,.slice ra p.right.length rc,.int .i64 p.prec] 47)).cell? ⟨w.heap.size+1,0,none⟩=some (.int .i64 p.left):=by simp [fobj]
  have q1:((w.alloc (fobj f ⟨ta,tc,na,nc,pa,pc⟩ 50)).alloc (Obj.cells #[.int .i64 p.left,.slice ra p.right.length rc,.int .i64 p.prec] 47)).cell? ⟨w.heap.size+1,1,none⟩=some (.slice ra p.right.length rc):=by simp [fobj]
  have q2:((w.alloc (fobj f ⟨ta,tc,na,nc,pa,pc⟩ 50)).alloc (Obj.cells #[.int .i64 p.left,.slice ra p.right.length rc,.int .i64 p.prec] 47)).cell? ⟨w.heap.size+1,2,none⟩=some (.int .i64 p.prec):=by simp [fobj]
  have hz:w.heap.size+1<((w.alloc (fobj f ⟨ta,tc,na,nc,pa,pc⟩ 50)).alloc (Obj.cells #[.int .i64 p.left,.slice ra p.right.length rc,.int .i64 p.prec] 47)).heap.size:=by simp
  unfold fobj at X1 B1 q0 q1 q2 hz
  unfold FlA.val at HI ⊢
  simp only at *
  clear X0 B0 h p6
  have pl:0≤p.left:=by omega
  go_enter Tryz.func54,Tryz.ntmps54
  go_wp2_with fail
  generalize ((w.alloc (Obj.cells #[Value.slice ta f.terms.length tc,Value.slice na f.nons.length nc,Value.slice pa f.prods.length pc] 50)).alloc (Obj.cells #[.int .i64 p.left,.slice ra p.right.length rc,.int .i64 p.prec] 47))=w0 at *
  refine (HI.out _ _ pl p2).mono ?_
  rintro e w1 ⟨rfl,hb1⟩
  have B2:=below_then B1 hb1 B1.size
  have X2:=X1.next hb1
  have r0:=(hb1.cell (p:=⟨w.heap.size+1,0,none⟩) hz).trans q0
  have r1:=(hb1.cell (p:=⟨w.heap.size+1,1,none⟩) hz).trans q1
  have r2:=(hb1.cell (p:=⟨w.heap.size+1,2,none⟩) hz).trans q2
  clear X1 B1 q0 q1 q2 hb1 hz
  go_wp2_with fail
  have HXF:Hid (∀ W,Below w1.heap.size w1 W→FBox f ⟨ta,tc,na,nc,pa,pc⟩ w.heap.size W):=fun W hb=>X2.next hb
  have HIT:Hid (∀ W,Below w1.heap.size w1 W→ItsAt p.right ra W):=fun W hb=>(hI.next B2).next hb
  clear X2 hI r0 r1 r2
  go_loopw [31] (fun i wr=>∃ (j:Nat),i=.int .i64 j∧j≤p.right.length∧Below w1.heap.size w1 wr) (fun i _=>p.right.length - (intOf i).toNat)
  case atStart=>exact ⟨0,rfl,Nat.zero_le _,Below.refl _ _⟩
  case round =>
    obtain ⟨j,rfl,hj,hbr⟩:=hrel
    by_cases hlt:j<p.right.length
    · obtain ⟨b,off,rfl,_,c0,c1,c2,_⟩:=(HIT.out _ hbr).at (Below.refl _ _) hlt
      obtain ⟨⟨s1,s2⟩,s3,s4⟩:=HX.out _ (List.getElem_mem hlt)
      generalize p.right[j]=x at *
      obtain ⟨_,k0,k1,k2⟩:=HXF.out _ hbr
      simp only at k0 k1 k2
      have Bx:Below w1.heap.size w1 (wr.alloc (Obj.cells #[.int .i64 x.sym,.string x.fld,.string x.als] 44)):=hbr.alloc hbr.size _
      have hz:wr.heap.size<(wr.alloc (Obj.cells #[.int .i64 x.sym,.string x.fld,.string x.als] 44)).heap.size:=by simp
      have t1:(wr.alloc (Obj.cells #[.int .i64 x.sym,.string x.fld,.string x.als] 44)).cell? ⟨wr.heap.size,1,none⟩=some (.string x.fld):=by simp
      have t2:(wr.alloc (Obj.cells #[.int .i64 x.sym,.string x.fld,.string x.als] 44)).cell? ⟨wr.heap.size,2,none⟩=some (.string x.als):=by simp
      go_wp2_with fail
      generalize (wr.alloc (Obj.cells #[.int .i64 x.sym,.string x.fld,.string x.als] 44))=W1 at *
      refine (HI.out _ _ s1 s2).mono ?_
      rintro e W2 ⟨rfl,hb2⟩
      have By:=below_then Bx hb2 Bx.size
      have u1:=(hb2.cell (p:=⟨wr.heap.size,1,none⟩) hz).trans t1
      have u2:=(hb2.cell (p:=⟨wr.heap.size,2,none⟩) hz).trans t2
      clear Bx t1 t2 hb2 hz
      have n1:=HNM.out x.fld W2 s3
      have n2:=HNM.out x.als W2 s4
      go_wp2_with fail
      refine n1.mono ?_
      rintro e W3 ⟨rfl,rfl⟩
      go_wp2_with fail
      refine n2.mono ?_
      rintro e W4 ⟨rfl,rfl⟩
      clear n1 n2
      go_wp2_with fail
      exact ⟨⟨j+1,by go_num,by omega,By⟩,by simp [intOf]; omega⟩
    · go_wp2_with fail
      go_ret
      exact ⟨rfl,below_then B2 hbr B2.size⟩
theorem fitB_parts {f:Fl} (h:fitB f=true):titlesB f.terms=true∧titlesB f.nons=true∧prodsB f.terms.length (f.n:Int) f.terms.length f.prods=true:=by
  unfold fitB headB at h
  simp only [Bool.and_eq_true] at h
  exact ⟨h.1.1.2,h.1.2,h.2⟩
theorem prodsB_drop {t n:Int} {l:List Pr} {j:Nat} {prev:Int} (hj:j<l.length) (h:prodsB t n prev (l.drop j)=true):prev≤l[j].left∧prodB t n l[j]=true∧prodsB t n l[j].left (l.drop (j+1))=true:=by
  rw [List.drop_eq_getElem_cons hj,prodsB] at h
  simp only [Bool.and_eq_true,decide_eq_true_eq] at h
  exact ⟨h.1.1,h.1.2,h.2⟩
set_option maxRecDepth 100000 in
set_option maxHeartbeats 1600000 in
theorem flatFit_any (f:Fl) (a:FlA) (w:World) (hf:FlAt f a w) (h:fitB f=true) :
    Calls Tryz.prog 34 #[a.val f] w fun e w'=>e=.returned (.bool true)∧Below w.heap.size w w':=by
  have hp:=fit_facts h
  have hn:f.n≤600:=hp.size
  obtain ⟨h1,h2,h3⟩:=fitB_parts h
  have HSY:Hid (∀ W,Calls Tryz.prog 52 #[a.val f] W fun e w'=>e=.returned (.int .i64 f.n)∧Below W.heap.size W w'):=fun W=>fsymbols_any f a W hn
  have HT1:Hid (∀ W,Below w.heap.size w W→Calls Tryz.prog 53 #[.slice a.ta f.terms.length a.tc] W fun e w'=>e=.returned (.bool true)∧w'=W):=fun W hb=>fitTexts_any f.terms a.ta a.tc W (hf.1.next hb) h1 (by have:=hp.size; omega)
  have HT2:Hid (∀ W,Below w.heap.size w W→Calls Tryz.prog 53 #[.slice a.na f.nons.length a.nc] W fun e w'=>e=.returned (.bool true)∧w'=W):=fun W hb=>fitTexts_any f.nons a.na a.nc W (hf.2.1.next hb) h2 (by have:=hp.size; omega)
  have HFP:Hid (∀ (p:Pr) (v:Value) (W:World),SlT p.right v W→prodB f.terms.length (f.n:Int) p=true→Calls Tryz.prog 54 #[a.val f,.agg #[.int .i64 p.left,v,.int .i64 p.prec]] W fun e w'=>e=.returned (.bool true)∧Below W.heap.size W w'):=fun p v W hv hB=>fitProd_any f a p v W hn hv hB
  have HPR:Hid (∀ W,Below w.heap.size w W→PrsAt f.prods a.pa W):=fun W hb=>hf.2.2.1.next hb
  have g1:=hp.nons
  have g2:=hp.size
  have g3:=hp.prods
  obtain ⟨ta,tc,na,nc,pa,pc⟩:=a
  have X0:=FBox.new f ⟨ta,tc,na,nc,pa,pc⟩ 50 w
  have B0:Below w.heap.size w (w.alloc (fobj f ⟨ta,tc,na,nc,pa,pc⟩ 50)):=(Below.refl _ _).alloc (Nat.le_refl _) _
  unfold fobj at X0 B0
  unfold FlA.val at HSY HFP ⊢
  simp only at *
  have g1':((f.nons.length:Int) == 0)=false:=beq_eq_false_iff_ne.2 (by omega)
  have HP0:Hid (prodsB f.terms.length (f.n:Int) f.terms.length f.prods=true):=h3
  clear hf h hp h1 h2 h3
  go_enter Tryz.func34,Tryz.ntmps34
  go_wp2_with fail
  generalize (w.alloc (Obj.cells #[Value.slice ta f.terms.length tc,Value.slice na f.nons.length nc,Value.slice pa f.prods.length pc] 50))=W0 at *
  refine (HSY.out _).mono ?_
  rintro e w1 ⟨rfl,hb1⟩
  have X1:=X0.next hb1
  have B1:=below_then B0 hb1 B0.size
  obtain ⟨_,k0,k1,k2⟩:=id X1
  simp only at k0 k1 k2
  clear X0 B0 hb1 HSY
  go_wp2_with fail
  refine (HT1.out _ B1).mono ?_
  rintro e w2 ⟨rfl,rfl⟩
  go_wp2_with fail
  refine (HT2.out _ B1).mono ?_
  rintro e w3 ⟨rfl,rfl⟩
  clear HT1 HT2
  go_wp2_with fail
  have HXF:Hid (∀ W,Below w3.heap.size w3 W→FBox f ⟨ta,tc,na,nc,pa,pc⟩ w.heap.size W):=fun W hb=>X1.next hb
  have HPX:Hid (∀ W,Below w3.heap.size w3 W→PrsAt f.prods pa W):=fun W hb=>HPR.out _ (below_then B1 hb B1.size)
  clear X1 HPR k0 k1 k2
  go_loopw [3,37] (fun q i wr=>∃ (j:Nat) (prev:Int),q=.int .i64 prev∧i=.int .i64 j∧j≤f.prods.length∧prodsB f.terms.length (f.n:Int) prev (f.prods.drop j)=true∧Below w3.heap.size w3 wr) (fun _ i _=>f.prods.length - (intOf i).toNat)
  case atStart=>exact ⟨0,_,rfl,rfl,Nat.zero_le _,HP0.out,Below.refl _ _⟩
  case round =>
    clear HP0
    obtain ⟨j,prev,rfl,rfl,hj,hpr,hbr⟩:=hrel
    by_cases hlt:j<f.prods.length
    · obtain ⟨b,off,v,rfl,_,c0,c1,c2,hv,_⟩:=(HPX.out _ hbr).at (Below.refl _ _) hlt
      obtain ⟨s1,s2,s3⟩:=prodsB_drop hlt hpr
      have HS3:Hid (prodsB f.terms.length (f.n:Int) f.prods[j].left (f.prods.drop (j+1))=true):=s3
      clear s3 hpr
      generalize f.prods[j]=x at *
      obtain ⟨_,k0,k1,k2⟩:=HXF.out _ hbr
      simp only at k0 k1 k2
      obtain ⟨ra,rc,rfl,_⟩:=id hv
      have Bx:Below w3.heap.size w3 (wr.alloc (Obj.cells #[.int .i64 x.left,.slice ra x.right.length rc,.int .i64 x.prec] 47)):=hbr.alloc hbr.size _
      have HC:=HFP.out x _ _ (hv.next ((Below.refl wr.heap.size wr).alloc (Nat.le_refl _) (Obj.cells #[.int .i64 x.left,.slice ra x.right.length rc,.int .i64 x.prec] 47))) s2
      have hz:wr.heap.size<(wr.alloc (Obj.cells #[.int .i64 x.left,.slice ra x.right.length rc,.int .i64 x.prec] 47)).heap.size:=by simp
      have t0:(wr.alloc (Obj.cells #[.int .i64 x.left,.slice ra x.right.length rc,.int .i64 x.prec] 47)).cell? ⟨wr.heap.size,0,none⟩=some (.int .i64 x.left):=by simp
      have s1':decide (x.left<prev)=false:=decide_eq_false (by omega)
      clear hv s2
      have HC2:Hid (Calls Tryz.prog 54 #[.agg #[.slice ta f.terms.length tc,.slice na f.nons.length nc,.slice (some ⟨b,off,none⟩) f.prods.length pc],.agg #[.int .i64 x.left,.slice ra x.right.length rc,.int .i64 x.prec]] (wr.alloc (Obj.cells #[.int .i64 x.left,.slice ra x.right.length rc,.int .i64 x.prec] 47)) fun e w'=>e=.returned (.bool true)∧Below (wr.alloc (Obj.cells #[.int .i64 x.left,.slice ra x.right.length rc,.int .i64 x.prec] 47)).heap.size (wr.alloc (Obj.cells #[.int .i64 x.left,.slice ra x.right.length rc,.int .i64 x.prec] 47)) w'):=HC
      clear HC
      go_wp2_with fail
      generalize (wr.alloc (Obj.cells #[.int .i64 x.left,.slice ra x.right.length rc,.int .i64 x.prec] 47))=W1 at *
      refine HC2.out.mono ?_
      rintro e W2 ⟨rfl,hb2⟩
      have By:=below_then Bx hb2 Bx.size
      have u0:=(hb2.cell (p:=⟨wr.heap.size,0,none⟩) hz).trans t0
      clear Bx t0 hb2 hz HC2
      go_wp2_with fail
      exact ⟨⟨j+1,x.left,rfl,by go_num,by omega,HS3.out,By⟩,by simp [intOf]; omega⟩
    · go_wp2_with fail
      go_ret
      exact ⟨rfl,below_then B1 hbr B1.size⟩
def ofL (f:Fl) (s:Int) (j:Nat):List Int:=((List.range j).filter fun k=>decide ((f.prods[k]?).map (·.left)=some s)).map (fun k:Nat=>(k:Int))
theorem ofL_yes {f:Fl} {s:Int} {j:Nat} {p:Pr} (h:f.prods[j]?=some p) (hs:p.left=s):ofL f s (j+1)=ofL f s j++[(j:Int)]:=by
  unfold ofL
  rw [List.range_succ,List.filter_append,List.map_append]
  simp [h,hs]
theorem ofL_no {f:Fl} {s:Int} {j:Nat} {p:Pr} (h:f.prods[j]?=some p) (hs:¬ p.left=s):ofL f s (j+1)=ofL f s j:=by
  unfold ofL
  rw [List.range_succ,List.filter_append,List.map_append]
  simp [h,hs]
theorem ofL_len (f:Fl) (s:Int) (j:Nat):(ofL f s j).length≤j:=by
  unfold ofL
  rw [List.length_map]
  exact Nat.le_trans (List.length_filter_le _ _) (by simp)
def ofA (f:Fl) (s:Int):List Int:=ofL f s f.prods.length
theorem mem_ofA {f:Fl} {s x:Int}:x∈ofA f s↔∃ (q:Nat) (p:Pr),x=q∧f.prods[q]?=some p∧p.left=s:=by
  unfold ofA ofL
  constructor
  · intro h
    obtain ⟨k,hk,rfl⟩:=List.mem_map.1 h
    obtain ⟨h1,h2⟩:=List.mem_filter.1 hk
    obtain ⟨p,hp,hs⟩:=Option.map_eq_some_iff.1 (of_decide_eq_true h2)
    exact ⟨k,p,rfl,hp,hs⟩
  · rintro ⟨q,p,rfl,hp,hs⟩
    refine List.mem_map.2 ⟨q,List.mem_filter.2 ⟨List.mem_range.2 (List.getElem?_eq_some_iff.1 hp).1,?_⟩,rfl⟩
    simp [hp,hs]
theorem ofL_ok {f:Fl} {s:Int} {j:Nat} (hj:j≤1000):∀ y∈ofL f s j,i64B y:=by
  intro y hy
  unfold ofL at hy
  obtain ⟨k,hk,rfl⟩:=List.mem_map.1 hy
  have:=List.mem_range.1 (List.mem_filter.1 hk).1
  unfold i64B
  omega
set_option maxRecDepth 100000 in
set_option maxHeartbeats 1600000 in
theorem of_any (f:Fl) (a:FlA) (s:Int) (w:World) (hf:FlAt f a w) (hl:f.prods.length≤1000) :
    Calls Tryz.prog 57 #[a.val f,.int .i64 s] w fun e w'=>∃ v,e=.returned v∧SlI (ofA f s) v w'∧Apart w.heap.size v∧Below w.heap.size w w':=by
  obtain ⟨i0,hi0,hz0,hz1,hz2⟩:=info_parts info3
  obtain ⟨ta,tc,na,nc,pa,pc⟩:=a
  have X0:=FBox.new f ⟨ta,tc,na,nc,pa,pc⟩ 50 w
  have B0:Below w.heap.size w (w.alloc (fobj f ⟨ta,tc,na,nc,pa,pc⟩ 50)):=(Below.refl _ _).alloc (Nat.le_refl _) _
  obtain ⟨h0,h1,h2,h3,h4,h5,h6,h7⟩:=hf
  unfold fobj at X0 B0
  unfold FlA.val
  simp only at *
  clear h0 h1
  obtain ⟨_,y0,y1,y2⟩:=id X0
  simp only at y0 y1 y2
  go_enter Tryz.func57,Tryz.ntmps57
  go_wp2_with fail
  generalize w.alloc (Obj.cells #[Value.slice ta f.terms.length tc,Value.slice na f.nons.length nc,Value.slice pa f.prods.length pc] 50)=w0 at *
  have HX:Hid (∀ W,Below w0.heap.size w0 W→FBox f ⟨ta,tc,na,nc,pa,pc⟩ w.heap.size W):=fun W hb=>X0.next hb
  have HP:Hid (∀ W,Below w0.heap.size w0 W→PrsAt f.prods pa W):=fun W hb=>(h2.next B0).next hb
  have HB:Hid (∀ W,Below w0.heap.size w0 W→Below w.heap.size w W):=fun W hb=>below_then B0 hb B0.size
  have HZ0:Hid (w.heap.size≤w0.heap.size):=B0.size
  clear X0 B0 h2 y0 y1 y2
  go_loopw [5,11] (fun o i wr=>∃ (j:Nat),i=.int .i64 j∧j≤f.prods.length∧Own1 3 encI w0.heap.size (ofL f s j) o wr∧Below w0.heap.size w0 wr) (fun _ i _=>f.prods.length - (intOf i).toNat)
  case atStart=>exact ⟨0,rfl,Nat.zero_le _,Own1.nil _ _ _ _,Below.refl _ _⟩
  case round =>
    obtain ⟨j,rfl,hj,hown,B1⟩:=hrel
    obtain ⟨x1,d0,d1,d2⟩:=HX.out _ B1
    simp only at d0 d1 d2
    have hsz:=B1.size
    obtain ⟨oa,oc,rfl⟩:=slice_of_own hown
    have HW:Hid (wr.ownsRow w0.heap.size 3 1 (.slice oa (ofL f s j).length oc) (ofL f s j).length ((ofL f s j).map encI)):=hown
    have hLj:=ofL_len f s j
    clear hown
    by_cases hlt:j<f.prods.length
    · obtain ⟨b,off,v,rfl,_,c0,c1,c2,hv,hlf,_⟩:=(HP.out _ B1).at (Below.refl _ _) hlt
      have HG:Hid (f.prods[j]?=some f.prods[j]):=List.getElem?_eq_getElem hlt
      generalize f.prods[j]=p at *
      obtain ⟨ra,rc,rfl,_⟩:=hv
      by_cases hs:p.left=s
      · have HO2:Hid (ofL f s (j+1)=ofL f s j++[(j:Int)]):=ofL_yes HG.out hs
        subst hs
        have w1own:=HW.out
        generalize ofL f p.left j=L at *
        obtain ⟨LV,hLV⟩:∃ LV,L.map encI=LV:=⟨_,rfl⟩
        have HLV:Hid (L.map encI=LV):=hLV
        rw [hLV] at w1own
        clear hLV HW
        have B1a:Below w0.heap.size w0 (wr.alloc (Obj.cells #[.int .i64 p.left,.slice ra p.right.length rc,.int .i64 p.prec] 47)):=B1.alloc hsz _
        have hsza:=B1a.size
        have w1o:=World.ownsRow.alloc w1own (Obj.cells #[.int .i64 p.left,.slice ra p.right.length rc,.int .i64 p.prec] 47)
        go_wp2_with (at_builtin; refine wpList_append_own _ rfl (.tmp 20) (.tmp 22) 39 rfl w0.heap.size 3 i0 _ 1 8 Tryz.underlying39 hi0 hz0 hz1 hz2 rfl (by decide) _ L.length LV rfl (World.ownsRow.alloc w1o _) ⟨wr.heap.size+1,0,none⟩ 1 1 [encI j] rfl rfl (by first | exact new_cell _ _ _ | (have:=new_cell (wr.alloc (Obj.cells #[.int .i64 p.left,.slice ra p.right.length rc,.int .i64 p.prec] 47)) (encI j) 3; simpa [encI] using this)) (by simp [encI]; rfl) (by unfold maxLen; omega) (by omega) (by simp; omega) ?_)
        intro v2 w2 hown2 hg2 _
        have B2:Below w0.heap.size w0 w2:=(B1a.alloc hsza _).grown hg2 (by simp; omega) (fun k e=>(World.ownsRow.lt w1own k e).1)
        obtain ⟨a2,c2,rfl⟩:=slice_of_own hown2
        have HW2:Hid (Own1 3 encI w0.heap.size (L++[(j:Int)]) (.slice a2 (L.length+1) c2) w2):=by
          show World.ownsRow _ _ _ _ _ _ _
          have:=hown2
          rw [← HLV.out] at this
          simpa using this
        clear hown2 hg2 w1own w1o B1a hsza
        go_wp2_with fail
        exact ⟨⟨j+1,by go_num,by omega,by rw [HO2.out]; exact HW2.out,B2⟩,by simp [intOf]; omega⟩
      · have hs':(p.left == s)=false:=by simpa using hs
        have HO2:Hid (ofL f s (j+1)=ofL f s j):=ofL_no HG.out hs
        go_wp2_with fail
        exact ⟨⟨j+1,by go_num,by omega,by rw [HO2.out]; exact World.ownsRow.alloc HW.out _,B1.alloc hsz _⟩,by simp [intOf]; omega⟩
    · obtain rfl:j=f.prods.length:=by omega
      go_wp2_with fail
      go_ret
      exact ⟨_,rfl,sli_own (B:=w0.heap.size) HW.out (ofL_ok hl),(apart_own HW.out).mono HZ0.out,HB.out _ B1⟩
theorem ownsRow_next {W W':World} {B n k:Nat} {e:TypeId} {v:Value} {xs:List Value} (h:W.ownsRow B e k v n xs) (hb:Below W.heap.size W W'):W'.ownsRow B e k v n xs:=by
  refine ⟨h.1,?_⟩
  rcases h.2 with h' | ⟨g,cap,cur,h1,h2,h3,h4⟩
  · exact .inl h'
  · exact .inr ⟨g,cap,cur,h1,h2,(hb.block g (Array.getElem?_eq_some_iff.1 h3).1).trans h3,h4⟩
theorem OwnL.next {W W':World} {B:Nat} {v:Value} {l:List Ir} (h:OwnL B l v W) (hb:Below W.heap.size W W'):OwnL B l v W':=ownsRow_next h hb
theorem SlL.of {l:List Ir} {ao:Option Addr} {cap:Nat} {W:World} (h:IrsAt l ao W) (h1:ao=none→cap=0) (h2:l.length≤cap):SlL l (.slice ao l.length cap) W:=⟨ao,cap,rfl,h,h1,h2⟩
theorem movedL_take {f:Fl} {l:List Ir} {s:Int} {j:Nat} (h:j<l.length):movedL f (l.take (j+1)) s=movedL f (l.take j) s++(if nextI f l[j]=some s then [(l[j].1,l[j].2.1+1,l[j].2.2)] else []):=by
  unfold movedL
  rw [List.take_succ_eq_append_getElem h,List.filter_append,List.map_append]
  congr 1
  split
  · rename_i h; simp [h]
  · rename_i h; simp [h]
theorem movedL_len (f:Fl) (l:List Ir) (s:Int):(movedL f l s).length≤l.length:=by
  unfold movedL; rw [List.length_map]; exact List.length_filter_le _ _
theorem movedL_ok {f:Fl} {l:List Ir} {s:Int} (hp:FitP f):∀ x∈movedL f l s,okR x:=fun x hx=>by
  have h1:=fitI_iff.1 (movedL_fit x hx)
  have h2:=rightI_le hp x.1
  have h3:=hp.prods
  have h4:=hp.size
  unfold okR i64B
  omega
end Go.Proofs.YtiamjafecbpfpaaGreatDoor
namespace Go.Proofs.YtiamjafecbpfpaaGreatDoor
open Go.RowKit Go.Shelf
attribute [local go_sem] Oper.semAt_some
def KpC (D:Nat→Prop) (A B:World):Prop:=∀ (ad:Addr) (v:Value),D ad.block→A.cell? ad=some v→B.cell? ad=some v
theorem KpC.refl (D:Nat→Prop) (A:World):KpC D A A:=fun _ _ _ h=>h
theorem KpC.trans {D:Nat→Prop} {A B C:World} (h:KpC D A B) (k:KpC D B C):KpC D A C:=fun a v hd hv=>k a v hd (h a v hd hv)
theorem KpC.grown {D:Nat→Prop} {A B:World} {row:Option Nat} (hg:A.grownBy B row) (hr:∀ r,row=some r→∃ o:Obj,A.heap[r]?=some o∧o.isCells=false):KpC D A B:=fun _ _ _ hv=>cell_kept hv hg hr
theorem KpC.putObj {D:Nat→Prop} (W:World) (l:Nat) (o o':Obj) (h:W.heap[l]?=some o) (hc:o.isCells=false):KpC D W (W.putObj l o') :=
  .grown (grownBy_putObj' W l o') (fun r e=>by cases e; exact ⟨o,h,hc⟩)
theorem KpC.alloc {D:Nat→Prop} (W:World) (o:Obj):KpC D W (W.alloc o):=.grown (World.grownBy_alloc W o none) (fun _ e=>by cases e)
set_option maxHeartbeats 400000 in
theorem prods_any (f:Fl) (a:FlA) (w:World) :
    Calls Tryz.prog 114 #[a.val f] w fun e w'=>e=.returned (.func (.func 137) #[] #[.pointer (some ⟨w.heap.size,0,none⟩)])∧w'=w.alloc (fobj f a 50):=by
  obtain ⟨ta,tc,na,nc,pa,pc⟩:=a
  unfold FlA.val fobj
  simp only
  go_enter Tryz.func114,Tryz.ntmps114
  go_wp2
  go_ret
  exact ⟨rfl,rfl⟩
theorem range_pre {a b:Nat} (h:a≤b):List.range a <+: List.range b:=by
  obtain ⟨d,rfl⟩:∃ d,b=a+d:=⟨b - a,by omega⟩
  exact ⟨(List.range d).map (a+·),List.range_add.symm⟩
set_option maxRecDepth 100000 in
set_option maxHeartbeats 1000000 in
theorem prods1_in (n:Nat) (hn:1≤n) (l Bx pb off N pc:Nat) (lf:Nat→Int) (ra:Nat→Option Addr) (rl rc:Nat→Nat) (pp:Nat→Int) (hN:N≤400) (J Jx:List Nat→World→Prop)
    (hA:∀ s W o,J s W→J s (W.alloc o))
    (hY:∀ pre x W,J pre W→pre.length<N→YieldAt Fence.wide (n - 1) Tryz.prog l #[.int .i64 (lf x),.slice (ra x) (rl x) (rc x)] W fun e W' =>
      (e=.returned (.bool true)∧J (pre++[x]) W'∧KpC (fun k=>k=Bx∨k=pb) W W')∨(e=.returned (.bool false)∧Jx (pre++[x]) W'))
    (W:World) (h0:J [] W) (c2:W.cell? ⟨Bx,2,none⟩=some (.slice (some ⟨pb,off,none⟩) N pc))
    (hc:∀ j,j<N→W.cell? ⟨pb,off+j * 3,none⟩=some (.int .i64 (lf j))∧W.cell? ⟨pb,off+j * 3+1,none⟩=some (.slice (ra j) (rl j) (rc j))∧W.cell? ⟨pb,off+j * 3+2,none⟩=some (.int .i64 (pp j))) :
    CallsIn Fence.wide n Tryz.prog 137 #[.func (.yield l) #[] #[],.pointer (some ⟨Bx,0,none⟩)] W fun e W'=>(∃ v,e=.returned v) ∧
      ((∃ ys,ys=List.range N∧J ys W')∨(∃ pre,pre <+: List.range N∧Jx pre W')):=by
  refine callsIn_of_wp Tryz.func137 rfl trivial ?_ rfl
  simp only [Tryz.ntmps137,List.size_toArray,List.length_cons,List.length_nil,Nat.reduceAdd,Nat.reduceSub,Array.replicate_succ,Array.replicate_zero,List.push_toArray,List.append_toArray,List.nil_append,List.cons_append]
  gi_wp2
  gi_loopw [8] (fun i wr=>∃ (j:Nat),i=.int .i64 j∧j≤N∧J (List.range j) wr∧∀ j,j<N→wr.cell? ⟨pb,off+j * 3,none⟩=some (.int .i64 (lf j))∧wr.cell? ⟨pb,off+j * 3+1,none⟩=some (.slice (ra j) (rl j) (rc j))∧wr.cell? ⟨pb,off+j * 3+2,none⟩=some (.int .i64 (pp j)))
    (fun i _=>N - (intOf i).toNat)
  case atStart=>exact ⟨0,rfl,Nat.zero_le _,h0,hc⟩
  case round =>
    clear hc c2 h0
    obtain ⟨j,rfl,hj,hJ,hc⟩:=hrel
    by_cases hlt:j<N
    · obtain ⟨d0,d1,d2⟩:=hc j hlt
      have HC:Hid (∀ j,j<N→wr.cell? ⟨pb,off+j * 3,none⟩=some (.int .i64 (lf j))∧wr.cell? ⟨pb,off+j * 3+1,none⟩=some (.slice (ra j) (rl j) (rc j))∧wr.cell? ⟨pb,off+j * 3+2,none⟩=some (.int .i64 (pp j))):=hc
      clear hc
      obtain ⟨fn,tmps,assign,body,hy,hR⟩:=hY (List.range j) j (wr.alloc (Obj.cells #[.int .i64 (lf j),.slice (ra j) (rl j) (rc j),.int .i64 (pp j)] 47)) (hA _ _ _ hJ) (by simpa using hlt)
      have HS:Hid (List.range j++[j]=List.range (j+1)):=List.range_succ.symm
      clear hY hA
      gi_wp2
      refine hR.mono ?_
      rintro e W3 (⟨rfl,hJ3,hk3⟩ | ⟨rfl,hJx3⟩)
      · have HC3:Hid (∀ j,j<N→W3.cell? ⟨pb,off+j * 3,none⟩=some (.int .i64 (lf j))∧W3.cell? ⟨pb,off+j * 3+1,none⟩=some (.slice (ra j) (rl j) (rc j))∧W3.cell? ⟨pb,off+j * 3+2,none⟩=some (.int .i64 (pp j))):=fun i hi=>by
          obtain ⟨e0,e1,e2⟩:=HC.out i hi
          have hk:=(KpC.alloc wr _).trans hk3
          exact ⟨hk _ _ (.inr rfl) e0,hk _ _ (.inr rfl) e1,hk _ _ (.inr rfl) e2⟩
        rw [HS.out] at hJ3
        clear hk3 HC d0 d1 d2 hR hy hJ
        gi_wp2
        go_roundw
        case rel=>exact ⟨j+1,by go_num,by omega,hJ3,HC3.out⟩
        case measure=>simp [intOf]; omega
      · rw [HS.out] at hJx3
        gi_wp2
        refine bodyPost_ret (results_none rfl _ _ _) rfl ?_
        exact ⟨⟨_,rfl⟩,.inr ⟨_,range_pre (by omega),hJx3⟩⟩
    · obtain rfl:j=N:=by omega
      clear hc hY hA
      gi_wp2
      go_end0
      exact ⟨⟨_,rfl⟩,.inl ⟨_,rfl,hJ⟩⟩
theorem prods_stops (n:Nat) (hn:1≤n) (Bx pb off N pc:Nat) (lf:Nat→Int) (ra:Nat→Option Addr) (rl rc:Nat→Nat) (pp:Nat→Int) (hN:N≤400) (w:World) (hBx:Bx<w.heap.size) (hpb:pb<w.heap.size)
    (c2:w.cell? ⟨Bx,2,none⟩=some (.slice (some ⟨pb,off,none⟩) N pc))
    (hc:∀ j,j<N→w.cell? ⟨pb,off+j * 3,none⟩=some (.int .i64 (lf j))∧w.cell? ⟨pb,off+j * 3+1,none⟩=some (.slice (ra j) (rl j) (rc j))∧w.cell? ⟨pb,off+j * 3+2,none⟩=some (.int .i64 (pp j))) :
    SeqStopsK Fence.wide n Tryz.prog 137 #[.pointer (some ⟨Bx,0,none⟩)] (fun x=>#[.int .i64 (lf x),.slice (ra x) (rl x) (rc x)]) (KpC (fun k=>k=Bx∨k=pb)) (fun ys=>ys=List.range N) (fun pre=>pre <+: List.range N) N w:=fun l J Jx W hW hJ _ hY h0 =>
  prods1_in n hn l Bx pb off N pc lf ra rl rc pp hN J Jx (fun s W' o hs=>hJ s _ _ none hs (World.grownBy_alloc W' o none) (fun _ e=>by cases e)) hY W h0
    ((hW.cell (p:=⟨Bx,2,none⟩) hBx).trans c2)
    (fun j hj=>by
      obtain ⟨e0,e1,e2⟩:=hc j hj
      exact ⟨(hW.cell (p:=⟨pb,off+j * 3,none⟩) hpb).trans e0,(hW.cell (p:=⟨pb,off+j * 3+1,none⟩) hpb).trans e1,(hW.cell (p:=⟨pb,off+j * 3+2,none⟩) hpb).trans e2⟩)
theorem wpIn_scope_wide {n:Nat} {P:Program} {c:Code} {Q:Exit→Act→World→Prop} {a:Act} {w:World} (h:c.wpIn Fence.wide n P (Exit.noGoto Q) a w):(Code.scope c).wpIn Fence.wide n P Q a w :=
  wpIn_wide.2 (wp_scope_straight (wpIn_wide.1 h))
attribute [local go_sem] Oper.semAt_some
structure But (D:Nat→Prop) (w w':World):Prop where
  os:w'.os=w.os
  tape:w'.tape=w.tape
  output:w'.output=w.output
  size:w.heap.size≤w'.heap.size
  block:∀ k,k<w.heap.size→¬ D k→w'.heap[k]?=w.heap[k]?
theorem But.refl (D:Nat→Prop) (w:World):But D w w:=⟨rfl,rfl,rfl,Nat.le_refl _,fun _ _ _=>rfl⟩
theorem But.trans {D:Nat→Prop} {a b c:World} (h:But D a b) (k:But D b c):But D a c :=
  ⟨k.os.trans h.os,k.tape.trans h.tape,k.output.trans h.output,Nat.le_trans h.size k.size,fun i hi hd=>(k.block i (Nat.lt_of_lt_of_le hi h.size) hd).trans (h.block i hi hd)⟩
theorem But.mono {D E:Nat→Prop} {a b:World} (h:But D a b) (hd:∀ k,k<a.heap.size→D k→E k):But E a b :=
  ⟨h.os,h.tape,h.output,h.size,fun k hk he=>h.block k hk (fun hD=>he (hd k hk hD))⟩
theorem But.of_below {n:Nat} {a b:World} (h:Below n a b):But (fun k=>n≤k) a b:=⟨h.os,h.tape,h.output,h.size,fun k _ hd=>h.block k (by omega)⟩
theorem But.of_next {D:Nat→Prop} {a b:World} (h:Below a.heap.size a b):But D a b:=⟨h.os,h.tape,h.output,h.size,fun k hk _=>h.block k hk⟩
theorem But.below {n:Nat} {D:Nat→Prop} {a b:World} (h:But D a b) (hn:n≤a.heap.size) (hd:∀ k,D k→n≤k):Below n a b :=
  ⟨h.os,h.tape,h.output,h.size,fun k hk=>h.block k (by omega) (fun hD=>by have:=hd k hD; omega)⟩
theorem But.cell {D:Nat→Prop} {a b:World} (h:But D a b) {p:Addr} (hp:p.block<a.heap.size) (hd:¬ D p.block):b.cell? p=a.cell? p:=World.cell?_of_block (h.block _ hp hd)
theorem But.frozen {D:Nat→Prop} {a b:World} (h:But D a b) {p:Addr} (hp:p.block<a.heap.size) (hd:¬ D p.block):b.frozen? p=a.frozen? p:=World.frozen?_of_block (h.block _ hp hd)
theorem But.keeps {D:Nat→Prop} {a b:World} (h:But D a b) {B:Nat} (hd:∀ k,D k→k<B):KeepsFrom B a b :=
  ⟨h.size,fun k o hB hk _=>(h.block k (Array.getElem?_eq_some_iff.1 hk).1 (fun hD=>by have:=hd k hD; omega)).trans hk⟩
theorem But.kpC {D E:Nat→Prop} {a b:World} (h:But D a b) (hd:∀ k,E k→¬ D k):KpC E a b:=fun ad v he hv=>by
  obtain ⟨o,ho,_⟩:=cells_of_cell hv
  rw [h.cell (Array.getElem?_eq_some_iff.1 ho).1 (hd _ he)]; exact hv
theorem But.drew {D:Nat→Prop} {a b:World} (h:But D a b):But D a b.drew:=⟨h.os,h.tape,h.output,h.size,h.block⟩
theorem But.drewN {D:Nat→Prop} {a b:World} (h:But D a b) (n:Nat):But D a (b.drewN n):=⟨h.os,h.tape,h.output,h.size,h.block⟩
def LastC (n j c i:Nat):Prop:=(i<j∧j - i≤c)∨(j≤i∧j+n - i≤c)
def mark (d:Nat):Deferred:={ target:=.collected d,args:=#[] }
def Mk (B:Nat) (Ds:List Nat) (W:World):Prop:=Ds.Nodup∧∀ d∈Ds,B≤d∧W.heap[d]?=some (.deferred (some []))
theorem leaves_marks {F:Fence} {n:Nat} {P:Program} {fn:Func} {tmps:Array Value} {B:Nat} {Rw:World→Prop} (hres:∀ W,∃ v,(results fn tmps).run P W=.ok v W)
    (hR:∀ W d,B≤d→W.heap[d]?=some (.deferred (some []))→Rw W→Rw (W.putObj d (.deferred none))) :
    ∀ (Ds:List Nat) (W:World),Mk B Ds W→Rw W→LeavesInM F n P fn tmps (fun e W'=>(∃ v,e=.returned v)∧Rw W') (Ds.map mark) .returning W
  | [],W,_,h=>by
    obtain ⟨v,hv⟩:=hres W
    exact ⟨v,hv,⟨_,rfl⟩,h⟩
  | d :: Ds,W,hM,h=>by
    obtain ⟨hB,hd⟩:=hM.2 d (by simp)
    have hn:=List.nodup_cons.1 hM.1
    refine ⟨by simp,.inl ⟨d,_,rfl,run_takeDeferred hd,?_⟩⟩
    refine leaves_marks hres hR Ds _ ⟨hn.2,fun e he=>?_⟩ (hR W d hB hd h)
    have:=hM.2 e (by simp [he])
    exact ⟨this.1,(World.putObj_heap_other (fun h'=>hn.1 (by rw [← h']; exact he))).trans this.2⟩
structure SC (M:Nat) (v0 v1 v2 v3:Value) (c:Nat) (W:World):Prop where
  f0:W.cell? ⟨M,0,none⟩=some v0
  f1:W.cell? ⟨M,1,none⟩=some v1
  f2:W.cell? ⟨M,2,none⟩=some v2
  g0:W.cell? ⟨M+1,0,none⟩=some v3
  st:W.cell? ⟨M+1+1,0,none⟩=some (.int .i64 c)
  fz:W.frozen? ⟨M+1+1,0,none⟩=false
theorem SC.lt {M v0 v1 v2 v3 c W} (h:SC M v0 v1 v2 v3 c W):M+1+1<W.heap.size:=World.block_lt_of_cell? W _ h.st
theorem SC.kept {M v0 v1 v2 v3 c W W'} {row:Option Nat} (h:SC M v0 v1 v2 v3 c W) (hg:W.grownBy W' row) (hr:∀ r,row=some r→∃ o:Obj,W.heap[r]?=some o∧o.isCells=false):SC M v0 v1 v2 v3 c W' :=
  ⟨cell_kept h.f0 hg hr,cell_kept h.f1 hg hr,cell_kept h.f2 hg hr,cell_kept h.g0 hg hr,cell_kept h.st hg hr,(frozen_kept h.st hg hr).trans h.fz⟩
theorem SC.but {M v0 v1 v2 v3 c W W'} {D:Nat→Prop} (h:SC M v0 v1 v2 v3 c W) (hb:But D W W') (hD:∀ k,D k→k<M):SC M v0 v1 v2 v3 c W':=by
  have hl:=h.lt
  have e:∀ {k o v},M≤k→k≤M+1+1→W.cell? ⟨k,o,none⟩=some v→W'.cell? ⟨k,o,none⟩=some v:=fun {k o v} h1 h2 hv=>(hb.cell (p:=⟨k,o,none⟩) (by show k<_; omega) (fun hd=>by have:=hD _ hd; simp only at this; omega)).trans hv
  exact ⟨e (by omega) (by omega) h.f0,e (by omega) (by omega) h.f1,e (by omega) (by omega) h.f2,e (by omega) (by omega) h.g0,e (by omega) (by omega) h.st,(hb.frozen (p:=⟨M+1+1,0,none⟩) hl (fun hd=>by have:=hD _ hd; simp only at this; omega)).trans h.fz⟩
theorem SC.set {M v0 v1 v2 v3 c W} (h:SC M v0 v1 v2 v3 c W) (c':Nat):SC M v0 v1 v2 v3 c' (W.setCell ⟨M+1+1,0,none⟩ (.int .i64 c')):=by
  have o:∀ {k o v},k≠M+1+1→W.cell? ⟨k,o,none⟩=some v→(W.setCell ⟨M+1+1,0,none⟩ (.int .i64 c')).cell? ⟨k,o,none⟩=some v:=fun {k o v} hk hv=>(World.cell?_of_block (w:=W) (Below.heap_setCell W ⟨M+1+1,0,none⟩ _ k hk)).trans hv
  exact ⟨o (by omega) h.f0,o (by omega) h.f1,o (by omega) h.f2,o (by omega) h.g0,World.cell?_setCell_same _ _ _ h.st,by rw [World.frozen?_setCell]; exact h.fz⟩
theorem But.setCell {D:Nat→Prop} {a b:World} (h:But D a b) (p:Addr) (v:Value) (hp:a.heap.size≤p.block∨D p.block):But D a (b.setCell p v) :=
  ⟨h.os,h.tape,h.output,by simpa using h.size,fun k hk hd=>(Below.heap_setCell b p v k (fun e=>by rcases hp with h1 | h1; omega; exact hd (e ▸ h1))).trans (h.block k hk hd)⟩
theorem But.grown {D:Nat→Prop} {a b c:World} (h:But D a b) {row:Option Nat} (hg:b.grownBy c row) (hr:∀ r,row=some r→a.heap.size≤r):But D a c :=
  ⟨hg.os.trans h.os,hg.tape.trans h.tape,hg.output.trans h.output,Nat.le_trans h.size hg.size,fun k hk hd=>(hg.block k (Nat.lt_of_lt_of_le hk h.size) (fun e=>by have:=hr k e.symm; omega)).trans (h.block k hk hd)⟩
theorem Mk.grown {B:Nat} {Ds:List Nat} {W W':World} {row:Option Nat} (h:Mk B Ds W) (hg:W.grownBy W' row) (hr:∀ r,row=some r→∀ d∈Ds,d≠r):Mk B Ds W' :=
  ⟨h.1,fun d hd=>⟨(h.2 d hd).1,(hg.block d (Array.getElem?_eq_some_iff.1 (h.2 d hd).2).1 (fun e=>hr d e.symm d hd rfl)).trans (h.2 d hd).2⟩⟩
theorem Mk.but {B:Nat} {Ds:List Nat} {W W':World} {D:Nat→Prop} (h:Mk B Ds W) (hb:But D W W') (hD:∀ k,D k→k<B):Mk B Ds W' :=
  ⟨h.1,fun d hd=>⟨(h.2 d hd).1,(hb.block d (Array.getElem?_eq_some_iff.1 (h.2 d hd).2).1 (fun e=>by have:=hD d e; have:=(h.2 d hd).1; omega)).trans (h.2 d hd).2⟩⟩
theorem Mk.lt {B:Nat} {Ds:List Nat} {W:World} (h:Mk B Ds W):∀ d∈Ds,d<W.heap.size:=fun d hd=>(Array.getElem?_eq_some_iff.1 (h.2 d hd).2).1
theorem wrap_succ {c N:Nat} (h:c<N) (hN:N≤400):wrap64 ((c:Int)+1)=c+1:=IntWalk.wrap64_in _ (by omega)
theorem succ_dec {c N:Nat}:(((c+1:Nat):Int) == (N:Int))=decide (c+1=N):=by
  rw [Bool.eq_iff_iff]; simp; omega
theorem LastC.all {n c i:Nat} (hc:n≤c) (j:Nat) (hj:j≤n) (_hi:i<n):LastC n j c i:=by unfold LastC; omega
theorem LastC.zero {n j i:Nat} (hi:i<n) (h:LastC n j 0 i):False:=by unfold LastC at h; omega
theorem LastC.step {n j c i:Nat} (_hi:i<n) (h:LastC n (j+1) (c+1) i):i=j∨LastC n j c i:=by unfold LastC at *; omega
theorem LastC.wrap {n c i:Nat} (h:LastC n 0 c i) (hi:i<n):LastC n n c i:=by unfold LastC at *; omega
set_option maxRecDepth 100000 in
set_option maxHeartbeats 2000000 in
theorem settle_in {σ:Type} (n:Nat) (hn:6≤n) (f:Fl) (a:FlA) (g:Nat) (lb:Array Value) (eg:∀ args w,(callFunc g args).run Tryz.prog w=.ok (.enter g args) w) (S:σ→World→Prop) (D:Nat→Prop) (μ:σ→Nat) (Cl:Nat→σ→Prop)
    (w:World) (hp:FitP f) (hfl:∀ s W,S s W→FlAt f a W) (hS:∀ s W W',S s W→Below w.heap.size W W'→S s W') (hD:∀ k,D k→k<w.heap.size) (hDa:0<f.prods.length→∀ ad,a.pa=some ad→¬ D ad.block)
    (hg:∀ (j:Nat) (hj:j<f.prods.length) (s:σ) (W:World) (v:Value),S s W→SlT f.prods[j].right v W→w.heap.size≤W.heap.size→(∃ pb off,a.pa=some ⟨pb,off,none⟩∧w.cell? ⟨pb,off+j * 3+1,none⟩=some v)→Calls Tryz.prog g (#[.int .i64 f.prods[j].left,v]++lb) W fun e W'=>∃ s' b,e=.returned (.bool b)∧S s' W'∧But D W W'∧(b=true→μ s'<μ s)∧(b=false→s'=s∧Cl j s))
    (s0:σ) (h0:S s0 w) :
    CallsIn Fence.wide n Tryz.prog 92 #[a.val f,.func (.func g) #[] lb] w fun e W'=>(∃ v,e=.returned v)∧∃ s,S s W'∧(∀ j,j<f.prods.length→Cl j s)∧But D w W':=by
  obtain ⟨ta,tc,na,nc,pa,pc⟩:=a
  -- the productions' cells,as they lie all along
  have HQ:Hid (0<f.prods.length→∃ (pb off:Nat) (q:Nat→(Int × Int) × Option Addr × Nat × Nat),pa=some ⟨pb,off,none⟩∧pb<w.heap.size∧∀ x,∃ (j:Nat) (hj:j<f.prods.length),(x<f.prods.length→j=x) ∧
      w.cell? ⟨pb,off+j * 3,none⟩=some (.int .i64 (q x).1.1)∧w.cell? ⟨pb,off+j * 3+1,none⟩=some (.slice (q x).2.1 (q x).2.2.1 (q x).2.2.2)∧w.cell? ⟨pb,off+j * 3+2,none⟩=some (.int .i64 (q x).1.2)∧(q x).1.1=f.prods[j].left):=fun hpos=>by
    obtain ⟨_,_,h2,_⟩:=hfl _ _ h0
    obtain ⟨pb,off,_,hpa,hpb,_⟩:=h2 0 _ (List.getElem?_eq_getElem hpos)
    simp only at hpa
    have hall:∀ x:Nat,∃ q:(Int × Int) × Option Addr × Nat × Nat,∃ (j:Nat) (hj:j<f.prods.length),(x<f.prods.length→j=x) ∧
      w.cell? ⟨pb,off+j * 3,none⟩=some (.int .i64 q.1.1)∧w.cell? ⟨pb,off+j * 3+1,none⟩=some (.slice q.2.1 q.2.2.1 q.2.2.2)∧w.cell? ⟨pb,off+j * 3+2,none⟩=some (.int .i64 q.1.2)∧q.1.1=f.prods[j].left:=fun x=>by
      have key:∀ j,(hj:j<f.prods.length)→∃ q:(Int × Int) × Option Addr × Nat × Nat,w.cell? ⟨pb,off+j * 3,none⟩=some (.int .i64 q.1.1)∧w.cell? ⟨pb,off+j * 3+1,none⟩=some (.slice q.2.1 q.2.2.1 q.2.2.2)∧w.cell? ⟨pb,off+j * 3+2,none⟩=some (.int .i64 q.1.2)∧q.1.1=f.prods[j].left:=fun j hj=>by
        obtain ⟨b,o,v,e,_,k0,k1,k2,hv,_⟩:=h2 j _ (List.getElem?_eq_getElem hj)
        obtain ⟨ra,rc,rfl,_⟩:=hv
        simp only at e
        rw [hpa] at e
        cases e
        exact ⟨((f.prods[j].left,f.prods[j].prec),ra,f.prods[j].right.length,rc),k0,k1,k2,rfl⟩
      by_cases hx:x<f.prods.length
      · obtain ⟨q,hq⟩:=key x hx
        exact ⟨q,x,hx,fun _=>rfl,hq⟩
      · obtain ⟨q,hq⟩:=key 0 hpos
        exact ⟨q,0,hpos,fun h=>absurd h hx,hq⟩
    obtain ⟨q,hq⟩:=Classical.axiomOfChoice hall
    exact ⟨pb,off,q,hpa,hpb,hq⟩
  have HSL:Hid (∀ (pb off:Nat),pa=some ⟨pb,off,none⟩→∀ (j:Nat) (hj:j<f.prods.length) (v:Value) (s:σ) (W:World),w.cell? ⟨pb,off+j * 3+1,none⟩=some v→S s W→But D w W→SlT f.prods[j].right v W):=fun pb off hpa j hj v s W hv hs hB=>by
    obtain ⟨_,_,h2,_⟩:=hfl _ _ hs
    obtain ⟨b,o,v',e,_,_,k1,_,hv',_⟩:=h2 j _ (List.getElem?_eq_getElem hj)
    simp only at e
    rw [hpa] at e
    cases e
    rw [hB.cell (p:=⟨pb,off+j * 3+1,none⟩) (World.block_lt_of_cell? w _ hv) (by have:=hDa (by omega) _ hpa; exact this),hv] at k1
    cases k1
    exact hv'
  have HS:Hid (∀ s W W',S s W→Below w.heap.size W W'→S s W'):=hS
  have HD:Hid (∀ k,D k→k<w.heap.size):=hD
  have HDA:Hid (0<f.prods.length→∀ ad,pa=some ad→¬ D ad.block):=hDa
  have HGR:Hid (∀ (j:Nat) (hj:j<f.prods.length) (s:σ) (W:World) (v:Value),S s W→SlT f.prods[j].right v W→w.heap.size≤W.heap.size→(∃ pb off,pa=some ⟨pb,off,none⟩∧w.cell? ⟨pb,off+j * 3+1,none⟩=some v)→Calls Tryz.prog g (#[.int .i64 f.prods[j].left,v]++lb) W fun e W'=>∃ s' b,e=.returned (.bool b)∧S s' W'∧But D W W'∧(b=true→μ s'<μ s)∧(b=false→s'=s∧Cl j s)):=hg
  have HPR:Hid (∀ W,Calls Tryz.prog 114 #[.agg #[.slice ta f.terms.length tc,.slice na f.nons.length nc,.slice pa f.prods.length pc]] W fun e w'=>e=.returned (.func (.func 137) #[] #[.pointer (some ⟨W.heap.size,0,none⟩)])∧w'=W.alloc (Obj.cells #[.slice ta f.terms.length tc,.slice na f.nons.length nc,.slice pa f.prods.length pc] 50)):=fun W=>prods_any f ⟨ta,tc,na,nc,pa,pc⟩ W
  have hN4:=hp.prods
  have h1:1≤n:=by omega
  unfold FlA.val
  simp only
  clear hfl hg hS hD hDa hp
  refine callsIn_of_wp_marks Tryz.func92 rfl trivial ?_ rfl
  simp only [Tryz.ntmps92,List.size_toArray,List.length_cons,List.length_nil,Nat.reduceAdd,Nat.reduceSub,Array.replicate_succ,Array.replicate_zero,List.push_toArray,List.append_toArray,List.nil_append,List.cons_append]
  gi_wp2
  refine wpIn_scope_wide ?_
  gi_wp2
  refine wpIn_label ?_
  gi_wp2
  refine wpIn_loop_ghost (fun m a' W=>∃ (t7 t8 t9 t10 t11 t12:Value) (Ds:List Nat) (s:σ) (c:Nat),a'={ tmps:=#[Value.agg #[.slice ta f.terms.length tc,.slice na f.nons.length nc,.slice pa f.prods.length pc],.func (.func g) #[] lb,.pointer (some ⟨w.heap.size,0,none⟩),.pointer (some ⟨w.heap.size+1,0,none⟩),.pointer (some ⟨w.heap.size+1+1,0,none⟩),undef,undef,t7,t8,t9,t10,t11,t12,undef,undef,undef,undef,undef,undef,undef,undef,undef,undef,undef,undef,undef],defers:=Ds.map mark }∧m=μ s∧Mk w.heap.size Ds W∧S s W∧SC w.heap.size (.slice ta f.terms.length tc) (.slice na f.nons.length nc) (.slice pa f.prods.length pc) (.func (.func g) #[] lb) c W∧But D w W∧(c=0∨c<f.prods.length)∧∀ i,i<f.prods.length→LastC f.prods.length 0 c i→Cl i s) (μ s0) ?start ?round
  case start =>
    have hb:Below w.heap.size w (((w.alloc (Obj.cells #[.slice ta f.terms.length tc,.slice na f.nons.length nc,.slice pa f.prods.length pc] 50)).alloc (Obj.cells #[Value.func (Fn.func g) #[] lb] 174)).alloc (Obj.cells #[Value.int IntKind.i64 0] 3)):=(((Below.refl _ _).alloc (Nat.le_refl _) _).alloc (by simp) _).alloc (by simp <;> omega) _
    refine ⟨undef,undef,undef,undef,undef,undef,[],s0,0,rfl,rfl,⟨List.nodup_nil,by simp⟩,HS.out _ _ _ h0 hb,?_,But.of_next hb,.inl rfl,fun i hi h=>(h.zero hi).elim⟩
    constructor <;> go_simp
  case round =>
    clear h0
    rintro m a' W ⟨t7,t8,t9,t10,t11,t12,Ds,s,c,rfl,rfl,hM,hs,hC,hB,hc,hcl⟩
    have HE:Hid (∀ W d,w.heap.size≤d→W.heap[d]?=some (.deferred (some []))→(∃ s,S s W∧(∀ j,j<f.prods.length→Cl j s)∧But D w W)→(∃ s,S s (W.putObj d (.deferred none))∧(∀ j,j<f.prods.length→Cl j s)∧But D w (W.putObj d (.deferred none)))):=fun W d hd hh ⟨s,h1,h2,h3⟩ =>
      ⟨s,HS.out _ _ _ h1 ((Below.refl _ W).grown (grownBy_putObj' W d _) (Nat.le_trans h3.size (Nat.le_refl _)) (fun k e=>by cases e; exact hd)),h2,h3.grown (grownBy_putObj' W d _) (fun r e=>by cases e; exact hd)⟩
    by_cases hN:f.prods.length=0
    · obtain ⟨c0,c1,c2,c3,c4,c5⟩:=hC
      have HF:Hid (∃ s,S s W∧(∀ j,j<f.prods.length→Cl j s)∧But D w W):=⟨s,hs,fun j hj=>by omega,hB⟩
      rw [hN] at c2 ⊢
      gi_wp2
      exact leaves_marks (fun W=>⟨_,results_none rfl _ _ _⟩) HE.out Ds W hM HF.out
    · obtain ⟨pb,off,q,rfl,hpb,hq⟩:=HQ.out (by omega)
      clear HQ
      have hCl:=hC.lt
      have hB':Below W.heap.size W (W.alloc (Obj.cells #[.slice ta f.terms.length tc,.slice na f.nons.length nc,.slice (some ⟨pb,off,none⟩) f.prods.length pc] 50)):=(Below.refl _ _).alloc (Nat.le_refl _) _
      have hcells:∀ j,j<f.prods.length→(W.alloc (Obj.cells #[.slice ta f.terms.length tc,.slice na f.nons.length nc,.slice (some ⟨pb,off,none⟩) f.prods.length pc] 50)).cell? ⟨pb,off+j * 3,none⟩=some (.int .i64 (q j).1.1)∧(W.alloc (Obj.cells #[.slice ta f.terms.length tc,.slice na f.nons.length nc,.slice (some ⟨pb,off,none⟩) f.prods.length pc] 50)).cell? ⟨pb,off+j * 3+1,none⟩=some (.slice (q j).2.1 (q j).2.2.1 (q j).2.2.2)∧(W.alloc (Obj.cells #[.slice ta f.terms.length tc,.slice na f.nons.length nc,.slice (some ⟨pb,off,none⟩) f.prods.length pc] 50)).cell? ⟨pb,off+j * 3+2,none⟩=some (.int .i64 (q j).1.2):=fun j hj=>by
        obtain ⟨i,hi,hij,k0,k1,k2,_⟩:=hq j
        have:=hij hj
        subst this
        have hd:=HDA.out (by omega) _ rfl
        have hz:=hB.size
        have e:∀ {o v},w.cell? ⟨pb,o,none⟩=some v→(W.alloc (Obj.cells #[.slice ta f.terms.length tc,.slice na f.nons.length nc,.slice (some ⟨pb,off,none⟩) f.prods.length pc] 50)).cell? ⟨pb,o,none⟩=some v:=fun {o v} h=>(hB'.cell (p:=⟨pb,o,none⟩) (by show pb<_; omega)).trans ((hB.cell (p:=⟨pb,o,none⟩) hpb hd).trans h)
        exact ⟨e k0,e k1,e k2⟩
      have hbox:(W.alloc (Obj.cells #[.slice ta f.terms.length tc,.slice na f.nons.length nc,.slice (some ⟨pb,off,none⟩) f.prods.length pc] 50)).cell? ⟨W.heap.size,2,none⟩=some (.slice (some ⟨pb,off,none⟩) f.prods.length pc):=by simp
      have hC0:=hC.kept (World.grownBy_alloc W (Obj.cells #[.slice ta f.terms.length tc,.slice na f.nons.length nc,.slice (some ⟨pb,off,none⟩) f.prods.length pc] 50) none) (fun _ e=>by cases e)
      have hM0:=hM.grown (World.grownBy_alloc W (Obj.cells #[.slice ta f.terms.length tc,.slice na f.nons.length nc,.slice (some ⟨pb,off,none⟩) f.prods.length pc] 50) none) (fun _ e=>by cases e)
      have hB0:=hB.grown (World.grownBy_alloc W (Obj.cells #[.slice ta f.terms.length tc,.slice na f.nons.length nc,.slice (some ⟨pb,off,none⟩) f.prods.length pc] 50) none) (fun _ e=>by cases e)
      have hs0:=HS.out _ _ _ hs (hB'.mono hB.size)
      have hDs:∀ d∈Ds,d<W.heap.size:=hM.lt
      have hsz:(W.alloc (Obj.cells #[.slice ta f.terms.length tc,.slice na f.nons.length nc,.slice (some ⟨pb,off,none⟩) f.prods.length pc] 50)).heap.size=W.heap.size+1:=by simp
      have hwz:=hB.size
      obtain ⟨c0,c1,c2,c3,c4,c5⟩:=hC
      have hpos:(0:Int)<f.prods.length:=by omega
      clear hM hs hB hB'
      gi_wp2_with fail
      refine ⟨trivial,?_⟩
      refine (callsIn_wide.2 (HPR.out _)).mono ?_
      rintro e w1 ⟨rfl,rfl⟩
      clear c0 c1 c2 c3 c4 c5
      generalize (W.alloc (Obj.cells #[.slice ta f.terms.length tc,.slice na f.nons.length nc,.slice (some ⟨pb,off,none⟩) f.prods.length pc] 50))=W0 at *
      gi_wp2
      have hcN:c<f.prods.length:=by omega
      refine wpIn_rangeFunc_ownH (α:=Nat) rfl h1 (gf:=137) (lb:=#[.pointer (some ⟨W.heap.size,0,none⟩)]) rfl trivial (enters_of Tryz.func137 (by kernel_rfl) rfl)
        (prods_stops (n - 1) (by omega) W.heap.size pb off f.prods.length pc (fun x=>(q x).1.1) (fun x=>(q x).2.1) (fun x=>(q x).2.2.1) (fun x=>(q x).2.2.2) (fun x=>(q x).1.2) hN4 W0 (by omega) (by omega) hbox hcells)
        KpC.trans (fun W l o o' _ h hc _=>KpC.putObj W l o o' h hc) (Below.refl _ _) (fun _=>rfl)
        (fun pre V=>(∃ s2 c2,S s2 V∧SC w.heap.size (.slice ta f.terms.length tc) (.slice na f.nons.length nc) (.slice (some ⟨pb,off,none⟩) f.prods.length pc) (.func (.func g) #[] lb) c2 V∧c2<f.prods.length∧(pre=List.range pre.length→(∀ i,i<f.prods.length→LastC f.prods.length pre.length c2 i→Cl i s2)∧(μ s2<μ s∨(s2=s∧c2=c+pre.length))))∧Mk w.heap.size Ds V∧But D w V)
        (fun cc pre V=>(cc=.exit 0∧∃ s2,S s2 V∧(pre=List.range pre.length→∀ i,i<f.prods.length→Cl i s2))∧Mk w.heap.size Ds V∧But D w V)
        (fun pre A B row hs hg hr=>?_) (fun cc pre A B row hs hg hr=>?_)
        ⟨⟨s,c,hs0,hC0,hcN,fun _=>⟨fun i hi h=>hcl i hi (by simpa using h),.inr ⟨rfl,by simp⟩⟩⟩,hM0,hB0⟩
        (fun x a' V=>a'={ tmps:=#[Value.agg #[.slice ta f.terms.length tc,.slice na f.nons.length nc,.slice (some ⟨pb,off,none⟩) f.prods.length pc],.func (.func g) #[] lb,.pointer (some ⟨w.heap.size,0,none⟩),.pointer (some ⟨w.heap.size+1,0,none⟩),.pointer (some ⟨w.heap.size+1+1,0,none⟩),.int .i64 (q x).1.1,.slice (q x).2.1 (q x).2.2.1 (q x).2.2.2,.pointer (some ⟨w.heap.size,2,none⟩),.slice (some ⟨pb,off,none⟩) f.prods.length pc,.int .i64 f.prods.length,.bool true,Value.agg #[.slice ta f.terms.length tc,.slice na f.nons.length nc,.slice (some ⟨pb,off,none⟩) f.prods.length pc],.func (.func 137) #[] #[.pointer (some ⟨W.heap.size,0,none⟩)],.int .i64 (q x).1.1,.slice (q x).2.1 (q x).2.2.1 (q x).2.2.2,undef,undef,undef,undef,undef,undef,undef,undef,undef,undef,undef],defers:=[] })
        (fun x a' _ X Y row hs hg hr=>hs)
        ?assign ?body ?done ?stop
      · obtain ⟨⟨s2,c2,k1,k2,k3,k4⟩,k5,k6⟩:=hs
        exact ⟨⟨s2,c2,HS.out _ _ _ k1 ((Below.refl _ A).grown hg k6.size (fun k e=>by have:=(hr k e).1; omega)),k2.kept hg (fun r e=>(hr r e).2),k3,k4⟩,k5.grown hg (fun r e d hd=>by have:=(hr r e).1; have:=hDs d hd; omega),k6.grown hg (fun r e=>by have:=(hr r e).1; omega)⟩
      · obtain ⟨⟨k0,s2,k1,k2⟩,k5,k6⟩:=hs
        exact ⟨⟨k0,s2,HS.out _ _ _ k1 ((Below.refl _ A).grown hg k6.size (fun k e=>by have:=(hr k e).1; omega)),k2⟩,k5.grown hg (fun r e d hd=>by have:=(hr r e).1; have:=hDs d hd; omega),k6.grown hg (fun r e=>by have:=(hr r e).1; omega)⟩
      case assign =>
        rintro l pre x V K hI hK
        gi_wp2
        exact hK _ _ (KeepsFrom.refl _ _) (KpC.refl _ _) hI rfl
      case body =>
        rintro l pre x a' V hl hr ⟨⟨s2,c2,k1,k2,k3,k4⟩,k5,k6⟩ rfl hlt
        obtain ⟨j,hj,hjx,e0,e1,e2,e3⟩:=hq x
        have hcall:=HGR.out j hj s2 V _ k1 (HSL.out pb off rfl j hj _ s2 V e1 k1 k6) k6.size ⟨pb,off,rfl,e1⟩
        have hDM:∀ k,D k→k<w.heap.size:=HD.out
        have hnd:=HDA.out (by omega) _ rfl
        have hX:Hid (pre++[x]=List.range (pre++[x]).length→pre=List.range pre.length∧x=pre.length):=fun h=>by
          rw [List.length_append,List.length_singleton,List.range_succ] at h
          have:=List.append_inj' h rfl
          exact ⟨this.1,by simpa using this.2⟩
        obtain ⟨c0,c1,c2',c3,c4,c5⟩:=id k2
        have HK2:Hid (∀ V2,But D V V2→SC w.heap.size (.slice ta f.terms.length tc) (.slice na f.nons.length nc) (.slice (some ⟨pb,off,none⟩) f.prods.length pc) (.func (.func g) #[] lb) c2 V2):=fun V2 hb=>k2.but hb hDM
        have hlV:=k2.lt
        clear e0 e1 e2 hcells hbox k2 hq
        gi_wp2_with fail
        refine ⟨trivial,fun _=>by omega,?_⟩
        refine (CallsIn.inRound l (callsIn_wide.2 hcall)).mono ?_
        rintro e V2 ⟨s3,b,rfl,g1,g2,g3,g4⟩
        have K3:=HK2.out _ g2
        have hM2:=k5.but g2 hDM
        have hB2:=k6.trans g2
        have hzz:=g2.size
        clear c0 c1 c2' c3 c4 c5
        obtain ⟨c0,c1,c2',c3,c4,c5⟩:=id K3
        have HST:Hid (∀ c':Nat,S s3 (V2.setCell ⟨w.heap.size+1+1,0,none⟩ (.int .i64 c'))∧KeepsFrom W0.heap.size V (V2.setCell ⟨w.heap.size+1+1,0,none⟩ (.int .i64 c'))∧KpC (fun k=>k=W.heap.size∨k=pb) V (V2.setCell ⟨w.heap.size+1+1,0,none⟩ (.int .i64 c'))∧Mk w.heap.size Ds (V2.setCell ⟨w.heap.size+1+1,0,none⟩ (.int .i64 c'))∧But D w (V2.setCell ⟨w.heap.size+1+1,0,none⟩ (.int .i64 c'))∧SC w.heap.size (.slice ta f.terms.length tc) (.slice na f.nons.length nc) (.slice (some ⟨pb,off,none⟩) f.prods.length pc) (.func (.func g) #[] lb) c' (V2.setCell ⟨w.heap.size+1+1,0,none⟩ (.int .i64 c'))):=fun c'=>by
          refine ⟨HS.out _ _ _ g1 ((Below.refl _ V2).setCell (p:=⟨w.heap.size+1+1,0,none⟩) (by show w.heap.size≤w.heap.size+1+1; omega) _),(g2.keeps (fun k hk=>by have:=hDM k hk; omega)).trans ((KeepsOthers.setCell _ _ _).from _),?_,⟨hM2.1,fun d hd=>⟨(hM2.2 d hd).1,(KeepsOthers.setCell V2 ⟨w.heap.size+1+1,0,none⟩ _).same d _ (hM2.2 d hd).2 rfl⟩⟩,hB2.setCell _ _ (.inl (by show w.heap.size≤w.heap.size+1+1; omega)),K3.set c'⟩
          refine (g2.kpC (E:=fun k=>k=W.heap.size∨k=pb) (fun k hk hd=>?_)).trans (fun ad v hk hv=>?_)
          · rcases hk with rfl | rfl
            · have:=hDM _ hd; omega
            · exact hnd hd
          · exact (World.cell?_of_block (w:=V2) (Below.heap_setCell V2 ⟨w.heap.size+1+1,0,none⟩ _ _ (by rcases hk with h | h <;> rw [h] <;> simp only [] <;> omega))).trans hv
        clear hM2 hB2 g1 HK2 hcall
        cases b with
        | true =>
          obtain ⟨z1,z2,z3,z4,z5,z6⟩:=HST.out 0
          have HR:Hid (μ s3<μ s2):=g3 rfl
          have HK4:Hid (pre=List.range pre.length→(∀ i,i<f.prods.length→LastC f.prods.length pre.length c2 i→Cl i s2)∧(μ s2<μ s∨(s2=s∧c2=c+pre.length))):=k4
          clear k4 HST K3
          gi_wp2
          refine ⟨z2,z3,⟨s3,0,z1,z6,by omega,fun hx=>⟨fun i hi h=>(h.zero hi).elim,.inl ?_⟩⟩,z4,z5⟩
          have h4:=(HK4.out (hX.out hx).1).2
          have h5:=HR.out
          rcases h4 with h4 | h4
          · omega
          · rw [h4.1] at h5; exact h5
        | false =>
          obtain ⟨rfl,hclj⟩:=g4 rfl
          obtain ⟨z1,z2,z3,z4,z5,z6⟩:=HST.out (c2+1)
          have HK4:Hid (pre++[x]=List.range (pre++[x]).length→(∀ i,i<f.prods.length→LastC f.prods.length (pre++[x]).length (c2+1) i→Cl i s3)∧(μ s3<μ s∨(s3=s∧c2+1=c+(pre++[x]).length))):=fun hx=>by
            obtain ⟨hx1,hx2⟩:=hX.out hx
            obtain ⟨q1,q2⟩:=k4 hx1
            have hjx':j=x:=hjx (by omega)
            rw [List.length_append,List.length_singleton]
            refine ⟨fun i hi h=>?_,?_⟩
            · rcases h.step hi with h' | h'
              · have:i=j:=by omega
                subst this
                exact hclj
              · exact q1 i hi h'
            · rcases q2 with q2 | ⟨q2,q3⟩
              · exact .inl q2
              · exact .inr ⟨q2,by omega⟩
          have HPL:Hid ((pre++[x]).length≤f.prods.length):=by show _≤_; simp; omega
          obtain ⟨z,hz⟩:∃ z:Int,wrap64 ((c2:Int)+1)=z:=⟨_,rfl⟩
          have hze:z=((c2+1:Nat):Int):=by rw [← hz]; exact wrap_succ k3 hN4
          have hzn:(z == f.prods.length)=decide (c2+1=f.prods.length):=by rw [hze]; exact succ_dec
          have HZE:Hid (((c2+1:Nat):Int)=z):=hze.symm
          rw [HZE.out] at z1 z2 z3 z4 z5 z6
          have HK3:Hid (c2<f.prods.length):=k3
          have HZ6:Hid (SC w.heap.size (.slice ta f.terms.length tc) (.slice na f.nons.length nc) (.slice (some ⟨pb,off,none⟩) f.prods.length pc) (.func (.func g) #[] lb) (c2+1) (V2.setCell ⟨w.heap.size+1+1,0,none⟩ (.int .i64 z))):=by
            have:=(HST.out (c2+1)).2.2.2.2.2
            rw [HZE.out] at this
            exact this
          clear k4 HST K3 g3 g4 hclj hze z6 k3
          by_cases hc2:c2+1=f.prods.length
          · have HZ:Hid (∀ j,j≤f.prods.length→∀ i,i<f.prods.length→LastC f.prods.length j (c2+1) i):=fun j hj i hi=>LastC.all (by omega) j hj hi
            have hce:(z == (f.prods.length:Int))=true:=by rw [hzn]; exact decide_eq_true hc2
            clear hc2 hzn
            gi_wp2
            exact ⟨z2,⟨rfl,s3,z1,fun hx i hi=>(HK4.out hx).1 i hi (HZ.out _ HPL.out i hi)⟩,z4,z5⟩
          · have hce:(z == (f.prods.length:Int))=false:=by rw [hzn]; exact decide_eq_false hc2
            have HZ:Hid (c2+1<f.prods.length):=by have:=HK3.out; show _<_; omega
            clear hc2 hzn
            gi_wp2
            exact ⟨z2,z3,⟨s3,c2+1,z1,HZ6.out,HZ.out,HK4.out⟩,z4,z5⟩
      case done =>
        rintro d xs V hd rfl ⟨⟨s2,c2,k1,k2,k3,k4⟩,k5,k6⟩ hK
        obtain ⟨q1,q2⟩:=k4 (by simp)
        rw [List.length_range] at q1 q2
        have hlt:μ s2<μ s:=by
          rcases q2 with h | ⟨h,h'⟩
          · exact h
          · omega
        have hMd:Mk w.heap.size (d :: Ds) V:=⟨List.nodup_cons.2 ⟨fun h=>by have:=hDs d h; omega,k5.1⟩,fun e he=>by
          rcases List.mem_cons.1 he with rfl | he
          · exact ⟨by omega,hK⟩
          · exact k5.2 e he⟩
        have HQ1:Hid (∀ i,i<f.prods.length→LastC f.prods.length 0 c2 i→Cl i s2):=fun i hi h=>q1 i hi (h.wrap hi)
        clear q1 q2 k4 k5 hq HGR HSL HPR hcells
        gi_wp2
        exact ⟨μ s2,hlt,_,_,_,_,_,_,d :: Ds,s2,c2,rfl,rfl,hMd,k1,k2,k6,.inr k3,HQ1.out⟩
      case stop =>
        rintro d cc pre V hd hpre ⟨⟨rfl,s2,k1,k2⟩,k5,k6⟩ hK
        have hpr:pre=List.range pre.length:=by
          have h:=List.prefix_iff_eq_take.1 hpre
          rw [List.take_range] at h
          have hl:=hpre.length_le
          rw [List.length_range] at hl
          rw [Nat.min_eq_left hl] at h
          exact h
        have hMd:Mk w.heap.size (d :: Ds) V:=⟨List.nodup_cons.2 ⟨fun h=>by have:=hDs d h; omega,k5.1⟩,fun e he=>by
          rcases List.mem_cons.1 he with rfl | he
          · exact ⟨by omega,hK⟩
          · exact k5.2 e he⟩
        have HF:Hid (∃ s,S s V∧(∀ j,j<f.prods.length→Cl j s)∧But D w V):=⟨s2,k1,k2 hpr,k6⟩
        clear k5 k2 hq HGR HSL HPR hcells
        gi_wp2
        exact leaves_marks (fun W=>⟨_,results_none rfl _ _ _⟩) HE.out (d :: Ds) V hMd HF.out
theorem settle_any {σ:Type} (f:Fl) (a:FlA) (g:Nat) (lb:Array Value) (eg:∀ args w,(callFunc g args).run Tryz.prog w=.ok (.enter g args) w) (S:σ→World→Prop) (D:Nat→Prop) (μ:σ→Nat) (Cl:Nat→σ→Prop)
    (w:World) (hp:FitP f) (hfl:∀ s W,S s W→FlAt f a W) (hS:∀ s W W',S s W→Below w.heap.size W W'→S s W') (hD:∀ k,D k→k<w.heap.size) (hDa:0<f.prods.length→∀ ad,a.pa=some ad→¬ D ad.block)
    (hg:∀ (j:Nat) (hj:j<f.prods.length) (s:σ) (W:World) (v:Value),S s W→SlT f.prods[j].right v W→w.heap.size≤W.heap.size→(∃ pb off,a.pa=some ⟨pb,off,none⟩∧w.cell? ⟨pb,off+j * 3+1,none⟩=some v)→Calls Tryz.prog g (#[.int .i64 f.prods[j].left,v]++lb) W fun e W'=>∃ s' b,e=.returned (.bool b)∧S s' W'∧But D W W'∧(b=true→μ s'<μ s)∧(b=false→s'=s∧Cl j s))
    (s0:σ) (h0:S s0 w) :
    Calls Tryz.prog 92 #[a.val f,.func (.func g) #[] lb] w fun e W'=>(∃ v,e=.returned v)∧∃ s,S s W'∧(∀ j,j<f.prods.length→Cl j s)∧But D w W' :=
  (callsIn_wide (n:=6)).1 (settle_in 6 (by omega) f a g lb eg S D μ Cl w hp hfl hS hD hDa hg s0 h0)
end Go.Proofs.YtiamjafecbpfpaaGreatDoor
namespace Go.Proofs.YtiamjafecbpfpaaGreatDoor
open Go.RowKit Go.Maps
theorem laidOutM:laidOutB Tryz.prog=true:=by kernel_rfl
theorem lawLr:Keyed Tryz.prog 110:=Keyed.of_law (deep_law_laid laidOutM (m:=2) (by omega) (of_decide_eq_true (by kernel_rfl)) (by kernel_rfl) (by kernel_rfl))
theorem lawCore:Keyed Tryz.prog 209:=Keyed.of_law (deep_law_laid laidOutM (m:=2) (by omega) (of_decide_eq_true (by kernel_rfl)) (by kernel_rfl) (by kernel_rfl))
theorem lawStart:Keyed Tryz.prog 190:=Keyed.of_law (deep_law_laid laidOutM (m:=2) (by omega) (of_decide_eq_true (by kernel_rfl)) (by kernel_rfl) (by kernel_rfl))
theorem lawStr:Keyed Tryz.prog 9:=string_keyed Tryz.underlying9
theorem wf64 {x:Int} (h:i64B x):(Lit.int .i64 x).wf=true:=WalkArith.wf_i64 (by unfold i64B at h; omega)
def val2 (x:Int × Int):Value:=.agg #[.int .i64 x.1,.int .i64 x.2]
def ok2 (x:Int × Int):Prop:=i64B x.1∧i64B x.2
theorem sizeT:∃ m,Tryz.prog.types.size=m+1:=⟨Tryz.prog.types.size - 1,by have:0<Tryz.prog.types.size:=of_decide_eq_true (by kernel_rfl); omega⟩
theorem keyLr {x:Ir} (h:okR x):∃ kl,keyOf Tryz.prog 110 (valR x)=some kl:=by
  obtain ⟨m,hm⟩:=sizeT
  have h0:=wf64 h.1
  have h1:=wf64 h.2.1
  have h2:=wf64 h.2.2
  have e1:Tryz.prog.keyType 110=true:=by kernel_rfl
  have e2:Tryz.prog.cellsOf 110=3:=by kernel_rfl
  have e3:Tryz.prog.cellsOf 3=1:=by kernel_rfl
  unfold keyOf
  simp only [Tryz.underlying110]
  rw [if_pos (by simp [e1,Value.formed,Tryz.underlying110,e2,valR]),hm]
  unfold Program.keyLits
  simp [Tryz.underlying110,valR,Value.cells,e2,e3,Program.keyLits,Tryz.underlying3,h0,h1,h2]
theorem keyCore {x:Int × Int} (h:ok2 x):∃ kl,keyOf Tryz.prog 209 (val2 x)=some kl:=by
  obtain ⟨m,hm⟩:=sizeT
  have h0:=wf64 h.1
  have h1:=wf64 h.2
  have e1:Tryz.prog.keyType 209=true:=by kernel_rfl
  have e2:Tryz.prog.cellsOf 209=2:=by kernel_rfl
  have e3:Tryz.prog.cellsOf 3=1:=by kernel_rfl
  unfold keyOf
  simp only [Tryz.underlying209]
  rw [if_pos (by simp [e1,Value.formed,Tryz.underlying209,e2,val2]),hm]
  unfold Program.keyLits
  simp [Tryz.underlying209,val2,Value.cells,e2,e3,Program.keyLits,Tryz.underlying3,h0,h1]
theorem keyStart {x:Int × Int} (h:ok2 x):∃ kl,keyOf Tryz.prog 190 (val2 x)=some kl:=by
  obtain ⟨m,hm⟩:=sizeT
  have h0:=wf64 h.1
  have h1:=wf64 h.2
  have e1:Tryz.prog.keyType 190=true:=by kernel_rfl
  have e2:Tryz.prog.cellsOf 190=2:=by kernel_rfl
  have e3:Tryz.prog.cellsOf 3=1:=by kernel_rfl
  unfold keyOf
  simp only [Tryz.underlying190]
  rw [if_pos (by simp [e1,Value.formed,Tryz.underlying190,e2,val2]),hm]
  unfold Program.keyLits
  simp [Tryz.underlying190,val2,Value.cells,e2,e3,Program.keyLits,Tryz.underlying3,h0,h1]
theorem valR_inj {x y:Ir} (h:valR x=valR y):x=y:=by
  unfold valR at h
  simp at h
  exact ir_ext h.1 h.2.1 h.2.2
theorem val2_inj {x y:Int × Int} (h:val2 x=val2 y):x=y:=by
  unfold val2 at h
  simp at h
  exact Prod.ext h.1 h.2
def MapSet {α:Type} (k:TypeId) (val:α→Value) (b:Nat) (L:List α) (W:World):Prop :=
  ∃ D:DataW Unit,W.ownsMap Tryz.prog k unitElem b L.length D∧Maps.size D=L.length∧∀ kl,Maps.has D kl=true↔∃ x∈L,keyOf Tryz.prog k (val x)=some kl
theorem MapSet.made {α:Type} (k:TypeId) (val:α→Value) (W:World):MapSet k val W.heap.size [] (W.alloc (.map #[] 0)) :=
  ⟨.map [],World.ownsMap_made W _ _ _,rfl,fun kl=>by simp [Maps.has]⟩
theorem MapSet.lt {α:Type} {k:TypeId} {val:α→Value} {b:Nat} {L:List α} {W:World} (h:MapSet k val b L W):b<W.heap.size:=by
  obtain ⟨D,h,_⟩:=h; exact h.lt
theorem MapSet.kept {α:Type} {k:TypeId} {val:α→Value} {b:Nat} {L:List α} {W W':World} (h:MapSet k val b L W) (hb:W'.heap[b]?=W.heap[b]?):MapSet k val b L W':=by
  obtain ⟨D,⟨es,clock,h1,h2⟩,h3⟩:=h
  exact ⟨D,⟨es,clock,hb.trans h1,h2⟩,h3⟩
theorem MapSet.but {α:Type} {k:TypeId} {val:α→Value} {b:Nat} {L:List α} {W W':World} {D:Nat→Prop} (h:MapSet k val b L W) (hb:But D W W') (hd:¬ D b):MapSet k val b L W':=h.kept (hb.block b h.lt hd)
theorem MapSet.notCells {α:Type} {k:TypeId} {val:α→Value} {b:Nat} {L:List α} {W:World} (h:MapSet k val b L W):∀ off v,W.cell? ⟨b,off,none⟩≠some v:=by
  obtain ⟨D,⟨es,clock,h1,_⟩,_⟩:=h
  intro off v hv
  simp [World.cell?,h1] at hv
theorem MapSet.put {α:Type} [BEq α] [LawfulBEq α] {k:TypeId} {val:α→Value} {b:Nat} {L:List α} {D:DataW Unit} {W':World} (K:Keyed Tryz.prog k) {x:α} (hv:∀ y∈L,val x=val y→x=y) (ht:Tidy D) (hs:Maps.size D=L.length)
    (hh:∀ kl,Maps.has D kl=true↔∃ x∈L,keyOf Tryz.prog k (val x)=some kl) {kl:Lit} (hk:keyOf Tryz.prog k (val x)=some kl) (ho:W'.ownsMap Tryz.prog k unitElem b (L.length+1) (D.put kl (.agg []))) :
    Maps.has D kl=decide (x∈L)∧MapSet k val b (if x∈L then L else L++[x]) W':=by
  have h1:Maps.has D kl=decide (x∈L):=by
    rw [Bool.eq_iff_iff,decide_eq_true_eq,hh]
    constructor
    · rintro ⟨y,hy,hyk⟩
      rw [hv y hy (K.inj hk hyk)]; exact hy
    · intro hx; exact ⟨x,hx,hk⟩
  have h2:=size_put (k:=kl) ht (.agg [])
  rw [h1,hs] at h2
  have hlow:W'.ownsMap Tryz.prog k unitElem b (Maps.size (D.put kl (.agg []))) (D.put kl (.agg [])):=by
    obtain ⟨es,clock,k1,k2,k3,k4⟩:=ho
    refine ⟨es,clock,k1,k2,?_,k4⟩
    rw [k4]
    simp [Maps.size,length_sorted]
  have hkey:=K.key hk
  refine ⟨h1,D.put kl (.agg []),?_,?_,fun kl'=>?_⟩
  · rw [h2] at hlow
    split
    · rename_i hx; rw [if_pos (by simpa using hx)] at hlow; exact hlow
    · rename_i hx; rw [if_neg (by simpa using hx)] at hlow; simpa using hlow
  · rw [h2]; split
    · rename_i hx; rw [if_pos (by simpa using hx)]
    · rename_i hx; rw [if_neg (by simpa using hx)]; simp
  · by_cases e:kl'=kl
    · subst e
      rw [has_put_same ht.isMap hkey]
      simp only [true_iff]
      refine ⟨x,?_,hk⟩
      split
      · assumption
      · simp
    · rw [has_put_other e,hh]
      split
      · exact Iff.rfl
      · constructor
        · rintro ⟨y,hy,hyk⟩; exact ⟨y,by simp [hy],hyk⟩
        · rintro ⟨y,hy,hyk⟩
          rcases List.mem_append.1 hy with hy | hy
          · exact ⟨y,hy,hyk⟩
          · simp at hy; subst hy
            rw [hk] at hyk; cases hyk; exact absurd rfl e
theorem new_gt {m n:Nat} {b:Bool} (h:m=if b=true then n else n+1):decide ((m:Int) > (n:Int))=!b:=by
  cases b <;> simp at h <;> subst h <;> simp <;> omega
def NewP {α:Type} [BEq α] [LawfulBEq α] (k:TypeId) (val:α→Value) (b:Nat) (L:List α) (x:α) (w:World) (e:Ending) (w':World):Prop :=
  e=.returned (.bool (!decide (x∈L)))∧MapSet k val b (if x∈L then L else L++[x]) w'∧But (fun k=>k=b) w w'
theorem newP_of {α:Type} [BEq α] [LawfulBEq α] {k:TypeId} {val:α→Value} {b:Nat} {L:List α} {x:α} {w W1 w1:World} {e:Ending} {D D2:DataW Unit} {kl:Lit} (B1:But (fun k=>k=b) w W1) (hg1:W1.grownBy w1 (some b)) (hP:Maps.has D kl=decide (x∈L)∧MapSet k val b (if x∈L then L else L++[x]) w1)
    (hZ:Maps.size D2=if Maps.has D kl=true then Maps.size D else Maps.size D+1) (he:e=.returned (.bool (decide ((Maps.size D2:Int) > (Maps.size D:Int))))):NewP k val b L x w e w1:=by
  refine ⟨?_,hP.2,⟨hg1.os.trans B1.os,hg1.tape.trans B1.tape,hg1.output.trans B1.output,Nat.le_trans B1.size hg1.size,fun k hk' hd=>(hg1.block k (Nat.lt_of_lt_of_le hk' B1.size) (fun e=>hd (by cases e; rfl))).trans (B1.block k hk' hd)⟩⟩
  have:=new_gt hZ
  rw [hP.1] at this
  rw [he,this]
def byte2 (x:Int):List UInt8:=[UInt8.ofNat (x.toNat / 256),UInt8.ofNat x.toNat]
def keyI (x:Ir):List UInt8:=byte2 (x.1+1)++[UInt8.ofNat x.2.1.toNat]++byte2 x.2.2
def keyK (K:List Ir):ByteArray:=⟨(K.flatMap keyI).toArray⟩
def valK (K:List Ir):Value:=.string (keyK K)
set_option maxRecDepth 100000 in
set_option maxHeartbeats 1000000 in
theorem isNewR_any (b:Nat) (L:List Ir) (x:Ir) (w:World) (hM:MapSet 110 valR b L w) (h:okR x) (hl:L.length<100000000) :
    Calls Tryz.prog 101 #[.map (some b),valR x] w fun e w'=>NewP 110 valR b L x w e w':=by
  obtain ⟨kl,hk⟩:=keyLr h
  obtain ⟨D,ho,hs,hh⟩:=hM
  have ht:=ho.tidy lawLr
  have HP:Hid (∀ W',W'.ownsMap Tryz.prog 110 unitElem b (L.length+1) (D.put kl (.agg []))→Maps.has D kl=decide (x∈L)∧MapSet 110 valR b (if x∈L then L else L++[x]) W'):=fun W' h'=>MapSet.put lawLr (fun _ _=>valR_inj) ht hs hh hk h'
  have HSZ:Hid (Maps.size (D.put kl (.agg []))=if Maps.has D kl=true then Maps.size D else Maps.size D+1):=size_put (k:=kl) ht (.agg [])
  clear hs hh ht
  have ho1:=ho.alloc (Obj.cells #[.int .i64 x.1,.int .i64 x.2.1,.int .i64 x.2.2] 110)
  have B1:But (fun k=>k=b) w (w.alloc (Obj.cells #[.int .i64 x.1,.int .i64 x.2.1,.int .i64 x.2.2] 110)):=But.of_next ((Below.refl _ _).alloc (Nat.le_refl _) _)
  clear ho
  have hk2:keyOf Tryz.prog 110 (.agg #[.int .i64 x.1,.int .i64 x.2.1,.int .i64 x.2.2])=some kl:=hk
  show Calls Tryz.prog 101 #[.map (some b),.agg #[.int .i64 x.1,.int .i64 x.2.1,.int .i64 x.2.2]] w _
  clear hk h
  go_enter Tryz.func101,Tryz.ntmps101
  go_wp2_with (first
    | (at_len; first
        | refine wpList_len_own _ rfl _ 181 rfl 110 162 Tryz.underlying181 _ b _ _ rfl ho2 ?_
        | refine wpList_len_own _ rfl _ 181 rfl 110 162 Tryz.underlying181 _ b _ _ rfl ho1 ?_)
    | (at_mapUpdate; refine wpList_mapUpdate_own _ rfl _ _ _ 181 rfl 110 162 lawLr Tryz.underlying181 _ b L.length _ rfl ho1 (by unfold maxLen; omega) _ _ _ rfl rfl hk2 _ [] unitElem_mk ?_; intro w1 ho2 hg1))
  go_ret
  exact newP_of B1 hg1 (HP.out _ ho2) HSZ.out (ret_bool (by first | rfl | (simp; done)))
set_option maxRecDepth 100000 in
set_option maxHeartbeats 1000000 in
theorem isNewC_any (b:Nat) (L:List (Int × Int)) (x:(Int × Int)) (w:World) (hM:MapSet 209 val2 b L w) (h:ok2 x) (hl:L.length<100000000) :
    Calls Tryz.prog 120 #[.map (some b),val2 x] w fun e w'=>NewP 209 val2 b L x w e w':=by
  obtain ⟨kl,hk⟩:=keyCore h
  obtain ⟨D,ho,hs,hh⟩:=hM
  have ht:=ho.tidy lawCore
  have HP:Hid (∀ W',W'.ownsMap Tryz.prog 209 unitElem b (L.length+1) (D.put kl (.agg []))→Maps.has D kl=decide (x∈L)∧MapSet 209 val2 b (if x∈L then L else L++[x]) W'):=fun W' h'=>MapSet.put lawCore (fun _ _=>val2_inj) ht hs hh hk h'
  have HSZ:Hid (Maps.size (D.put kl (.agg []))=if Maps.has D kl=true then Maps.size D else Maps.size D+1):=size_put (k:=kl) ht (.agg [])
  clear hs hh ht
  have ho1:=ho.alloc (Obj.cells #[.int .i64 x.1,.int .i64 x.2] 209)
  have B1:But (fun k=>k=b) w (w.alloc (Obj.cells #[.int .i64 x.1,.int .i64 x.2] 209)):=But.of_next ((Below.refl _ _).alloc (Nat.le_refl _) _)
  clear ho
  have hk2:keyOf Tryz.prog 209 (.agg #[.int .i64 x.1,.int .i64 x.2])=some kl:=hk
  show Calls Tryz.prog 120 #[.map (some b),.agg #[.int .i64 x.1,.int .i64 x.2]] w _
  clear hk h
  go_enter Tryz.func120,Tryz.ntmps120
  go_wp2_with (first
    | (at_len; first
        | refine wpList_len_own _ rfl _ 182 rfl 209 162 Tryz.underlying182 _ b _ _ rfl ho2 ?_
        | refine wpList_len_own _ rfl _ 182 rfl 209 162 Tryz.underlying182 _ b _ _ rfl ho1 ?_)
    | (at_mapUpdate; refine wpList_mapUpdate_own _ rfl _ _ _ 182 rfl 209 162 lawCore Tryz.underlying182 _ b L.length _ rfl ho1 (by unfold maxLen; omega) _ _ _ rfl rfl hk2 _ [] unitElem_mk ?_; intro w1 ho2 hg1))
  go_ret
  exact newP_of B1 hg1 (HP.out _ ho2) HSZ.out (ret_bool (by first | rfl | (simp; done)))
set_option maxRecDepth 100000 in
set_option maxHeartbeats 1000000 in
theorem isNewS_any (b:Nat) (L:List (Int × Int)) (x:(Int × Int)) (w:World) (hM:MapSet 190 val2 b L w) (h:ok2 x) (hl:L.length<100000000) :
    Calls Tryz.prog 122 #[.map (some b),val2 x] w fun e w'=>NewP 190 val2 b L x w e w':=by
  obtain ⟨kl,hk⟩:=keyStart h
  obtain ⟨D,ho,hs,hh⟩:=hM
  have ht:=ho.tidy lawStart
  have HP:Hid (∀ W',W'.ownsMap Tryz.prog 190 unitElem b (L.length+1) (D.put kl (.agg []))→Maps.has D kl=decide (x∈L)∧MapSet 190 val2 b (if x∈L then L else L++[x]) W'):=fun W' h'=>MapSet.put lawStart (fun _ _=>val2_inj) ht hs hh hk h'
  have HSZ:Hid (Maps.size (D.put kl (.agg []))=if Maps.has D kl=true then Maps.size D else Maps.size D+1):=size_put (k:=kl) ht (.agg [])
  clear hs hh ht
  have ho1:=ho.alloc (Obj.cells #[.int .i64 x.1,.int .i64 x.2] 190)
  have B1:But (fun k=>k=b) w (w.alloc (Obj.cells #[.int .i64 x.1,.int .i64 x.2] 190)):=But.of_next ((Below.refl _ _).alloc (Nat.le_refl _) _)
  clear ho
  have hk2:keyOf Tryz.prog 190 (.agg #[.int .i64 x.1,.int .i64 x.2])=some kl:=hk
  show Calls Tryz.prog 122 #[.map (some b),.agg #[.int .i64 x.1,.int .i64 x.2]] w _
  clear hk h
  go_enter Tryz.func122,Tryz.ntmps122
  go_wp2_with (first
    | (at_len; first
        | refine wpList_len_own _ rfl _ 183 rfl 190 162 Tryz.underlying183 _ b _ _ rfl ho2 ?_
        | refine wpList_len_own _ rfl _ 183 rfl 190 162 Tryz.underlying183 _ b _ _ rfl ho1 ?_)
    | (at_mapUpdate; refine wpList_mapUpdate_own _ rfl _ _ _ 183 rfl 190 162 lawStart Tryz.underlying183 _ b L.length _ rfl ho1 (by unfold maxLen; omega) _ _ _ rfl rfl hk2 _ [] unitElem_mk ?_; intro w1 ho2 hg1))
  go_ret
  exact newP_of B1 hg1 (HP.out _ ho2) HSZ.out (ret_bool (by first | rfl | (simp; done)))
set_option maxRecDepth 100000 in
set_option maxHeartbeats 1000000 in
theorem isNewT_any (b:Nat) (L:List (List Ir)) (x:(List Ir)) (w:World) (hM:MapSet 9 valK b L w) (h:(keyK x).size≤maxLen∧∀ y∈L,keyK x=keyK y→x=y) (hl:L.length<100000000) :
    Calls Tryz.prog 61 #[.map (some b),valK x] w fun e w'=>NewP 9 valK b L x w e w':=by
  obtain ⟨kl,hk⟩:=(⟨_,WideMaps.keyOf_string_mk Tryz.underlying9 h.1⟩:∃ kl,keyOf Tryz.prog 9 (valK x)=some kl)
  obtain ⟨D,ho,hs,hh⟩:=hM
  have ht:=ho.tidy lawStr
  have HP:Hid (∀ W',W'.ownsMap Tryz.prog 9 unitElem b (L.length+1) (D.put kl (.agg []))→Maps.has D kl=decide (x∈L)∧MapSet 9 valK b (if x∈L then L else L++[x]) W'):=fun W' h'=>MapSet.put lawStr (fun y hy e=>h.2 y hy (Value.string.inj e)) ht hs hh hk h'
  have HSZ:Hid (Maps.size (D.put kl (.agg []))=if Maps.has D kl=true then Maps.size D else Maps.size D+1):=size_put (k:=kl) ht (.agg [])
  clear hs hh ht
  have ho1:=ho
  have B1:But (fun k=>k=b) w w:=But.refl _ _
  clear ho
  have hk2:keyOf Tryz.prog 9 (.string (keyK x))=some kl:=hk
  show Calls Tryz.prog 61 #[.map (some b),.string (keyK x)] w _
  clear hk h
  go_enter Tryz.func61,Tryz.ntmps61
  go_wp2_with (first
    | (at_len; first
        | refine wpList_len_own _ rfl _ 135 rfl 9 162 Tryz.underlying135 _ b _ _ rfl ho2 ?_
        | refine wpList_len_own _ rfl _ 135 rfl 9 162 Tryz.underlying135 _ b _ _ rfl ho1 ?_)
    | (at_mapUpdate; refine wpList_mapUpdate_own _ rfl _ _ _ 135 rfl 9 162 lawStr Tryz.underlying135 _ b L.length _ rfl ho1 (by unfold maxLen; omega) _ _ _ rfl rfl hk2 _ [] unitElem_mk ?_; intro w1 ho2 hg1))
  go_ret
  exact newP_of B1 hg1 (HP.out _ ho2) HSZ.out (ret_bool (by first | rfl | (simp; done)))
end Go.Proofs.YtiamjafecbpfpaaGreatDoor
namespace Go.Proofs.YtiamjafecbpfpaaGreatDoor
open Go.RowKit
set_option maxHeartbeats 400000 in
theorem highByte_any (n:Nat) (h:n<65536) (w:World):Calls Tryz.prog 82 #[.int .i64 n] w fun e w'=>e=.returned (.int .u8 ((n / 256:Nat):Int))∧w'=w:=by
  go_enter Tryz.func82,Tryz.ntmps82
  go_wp2_with fail
  go_ret
  exact ⟨by simp,rfl⟩
def encU8 (u:UInt8):Value:=.int .u8 (u.toNat:Int)
def OwnB (B:Nat) (l:List UInt8) (v:Value) (W:World):Prop:=W.ownsRow B 5 1 v l.length (l.map encU8)
def keyL (K:List Ir):List UInt8:=K.flatMap keyI
theorem keyL_take {K:List Ir} {j:Nat} (h:j<K.length):keyL (K.take (j+1))=keyL (K.take j)++keyI K[j]:=by
  unfold keyL
  rw [List.take_succ_eq_append_getElem h,List.flatMap_append]
  simp
theorem keyI_len (x:Ir):(keyI x).length=5:=rfl
theorem keyL_len:∀ (K:List Ir),(keyL K).length=5 * K.length
  | []=>rfl
  | x :: K=>by
    have:=keyL_len K
    unfold keyL at this ⊢
    rw [List.flatMap_cons,List.length_append,this,keyI_len,List.length_cons]
    omega
theorem new5 (W:World) (a0 a1 a2 a3 a4:Value) (ty:TypeId):∀ (i:Nat) (u:Value),[a0,a1,a2,a3,a4][i]?=some u→(W.alloc (Obj.cells #[a0,a1,a2,a3,a4] ty)).cell? ((⟨W.heap.size,0,none⟩:Addr).add i)=some u:=by
  intro i u hi
  rw [add_plain,Nat.zero_add]
  rcases i with _ | _ | _ | _ | _ | i <;> simp at hi <;> subst hi <;> simp
theorem infoU8:(Tryz.prog.info? 5).map (fun i=>(i.zero,i.size,i.bytes))=some (some (.int .u8 0),1,1):=by kernel_rfl
def KeyFit (x:Ir):Prop:=0≤x.1+1∧x.1+1≤400∧0≤x.2.1∧x.2.1≤64∧0≤x.2.2∧x.2.2≤600
theorem u8_of {q:Nat}:IntKind.u8.wrap (q:Int)=((UInt8.ofNat q).toNat:Int):=by
  simp [IntKind.wrap,IntKind.bits,IntKind.signed]
set_option maxRecDepth 100000 in
set_option maxHeartbeats 2000000 in
theorem keyOf_any (K:List Ir) (v:Value) (w:World) (hK:SlL K v w) (hf:∀ x∈K,KeyFit x) (hne:K≠[]) (hl:K.length≤20000000) :
    Calls Tryz.prog 62 #[v] w fun e w'=>e=.returned (valK K)∧Below w.heap.size w w':=by
  obtain ⟨i0,hi0,hz0,hz1,hz2⟩:=info_parts infoU8
  obtain ⟨la,lc,rfl,hI,_,_⟩:=hK
  have HI:Hid (∀ W,Below w.heap.size w W→IrsAt K la W):=fun W hb=>hI.next hb
  have HF:Hid (∀ x∈K,KeyFit x):=hf
  have hpos:0<K.length:=List.length_pos_iff.2 hne
  clear hI hf hne
  go_enter Tryz.func62,Tryz.ntmps62
  go_wp2_with fail
  go_loopw [3,8] (fun kv i wr=>∃ (j:Nat),i=.int .i64 j∧j≤K.length∧OwnB w.heap.size (keyL (K.take j)) kv wr∧Below w.heap.size w wr) (fun _ i _=>K.length - (intOf i).toNat)
  case atStart=>exact ⟨0,rfl,Nat.zero_le _,World.ownsRow_nil _ _ _ _,Below.refl _ _⟩
  case round =>
  obtain ⟨j,rfl,hj,hown,B1⟩:=hrel
  have hsz:=B1.size
  obtain ⟨ka,kc,rfl⟩:=slice_of_ownK hown
  have hkl:(keyL (K.take j)).length≤100000000:=by rw [keyL_len,List.length_take]; omega
  have htk:(K.take j).length≤20000000:=by rw [List.length_take]; omega
  by_cases hlt:j<K.length
  · obtain ⟨b,off,rfl,hbl,c0,c1,c2,hok⟩:=(HI.out _ B1).at (Below.refl _ _) hlt
    have hfx:=HF.out K[j] (by simp)
    have hT:=keyL_take hlt
    generalize K[j]=x at *
    obtain ⟨x0,x1,x2⟩:=x
    unfold KeyFit at hfx
    simp only at c0 c1 c2 hfx
    obtain ⟨d,rfl⟩:∃ d:Nat,x1=d:=⟨x1.toNat,by omega⟩
    obtain ⟨t,rfl⟩:∃ t:Nat,x2=t:=⟨x2.toNat,by omega⟩
    obtain ⟨q,hq⟩:∃ q:Nat,x0+1=q:=⟨(x0+1).toNat,by omega⟩
    obtain ⟨bq,hbq⟩:∃ bq:Int,((UInt8.ofNat q).toNat:Int)=bq:=⟨_,rfl⟩
    obtain ⟨bt,hbt⟩:∃ bt:Int,((UInt8.ofNat t).toNat:Int)=bt:=⟨_,rfl⟩
    obtain ⟨z1,hz1'⟩:∃ z:Int,((q / 256:Nat):Int)=z:=⟨_,rfl⟩
    obtain ⟨z2,hz2'⟩:∃ z:Int,((t / 256:Nat):Int)=z:=⟨_,rfl⟩
    have hwq:IntKind.u8.wrap (q:Int)=bq:=u8_of.trans hbq
    have hwt:IntKind.u8.wrap (t:Int)=bt:=u8_of.trans hbt
    have hwd:IntKind.u8.wrap (d:Int)=d:=u8_of.trans (by simp; omega)
    have hwi:IntKind.i64.wrap (x0+1)=(q:Int):=by rw [← hq]; exact IntWalk.i64_in _ (by omega)
    have HKY:Hid ((keyI (x0,(d:Int),(t:Int))).map encU8=[.int .u8 z1,.int .u8 bq,.int .u8 d,.int .u8 z2,.int .u8 bt]):=by
      show _=_
      unfold keyI byte2
      simp only [hq,Int.toNat_natCast,List.map_append,List.map_cons,List.map_nil,encU8,← hbq,← hbt,← hz1',← hz2']
      have e1:(UInt8.ofNat (q / 256)).toNat=q / 256:=by simp; omega
      have e2:(UInt8.ofNat d).toNat=d:=by simp; omega
      have e3:(UInt8.ofNat (t / 256)).toNat=t / 256:=by simp; omega
      rw [e1,e2,e3]
      rfl
    have HT:Hid (keyL (K.take (j+1))=keyL (K.take j)++keyI (x0,(d:Int),(t:Int))):=hT
    have Bx:Below wr.heap.size wr (wr.alloc (Obj.cells #[.int .i64 x0,.int .i64 d,.int .i64 t] 110)):=(Below.refl _ _).alloc (Nat.le_refl _) _
    have X0:=RBox.new (x0,(d:Int),(t:Int)) 110 wr
    have hq4:q≤400:=by omega
    have ht6:t≤600:=by omega
    have hd6:d≤64:=by omega
    generalize keyL (K.take j)=kl at *
    have HOW:Hid (OwnB w.heap.size kl (.slice ka kl.length kc) wr):=hown
    clear hT hown hfx hbq hbt hq
    go_wp2_with fail
    generalize wr.alloc (Obj.cells #[.int .i64 x0,.int .i64 d,.int .i64 t] 110)=wb at *
    obtain ⟨hxl,y0,y1,y2⟩:=X0
    simp only at y0 y1 y2
    have HS0:(wb.drew.cell? ⟨wr.heap.size,0,none⟩=some (.int .i64 x0)∧wb.drew.cell? ⟨wr.heap.size,1,none⟩=some (.int .i64 d)∧wb.drew.cell? ⟨wr.heap.size,2,none⟩=some (.int .i64 t)):=⟨y0,y1,y2⟩
    have hH1:=highByte_any q (by omega) wb.drew
    have hH2:=highByte_any t (by omega) wb.drew
    rw [hz1'] at hH1
    rw [hz2'] at hH2
    clear hz1' hz2'
    have Bn:Below wb.heap.size wb (wb.drew.alloc (Obj.cells #[.int .u8 z1,.int .u8 bq,.int .u8 d,.int .u8 z2,.int .u8 bt] 5)):=(Below.refl _ _).drew.alloc (Nat.le_refl _) _
    have HSI:Hid (∀ W,Below wb.heap.size wb W→(W.cell? ⟨wr.heap.size,0,none⟩=some (.int .i64 x0)∧W.cell? ⟨wr.heap.size,1,none⟩=some (.int .i64 d)∧W.cell? ⟨wr.heap.size,2,none⟩=some (.int .i64 t))):=fun W hb=>⟨(hb.cell (p:=⟨wr.heap.size,0,none⟩) hxl).trans y0,(hb.cell (p:=⟨wr.heap.size,1,none⟩) hxl).trans y1,(hb.cell (p:=⟨wr.heap.size,2,none⟩) hxl).trans y2⟩
    have HON:Hid ((wb.drew.alloc (Obj.cells #[.int .u8 z1,.int .u8 bq,.int .u8 d,.int .u8 z2,.int .u8 bt] 5)).ownsRow w.heap.size 5 1 (.slice ka kl.length kc) kl.length (kl.map encU8)):=ownsRow_next (ownsRow_next (show wr.ownsRow w.heap.size 5 1 (.slice ka kl.length kc) kl.length (kl.map encU8) from HOW.out) Bx) Bn
    have HOB:Hid (∀ k,(Value.slice ka kl.length kc).ownBlock=some k→w.heap.size≤k∧k<wr.heap.size):=fun k e=>World.ownsRow.lt HOW.out k e
    have hszn:w.heap.size≤(wb.drew.alloc (Obj.cells #[.int .u8 z1,.int .u8 bq,.int .u8 d,.int .u8 z2,.int .u8 bt] 5)).heap.size:=Nat.le_trans hsz (Nat.le_trans Bx.size Bn.size)
    have HNW:Hid (∀ (i:Nat) (u:Value),[Value.int .u8 z1,.int .u8 bq,.int .u8 d,.int .u8 z2,.int .u8 bt][i]?=some u→(wb.drew.alloc (Obj.cells #[.int .u8 z1,.int .u8 bq,.int .u8 d,.int .u8 z2,.int .u8 bt] 5)).cell? ((⟨wb.heap.size,0,none⟩:Addr).add i)=some u):=new5 wb.drew _ _ _ _ _ _
    have B3:Below w.heap.size w (wb.drew.alloc (Obj.cells #[.int .u8 z1,.int .u8 bq,.int .u8 d,.int .u8 z2,.int .u8 bt] 5)):=(B1.trans (Bx.mono hsz)).trans (Bn.mono (Nat.le_trans hsz Bx.size))
    have hSn:=HSI.out _ Bn
    clear HOW
    refine wp_region_L (fun W=>W.cell? ⟨wr.heap.size,0,none⟩=some (.int .i64 x0)∧W.cell? ⟨wr.heap.size,1,none⟩=some (.int .i64 d)∧W.cell? ⟨wr.heap.size,2,none⟩=some (.int .i64 t)) 20 (by kernel_rfl) 21 rfl ?_
    refine tk 0 ⟨some 12,.move (.tmp 3),67, "all.go:52",#[],none⟩ HS0 ?_;simp only [Act.put,sA,s0,sS]
    refine tk 1 ⟨some 13,.fieldAddr 110 (.tmp 5) 0,0, "all.go:52",#[],none⟩ HS0 ?_;simp only [Act.put,sA,s0,sS]
    refine tk 2 ⟨some 14,.load 3 (.tmp 13),3, "all.go:52",#[⟨1,.data⟩],none⟩ HS0 ?_;simp only [Act.put,sA,s0,sS]
    refine tk 3 ⟨some 15,.binOp .add 3 (.tmp 14) (.const (.int .i64 1)) 3,3, "all.go:52",#[⟨2,.data⟩],none⟩ HS0 ?_;simp only [Act.put,sA,s0,sS]
    refine tk 5 ⟨some 17,.fieldAddr 110 (.tmp 5) 0,0, "all.go:52",#[],none⟩ HS0 ?_;simp only [Act.put,sA,s0,sS]
    refine tk 6 ⟨some 18,.load 3 (.tmp 17),3, "all.go:52",#[⟨5,.data⟩],none⟩ HS0 ?_;simp only [Act.put,sA,s0,sS]
    refine tk 7 ⟨some 19,.binOp .add 3 (.tmp 18) (.const (.int .i64 1)) 3,3, "all.go:52",#[⟨6,.data⟩],none⟩ HS0 ?_;simp only [Act.put,sA,s0,sS]
    refine tk 8 ⟨some 20,.convert 3 5 (.tmp 19),5, "all.go:52",#[⟨7,.data⟩],none⟩ HS0 ?_;simp only [Act.put,sA,s0,sS]
    refine tk 9 ⟨some 21,.fieldAddr 110 (.tmp 5) 1,0, "all.go:52",#[],none⟩ HS0 ?_;simp only [Act.put,sA,s0,sS]
    refine tk 10 ⟨some 22,.load 3 (.tmp 21),3, "all.go:52",#[⟨9,.data⟩],none⟩ HS0 ?_;simp only [Act.put,sA,s0,sS]
    refine tk 11 ⟨some 23,.convert 3 5 (.tmp 22),5, "all.go:52",#[⟨10,.data⟩],none⟩ HS0 ?_;simp only [Act.put,sA,s0,sS]
    refine tk 12 ⟨some 24,.fieldAddr 110 (.tmp 5) 2,0, "all.go:52",#[],none⟩ HS0 ?_;simp only [Act.put,sA,s0,sS]
    refine tk 13 ⟨some 25,.load 3 (.tmp 24),3, "all.go:52",#[⟨12,.data⟩],none⟩ HS0 ?_;simp only [Act.put,sA,s0,sS]
    refine tk 15 ⟨some 27,.fieldAddr 110 (.tmp 5) 2,0, "all.go:52",#[],none⟩ HS0 ?_;simp only [Act.put,sA,s0,sS]
    refine tk 16 ⟨some 28,.load 3 (.tmp 27),3, "all.go:52",#[⟨15,.data⟩],none⟩ HS0 ?_;simp only [Act.put,sA,s0,sS]
    refine tk 17 ⟨some 29,.convert 3 5 (.tmp 28),5, "all.go:52",#[⟨16,.data⟩],none⟩ HS0 ?_;simp only [Act.put,sA,s0,sS]
    refine wpAnyL_one' (i:=4) (o:=⟨some 16,.call ⟨.value (.func 82),#[.tmp 15],#[3]⟩,5, "all.go:52",#[⟨3,.data⟩],none⟩) (by kernel_rfl) rfl rfl (fun K0 hK=>?_)
    go_simp
    refine hH1.mono ?_
    rintro e W2 ⟨rfl,rfl⟩
    refine hK.out _ _ (fun _=>HS0) ?_
    clear hK
    refine wpAnyL_one' (i:=14) (o:=⟨some 26,.call ⟨.value (.func 82),#[.tmp 25],#[3]⟩,5, "all.go:52",#[⟨13,.data⟩,⟨4,.chain⟩],none⟩) (by kernel_rfl) rfl rfl (fun K0 hK=>?_)
    go_simp
    refine hH2.mono ?_
    rintro e W2 ⟨rfl,rfl⟩
    refine hK.out _ _ (fun _=>HS0) ?_
    clear hK
    refine wpAnyL_one' (i:=18) (o:=⟨some 30,.buildSlice 67 5 #[(0,.tmp 16),(1,.tmp 20),(2,.tmp 23),(3,.tmp 26),(4,.tmp 29)],67, "all.go:52",#[⟨4,.data⟩,⟨8,.data⟩,⟨11,.data⟩,⟨14,.data⟩,⟨17,.data⟩],none⟩) (by kernel_rfl) rfl rfl (fun K0 hK=>?_)
    go_simp
    refine hK.out _ _ (fun _=>hSn) ?_
    clear hK
    refine wpAnyL_one' (i:=19) (o:=⟨some 31,.call ⟨.builtin .append,#[.tmp 12,.tmp 30],#[67,67]⟩,67, "all.go:52",#[⟨0,.data⟩,⟨18,.data⟩,⟨14,.chain⟩],none⟩) (by kernel_rfl) rfl rfl (fun K0 hK=>?_)
    rw [if_pos (by rfl)]
    refine wp_append_own _ (.tmp 12) (.tmp 30) 67 rfl w.heap.size 5 i0 _ 1 1 Tryz.underlying67 hi0 hz0 hz1 hz2 rfl (by decide) _ kl.length _ rfl HON.out ⟨wb.heap.size,0,none⟩ 5 5 [.int .u8 z1,.int .u8 bq,.int .u8 d,.int .u8 z2,.int .u8 bt] rfl rfl HNW.out (by simp [Value.oneCell']) (by unfold maxLen; omega) (by omega) hszn ?_
    intro v5 w5 hown5 hg5 _
    obtain ⟨a5,c5,rfl⟩:=slice_of_ownK hown5
    have hg5':(wb.drew.alloc (Obj.cells #[.int .u8 z1,.int .u8 bq,.int .u8 d,.int .u8 z2,.int .u8 bt] 5)).grownBy w5 (Value.slice ka kl.length kc).ownBlock:=hg5
    have B5:Below w.heap.size w w5:=B3.grown hg5' hszn (fun k e=>(HOB.out k e).1)
    have hS5:(w5.cell? ⟨wr.heap.size,0,none⟩=some (.int .i64 x0)∧w5.cell? ⟨wr.heap.size,1,none⟩=some (.int .i64 d)∧w5.cell? ⟨wr.heap.size,2,none⟩=some (.int .i64 t)):=by
      have kc':∀ {o:Nat} {u:Value},(wb.drew.alloc (Obj.cells #[.int .u8 z1,.int .u8 bq,.int .u8 d,.int .u8 z2,.int .u8 bt] 5)).cell? ⟨wr.heap.size,o,none⟩=some u→w5.cell? ⟨wr.heap.size,o,none⟩=some u:=fun {o u} hu=>(World.cell?_of_block (hg5'.block _ (World.block_lt_of_cell? _ _ hu) (fun e=>absurd (HOB.out _ e.symm).2 (Nat.lt_irrefl _)))).trans hu
      exact ⟨kc' hSn.1,kc' hSn.2.1,kc' hSn.2.2⟩
    have HO5:Hid (OwnB w.heap.size (keyL (K.take (j+1))) (.slice a5 (kl.length+5) c5) w5):=by
      show OwnB _ _ _ _
      unfold OwnB
      rw [HT.out,List.length_append,List.map_append,HKY.out]
      exact hown5
    refine hK.out _ _ (fun _=>hS5) ?_
    clear hK hown5 hg5
    simp only [Act.put,sA,s0,sS]
    refine wpAnyL_one' (i:=20) (o:=⟨some 3,.assign (.tmp 31),67, "all.go:52",#[⟨19,.data⟩,⟨19,.chain⟩,⟨0,.phase⟩,⟨1,.phase⟩,⟨2,.phase⟩,⟨3,.phase⟩,⟨4,.phase⟩,⟨5,.phase⟩,⟨6,.phase⟩,⟨7,.phase⟩,⟨8,.phase⟩,⟨9,.phase⟩,⟨10,.phase⟩,⟨11,.phase⟩,⟨12,.phase⟩,⟨13,.phase⟩,⟨14,.phase⟩,⟨15,.phase⟩,⟨16,.phase⟩,⟨17,.phase⟩,⟨18,.phase⟩,⟨19,.phase⟩],none⟩) (by kernel_rfl) rfl rfl (fun K0 hK=>?_)
    go_simp
    refine hK.out _ _ (fun h=>absurd h (by decide)) ?_
    clear hK
    refine wpAnyL_done (by kernel_rfl) ?_ _
    clear HSI HON HOB HNW HKY HT hS5 hSn HS0 hH1 hH2 hg5' B3 Bn Bx
    go_wp2_with fail
    exact ⟨⟨j+1,by go_num,by omega,HO5.out,B5⟩,by simp [intOf]; omega⟩
  · obtain rfl:j=K.length:=by omega
    rw [List.take_of_length_le (Nat.le_refl _)] at *
    have hk5:0<(keyL K).length:=by rw [keyL_len]; omega
    have HCV:Hid ((convert 67 9 (.slice ka (keyL K).length kc)).run Tryz.prog wr=.ok (valK K) wr):=by
      obtain ⟨h1,h2⟩:=hown
      rcases h2 with ⟨e,hn⟩ | ⟨g,cap,cur,e,hB,hg,h3⟩
      · omega
      · cases e
        refine run_convert_bytes_back wr _ _ 5 ⟨g,0,none⟩ kc (keyL K) Tryz.underlying67 Tryz.underlying5 Tryz.underlying9 (fun i hi=>?_)
        exact World.ownsRow.cells (show wr.ownsRow _ _ _ _ _ _ from ⟨h1,.inr ⟨g,_,cur,rfl,hB,hg,h3⟩⟩) (g:=g) rfl i _ (by simp [hi,encU8])
    clear hown hkl hk5
    go_wp2_with fail
    rw [HCV.out]
    simp only [Result.andThen]
    go_wp2_with fail
    go_ret
    exact ⟨rfl,B1⟩
structure Ac where
  look:Int
  to:Int
  red:List Int
  acc:Bool
deriving DecidableEq
structure Rw where
  acts:List Ac
  goes:List (Int × Int)
deriving DecidableEq
def AcsAt (l:List Ac) (ao:Option Addr) (W:World):Prop :=
  ∀ (i:Nat) (x:Ac),l[i]?=some x→∃ b off v,ao=some ⟨b,off,none⟩∧b<W.heap.size∧W.cell? ⟨b,off+i * 4,none⟩=some (.int .i64 x.look)∧W.cell? ⟨b,off+i * 4+1,none⟩=some (.int .i64 x.to)∧W.cell? ⟨b,off+i * 4+2,none⟩=some v∧W.cell? ⟨b,off+i * 4+3,none⟩=some (.bool x.acc)∧SlI x.red v W∧i64B x.look∧i64B x.to∧x.red.length≤140737488351232
theorem AcsAt.next {l:List Ac} {ao:Option Addr} {W W':World} (h:AcsAt l ao W) (hb:Below W.heap.size W W'):AcsAt l ao W':=fun i r hr=>by
  obtain ⟨b,off,v,h0,h1,h2,h3,h4,h5,h6,h7⟩:=h i r hr
  exact ⟨b,off,v,h0,Nat.lt_of_lt_of_le h1 hb.size,(hb.cell (p:=⟨b,off+i * 4,none⟩) h1).trans h2,(hb.cell (p:=⟨b,off+i * 4+1,none⟩) h1).trans h3,(hb.cell (p:=⟨b,off+i * 4+2,none⟩) h1).trans h4,(hb.cell (p:=⟨b,off+i * 4+3,none⟩) h1).trans h5,h6.next hb,h7⟩
theorem AcsAt.at {l:List Ac} {ao:Option Addr} {w W:World} (h:AcsAt l ao w) (hb:Below w.heap.size w W) {j:Nat} (hj:j<l.length) :
    ∃ b off v,ao=some ⟨b,off,none⟩∧b<W.heap.size∧W.cell? ⟨b,off+j * 4,none⟩=some (.int .i64 l[j].look)∧W.cell? ⟨b,off+j * 4+1,none⟩=some (.int .i64 l[j].to)∧W.cell? ⟨b,off+j * 4+2,none⟩=some v∧W.cell? ⟨b,off+j * 4+3,none⟩=some (.bool l[j].acc)∧SlI l[j].red v W∧i64B l[j].look∧i64B l[j].to∧l[j].red.length≤140737488351232:=h.next hb j l[j] (by simp [hj])
def SlA (l:List Ac) (v:Value) (W:World):Prop :=
  ∃ ao cap,v=.slice ao l.length cap∧AcsAt l ao W∧(ao=none→cap=0)∧l.length≤cap∧l.length≤140737488351232
theorem SlA.next {l:List Ac} {v:Value} {W W':World} (h:SlA l v W) (hb:Below W.heap.size W W'):SlA l v W':=by
  obtain ⟨ao,cap,h0,h1,h2⟩:=h
  exact ⟨ao,cap,h0,h1.next hb,h2⟩
theorem SlA.nil (W:World):SlA [] (.slice none 0 0) W:=⟨none,0,rfl,fun i r hr=>by simp at hr,fun _=>rfl,Nat.le_refl _,Nat.zero_le _⟩
def GosAt (l:List (Int × Int)) (ao:Option Addr) (W:World):Prop :=
  ∀ (i:Nat) (x:Int × Int),l[i]?=some x→∃ b off,ao=some ⟨b,off,none⟩∧b<W.heap.size∧W.cell? ⟨b,off+i * 2,none⟩=some (.int .i64 x.1)∧W.cell? ⟨b,off+i * 2+1,none⟩=some (.int .i64 x.2)∧i64B x.1∧i64B x.2
theorem GosAt.next {l:List (Int × Int)} {ao:Option Addr} {W W':World} (h:GosAt l ao W) (hb:Below W.heap.size W W'):GosAt l ao W':=fun i r hr=>by
  obtain ⟨b,off,h0,h1,h2,h3,h4⟩:=h i r hr
  exact ⟨b,off,h0,Nat.lt_of_lt_of_le h1 hb.size,(hb.cell (p:=⟨b,off+i * 2,none⟩) h1).trans h2,(hb.cell (p:=⟨b,off+i * 2+1,none⟩) h1).trans h3,h4⟩
theorem GosAt.at {l:List (Int × Int)} {ao:Option Addr} {w W:World} (h:GosAt l ao w) (hb:Below w.heap.size w W) {j:Nat} (hj:j<l.length) :
    ∃ b off,ao=some ⟨b,off,none⟩∧b<W.heap.size∧W.cell? ⟨b,off+j * 2,none⟩=some (.int .i64 l[j].1)∧W.cell? ⟨b,off+j * 2+1,none⟩=some (.int .i64 l[j].2)∧i64B l[j].1∧i64B l[j].2:=h.next hb j l[j] (by simp [hj])
def SlG (l:List (Int × Int)) (v:Value) (W:World):Prop :=
  ∃ ao cap,v=.slice ao l.length cap∧GosAt l ao W∧(ao=none→cap=0)∧l.length≤cap∧l.length≤140737488351232
theorem SlG.next {l:List (Int × Int)} {v:Value} {W W':World} (h:SlG l v W) (hb:Below W.heap.size W W'):SlG l v W':=by
  obtain ⟨ao,cap,h0,h1,h2⟩:=h
  exact ⟨ao,cap,h0,h1.next hb,h2⟩
theorem SlG.nil (W:World):SlG [] (.slice none 0 0) W:=⟨none,0,rfl,fun i r hr=>by simp at hr,fun _=>rfl,Nat.le_refl _,Nat.zero_le _⟩
def RwsAt (l:List Rw) (ao:Option Addr) (W:World):Prop :=
  ∀ (i:Nat) (x:Rw),l[i]?=some x→∃ b off va vg,ao=some ⟨b,off,none⟩∧b<W.heap.size∧W.cell? ⟨b,off+i * 2,none⟩=some va∧W.cell? ⟨b,off+i * 2+1,none⟩=some vg∧SlA x.acts va W∧SlG x.goes vg W
theorem RwsAt.next {l:List Rw} {ao:Option Addr} {W W':World} (h:RwsAt l ao W) (hb:Below W.heap.size W W'):RwsAt l ao W':=fun i r hr=>by
  obtain ⟨b,off,va,vg,h0,h1,h2,h3,h4,h5⟩:=h i r hr
  exact ⟨b,off,va,vg,h0,Nat.lt_of_lt_of_le h1 hb.size,(hb.cell (p:=⟨b,off+i * 2,none⟩) h1).trans h2,(hb.cell (p:=⟨b,off+i * 2+1,none⟩) h1).trans h3,h4.next hb,h5.next hb⟩
theorem RwsAt.at {l:List Rw} {ao:Option Addr} {w W:World} (h:RwsAt l ao w) (hb:Below w.heap.size w W) {j:Nat} (hj:j<l.length) :
    ∃ b off va vg,ao=some ⟨b,off,none⟩∧b<W.heap.size∧W.cell? ⟨b,off+j * 2,none⟩=some va∧W.cell? ⟨b,off+j * 2+1,none⟩=some vg∧SlA l[j].acts va W∧SlG l[j].goes vg W:=h.next hb j l[j] (by simp [hj])
def SlW (l:List Rw) (v:Value) (W:World):Prop :=
  ∃ ao cap,v=.slice ao l.length cap∧RwsAt l ao W∧(ao=none→cap=0)∧l.length≤cap∧l.length≤140737488351232
theorem SlW.next {l:List Rw} {v:Value} {W W':World} (h:SlW l v W) (hb:Below W.heap.size W W'):SlW l v W':=by
  obtain ⟨ao,cap,h0,h1,h2⟩:=h
  exact ⟨ao,cap,h0,h1.next hb,h2⟩
theorem SlW.nil (W:World):SlW [] (.slice none 0 0) W:=⟨none,0,rfl,fun i r hr=>by simp at hr,fun _=>rfl,Nat.le_refl _,Nat.zero_le _⟩
def tornA (a:Ac):Bool:=match a.red with
  | []=>false
  | [_]=>a.to != -1 || a.acc
  | _=>true
def tornRow (n:Int) (l:List Ac):List (Int × Int):=(l.filter tornA).map fun a=>(n,a.look)
def tornL (l:List Rw):List (Int × Int):=(l.zipIdx).flatMap fun p=>tornRow p.2 p.1.acts
theorem tornRow_succ {n:Int} {l:List Ac} {k:Nat} (hk:k<l.length):tornRow n (l.take (k+1))=tornRow n (l.take k)++(if tornA l[k] then [(n,l[k].look)] else []):=by
  unfold tornRow
  rw [List.take_succ_eq_append_getElem hk,List.filter_append,List.map_append]
  congr 1
  by_cases h:tornA l[k] <;> simp [h]
theorem tornL_succ {l:List Rw} {k:Nat} (hk:k<l.length):tornL (l.take (k+1))=tornL (l.take k)++tornRow k l[k].acts:=by
  unfold tornL
  rw [List.take_succ_eq_append_getElem hk,List.zipIdx_append,List.flatMap_append]
  simp [Nat.min_eq_left (Nat.le_of_lt hk)]
def sizeA (l:List Ac):Nat:=(l.map fun a=>1+a.red.length).sum
def sizeR (r:Rw):Nat:=1+r.goes.length+sizeA r.acts
def sizeTb (l:List Rw):Nat:=(l.map sizeR).sum
theorem sizeA_succ {l:List Ac} {k:Nat} (hk:k<l.length):sizeA (l.take (k+1))=sizeA (l.take k)+(1+l[k].red.length):=by
  unfold sizeA
  rw [List.take_succ_eq_append_getElem hk,List.map_append,List.sum_append]
  simp
theorem sizeTb_succ {l:List Rw} {k:Nat} (hk:k<l.length):sizeTb (l.take (k+1))=sizeTb (l.take k)+sizeR l[k]:=by
  unfold sizeTb
  rw [List.take_succ_eq_append_getElem hk,List.map_append,List.sum_append]
  simp
theorem sum_take_le (l:List Nat) (k:Nat):(l.take k).sum≤l.sum:=by
  conv=>rhs; rw [← List.take_append_drop k l,List.sum_append]
  omega
theorem sizeA_le (l:List Ac) (k:Nat):sizeA (l.take k)≤sizeA l:=by
  unfold sizeA; rw [List.map_take]; exact sum_take_le _ _
theorem sizeTb_le (l:List Rw) (k:Nat):sizeTb (l.take k)≤sizeTb l:=by
  unfold sizeTb; rw [List.map_take]; exact sum_take_le _ _
end Go.Proofs.YtiamjafecbpfpaaGreatDoor
