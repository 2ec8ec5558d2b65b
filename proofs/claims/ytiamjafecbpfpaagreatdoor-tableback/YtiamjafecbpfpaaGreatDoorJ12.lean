import Derived.Test.YtiamjafecbpfpaaGreatDoorJ03
import Derived.Test.YtiamjafecbpfpaaGreatDoorJ04
import Derived.Test.YtiamjafecbpfpaaGreatDoorJ07
import Derived.Test.YtiamjafecbpfpaaGreatDoorJ10
import Derived.Test.YtiamjafecbpfpaaGreatDoorJ11

namespace Go.Proofs.YtiamjafecbpfpaaGreatDoor
open Go.RowKit
def goO (p:Int × Int):St→Except Int ((Int × Int) × List UInt8)
  | .ok s=>.ok (p,s)
  | .error e=>.error e
theorem go_math (r:List UInt8) (s1:St) (h1:rS rdN (.ok r)=s1):rdG r=goO (nV (.ok r),nV s1) (rS rdN s1):=by
  subst h1
  unfold rdG goO
  rcases ex_cases (rdN r) with ⟨e,e1⟩ | ⟨⟨x,r1⟩,e1⟩
  · simp only [rS,e1]
  · simp only [rS,e1,nV]
    rcases ex_cases (rdN r1) with ⟨e,e2⟩ | ⟨⟨y,r2⟩,e2⟩
    · simp only [e2]
    · simp only [e2]
def rowO (A:List Ac) (G:List (Int × Int)):St→Except Int (Rw × List UInt8)
  | .ok s=>.ok (⟨A,G⟩,s)
  | .error e=>.error e
theorem row_math (r:List UInt8) (A:List Ac) (G:List (Int × Int)) (a1 a3:St) (RA:Except Int (List Ac × List UInt8)) (RG:Except Int (List (Int × Int) × List UInt8)) (h1:rS rdN (.ok r)=a1) (h2:rK rdA (nV (.ok r)).toNat a1=RA) (h3:rS rdN (stOf RA)=a3) (h4:rK rdG (nV (stOf RA)).toNat a3=RG) (hA:∀ xs s,RA=.ok (xs,s)→A=xs) (hG:∀ xs s,RG=.ok (xs,s)→G=xs) :
    rdR r=rowO A G (stOf RG):=by
  subst h1 h2 h3 h4
  unfold rdR rdL rowO
  rcases ex_cases (rdN r) with ⟨e,e1⟩ | ⟨⟨n,r1⟩,e1⟩
  · simp only [rS,e1,rK,stOf]
  · simp only [rS,e1,nV,rK] at hA hG ⊢
    rcases ex_cases (rdK rdA n.toNat r1) with ⟨e,e2⟩ | ⟨⟨xs,r2⟩,e2⟩
    · simp only [e2,stOf]
    · simp only [e2,stOf] at hA hG ⊢
      rcases ex_cases (rdN r2) with ⟨e,e3⟩ | ⟨⟨m,r3⟩,e3⟩
      · simp only [e3]
      · simp only [e3] at hG ⊢
        rcases ex_cases (rdK rdG m.toNat r3) with ⟨e,e4⟩ | ⟨⟨ys,r4⟩,e4⟩
        · simp only [e4]
        · simp only [e4] at hG ⊢
          rw [hA xs r2 rfl,hG ys r4 rfl]
def tabO (T:List Rw):St→Except Int (List Rw)
  | .ok r=>if r=[] then .ok T else .error 10
  | .error e=>.error e
theorem tab_math (l:List UInt8) (T:List Rw) (s1:St) (RT:Except Int (List Rw × List UInt8)) (h1:rS rdN (.ok l)=s1) (h2:rK rdR (nV (.ok l)).toNat s1=RT) (hT:∀ xs s,RT=.ok (xs,s)→T=xs):rdT l=tabO T (stOf RT):=by
  subst h1 h2
  unfold rdT rdL tabO
  rcases ex_cases (rdN l) with ⟨e,e1⟩ | ⟨⟨n,r1⟩,e1⟩
  · simp only [rS,e1,rK,stOf]
  · simp only [rS,e1,nV,rK] at hT ⊢
    rcases ex_cases (rdK rdR n.toNat r1) with ⟨e,e2⟩ | ⟨⟨xs,r2⟩,e2⟩
    · simp only [e2,stOf]
    · simp only [e2,stOf] at hT ⊢
      rw [hT xs r2 rfl]
theorem OwnA.moreq {B L:Nat} {P:List (Ac × Value)} {v v':Value} {p:Ac × Value} {lo hi:Nat} {W W1:World} (h:OwnA B L P v W) (hk:KeepU lo hi p.1.red p.2 W) (hok:okAc p.1) (hL:L≤lo) (hh:hi≤W.heap.size) (hvl:∀ k,v.ownBlock=some k→k<lo) (hg:W.grownBy W1 v.ownBlock)
    (ho:W1.ownsRow B 41 4 v' (P.length+1) (P.flatMap encAu++encAu p)) (hat:∀ k,v'.ownBlock=some k→v.ownBlock=some k∨W.heap.size≤k):OwnA B L (P++[p]) v' W1:=by
  have hb:But (fun k=>v.ownBlock=some k) W W1:=⟨hg.os,hg.tape,hg.output,hg.size,fun k hk hd=>hg.block k hk (fun e=>hd e.symm)⟩
  refine ⟨by rw [List.length_append,List.flatMap_append]; simpa using ho,fun i u hu=>?_⟩
  by_cases hi':i<P.length
  · rw [List.getElem?_append_left hi'] at hu
    obtain ⟨h0,lo',hi'',h1,h2,h3,h4⟩:=h.rows i u hu
    refine ⟨h0,lo',hi'',h1.keep hb h4,h2,Nat.le_trans h3 hb.size,fun k hk=>?_⟩
    rcases hat k hk with e | e
    · exact h4 k e
    · exact .inr (Nat.le_trans h3 e)
  · have e1:i=P.length:=by
      have:=(List.getElem?_eq_some_iff.1 hu).1
      simp at this; omega
    subst e1
    rw [List.getElem?_append_right (Nat.le_refl _)] at hu
    simp at hu
    subst hu
    refine ⟨hok,lo,hi,hk.keep hb (fun k hk=>.inl (hvl k hk)),hL,Nat.le_trans hh hb.size,fun k hk=>?_⟩
    rcases hat k hk with e | e
    · exact .inl (hvl k e)
    · exact .inr (Nat.le_trans hh e)
def Two (g b:Nat) (W W':World):Prop:=But (fun k=>k=g∨k=b) W W'
theorem Two.refl (g b:Nat) (W:World):Two g b W W:=But.refl _ _
theorem Two.only {g b:Nat} {a c d:World} (h:Two g b a c) (k:Only g c d):Two g b a d:=But.trans h (But.mono k (fun _ _ h=>.inl h))
theorem Two.next {g b:Nat} {a c d:World} (h:Two g b a c) (k:Below c.heap.size c d):Two g b a d:=But.trans h (But.of_next k)
theorem Two.set {g b o:Nat} {a c:World} (h:Two g b a c) (v:Value):Two g b a (c.setCell ⟨b,o,none⟩ v):=But.setCell h _ _ (.inr (.inr rfl))
theorem Two.grown {g d:Nat} {a b c:World} {ob:Option Nat} (h:Two g d a b) (hg:b.grownBy c ob) (hn:∀ k,ob=some k→a.heap.size≤k):Two g d a c :=
  ⟨hg.os.trans h.os,hg.tape.trans h.tape,hg.output.trans h.output,Nat.le_trans h.size hg.size,fun k hk hd=>(hg.block k (Nat.lt_of_lt_of_le hk h.size) (fun e=>by have:=hn k e.symm; omega)).trans (h.block k hk hd)⟩
theorem RS.grown {g:Nat} {l:List UInt8} {st:St} {W W':World} {ob:Option Nat} (h:RS g l st W) (hg:W.grownBy W' ob) (hn:∀ k,ob=some k→k≠g):RS g l st W':=by
  obtain ⟨p,err,h1,h2⟩:=h
  exact ⟨p,err,(hg.block g (blk_lt h1) (fun e=>hn g e.symm rfl)).trans h1,h2⟩
theorem err_ok {g:Nat} {l:List UInt8} {st:St} {W:World} (h:RS g l st W):∃ (pp:Nat) (err:Int),W.cell? ⟨g,2,none⟩=some (.int .i64 err)∧W.cell? ⟨g,1,none⟩=some (.int .i64 pp)∧W.frozen? ⟨g,2,none⟩=false∧((err=0∧∃ r,st=.ok r∧pp≤l.length∧l.drop pp=r)∨(err≠0∧st=.error err)):=by
  obtain ⟨p,err,h1,h2⟩:=h
  refine ⟨p,err,by rw [Lib.cell_of_heap h1]; rfl,by rw [Lib.cell_of_heap h1]; rfl,Lib.frozen_of_heap h1 _,?_⟩
  cases st with
  | ok r=>exact .inl ⟨h2.1,r,rfl,h2.2.1,h2.2.2⟩
  | error e=>exact .inr ⟨by rw [h2.1]; exact h2.2.1,by rw [h2.1]⟩
theorem rK_zero {α:Type} (one:Rd α) (st:St):stOf (rK one 0 st)=st∧∀ xs r,rK one 0 st=.ok (xs,r)→[]=xs:=by
  cases st with
  | error e=>exact ⟨rfl,fun _ _ h=>by cases h⟩
  | ok r=>exact ⟨rfl,fun xs r' h=>by simp only [rK,rdK,Except.ok.injEq,Prod.mk.injEq] at h; exact h.1⟩
set_option maxRecDepth 100000 in
set_option maxHeartbeats 8000000 in
theorem rdecode_any (l:List UInt8) (w:World) (hl:l.length≤140737488355328):Calls Tryz.prog 8 #[.string ⟨l.toArray⟩] w fun e w'=>Decoded l w e w':=by
  obtain ⟨ir,hir,hr0,hr1,hr2⟩:=info_parts infoRow
  obtain ⟨ig,hig,hg0,hg1,hg2⟩:=info_parts infoGo12
  obtain ⟨ia,hia,ha0,ha1,ha2⟩:=info_parts infoAct
  obtain ⟨w0,hw0⟩:∃ w0,((w.alloc (Obj.cells #[.slice none 0 0] 24)).alloc (Obj.cells #[.string ⟨l.toArray⟩,.int .i64 0,.int .i64 0] 61)).alloc (Obj.cells #[.slice none 0 0] 24)=w0:=⟨_,rfl⟩
  have B0:Below w.heap.size w w0:=by rw [← hw0]; exact (((Below.refl _ _).alloc (Nat.le_refl _) _).alloc (by simp) _).alloc (by simp; omega) _
  have b0:w0.heap[w.heap.size]?=some (Obj.cells #[.slice none 0 0] 24):=by rw [← hw0]; exact (Lib.alloc_old _ _ _ (by simp; omega)).trans ((Lib.alloc_old _ _ _ (by simp)).trans (heap_alloc_new _ _))
  have b1:w0.heap[w.heap.size+1]?=some (Obj.cells #[.string ⟨l.toArray⟩,.int .i64 0,.int .i64 0] 61):=by rw [← hw0]; exact (Lib.alloc_old _ _ _ (by simp)).trans (heap_alloc2_new _ _ _)
  have b2:w0.heap[w.heap.size+1+1]?=some (Obj.cells #[.slice none 0 0] 24):=by
    rw [← hw0]
    have:=heap_alloc_new ((w.alloc (Obj.cells #[.slice none 0 0] 24)).alloc (Obj.cells #[.string ⟨l.toArray⟩,.int .i64 0,.int .i64 0] 61)) (Obj.cells #[.slice none 0 0] 24)
    simpa using this
  obtain ⟨tb,htb⟩:∃ tb,w.heap.size+1+1=tb:=⟨_,rfl⟩
  obtain ⟨g,hg⟩:∃ g,w.heap.size+1=g:=⟨_,rfl⟩
  have hgl:w.heap.size<g:=by omega
  have htl:g<tb:=by omega
  rw [htb] at b2
  rw [hg] at b1
  have hR0:RS g l (.ok l) w0:=⟨0,0,b1,rfl,Nat.zero_le _,rfl⟩
  have HN:Hid (∀ (st:St) W,RS g l st W→Calls Tryz.prog 18 #[.pointer (some ⟨g,0,none⟩)] W fun e w'=>e=.returned (.int .i64 (nV st))∧RS g l (rS rdN st) w'∧Only g W w'):=fun st W h=>rnum_any g l st W h hl
  have HAC:Hid (∀ (r:List UInt8) W,RS g l (.ok r) W→Calls Tryz.prog 19 #[.pointer (some ⟨g,0,none⟩)] W fun e w'=>∃ a v,e=.returned v∧valA a v W w'∧RS g l (stOf (rdA r)) w'∧Only g W w'∧(∀ a' r',rdA r=.ok (a',r')→a'=a)):=fun r W h=>rract_any g l r W h hl
  have HC:=HN.out _ _ hR0
  have HTB:Hid (w.heap.size+1+1=tb∧w.heap.size+1=g):=⟨htb,hg⟩
  have HW0:Hid (((w.alloc (Obj.cells #[.slice none 0 0] 24)).alloc (Obj.cells #[.string ⟨l.toArray⟩,.int .i64 0,.int .i64 0] 61)).alloc (Obj.cells #[.slice none 0 0] 24)=w0):=hw0
  clear b1 hR0 htb hg hw0
  go_enter Tryz.func8,Tryz.ntmps8
  go_upto_region 3 with fail
  rw [HW0.out,HTB.out.1,HTB.out.2]
  clear HW0 HTB
  go_wp2_with fail
  refine HC.mono ?_
  rintro e w3 ⟨rfl,k1,j1⟩
  have hnl:=nV_lt (.ok l)
  obtain ⟨n,hn⟩:∃ n:Nat,nV (.ok l)=(n:Int):=⟨(nV (.ok l)).toNat,by omega⟩
  rw [hn] at hnl ⊢
  obtain ⟨st1,hst1⟩:∃ s,rS rdN (.ok l)=s:=⟨_,rfl⟩
  rw [hst1] at k1
  have p0:=but_blk j1 b0 (by show ¬ _=g; omega)
  have p2:=but_blk j1 b2 (by show ¬ _=g; omega)
  have B3:Below w.heap.size w w3:=B0.trans (j1.below B0.size (fun k (e:k=g)=>by omega))
  have htz:=blk_lt p2
  have HM:Hid (nV (.ok l)=(n:Int)∧rS rdN (.ok l)=st1):=⟨hn,hst1⟩
  clear HC j1 b0 b2 B0 hn hst1
  go_wp2_with fail
  go_loopw [7] (fun iv wr=>∃ (i:Nat) (P:List (Rw × (Value × Value))) (v:Value),iv=.int .i64 i∧i≤n∧P.length=i∧wr.heap[tb]?=some (Obj.cells #[v] 24)∧OwnR w3.heap.size w3.heap.size P v wr∧RS g l (stOf (rK rdR i st1)) wr∧(∀ xs r,rK rdR i st1=.ok (xs,r)→P.map Prod.fst=xs)∧Two g tb w3 wr) (fun i _=>n - (intOf i).toNat)
  case atStart=>exact ⟨0,[],.slice none 0 0,rfl,Nat.zero_le _,rfl,p2,OwnR.nil _ _ _,by rw [(rK_zero rdR st1).1]; exact k1,(rK_zero rdR st1).2,Two.refl _ _ _⟩
  case round =>
  clear k1 p2
  generalize hwo:wr=wo at *
  clear hwo
  obtain ⟨i,P,v,rfl,hi,hPl,pt,hO,hR,hX,hW⟩:=hrel
  obtain ⟨va,vc,rfl⟩:=slice_of_ownK hO.own
  have hPl1:P.length≤i:=by omega
  have hsz:=hW.size
  obtain ⟨pp,err,ce,cp,fe,hcs⟩:=err_ok hR
  have ct:wo.cell? ⟨tb,0,none⟩=some (.slice va P.length vc):=by rw [Lib.cell_of_heap pt]; rfl
  by_cases hgo:i<n∧err=0
  case neg =>
    have hend:i=n∨∃ e,stOf (rK rdR i st1)=.error e:=by
      by_cases hin:i=n
      · exact .inl hin
      · right
        rcases hcs with ⟨h,_⟩ | ⟨_,h⟩
        · exact absurd ⟨by omega,h⟩ hgo
        · exact ⟨err,h⟩
    obtain ⟨z1,z2⟩:=rK_end rdR st1 hi hend
    have hTX:∀ xs r,rK rdR n st1=.ok (xs,r)→P.map Prod.fst=xs:=fun xs r hx=>hX xs r (z2 xs r hx)
    have htab:=tab_math l (P.map Prod.fst) st1 (rK rdR n st1) HM.out.2 (by rw [HM.out.1]; rfl) hTX
    rw [z1] at htab
    have pz:=but_blk hW p0 (fun e=>by omega)
    have cz:wo.cell? ⟨w.heap.size,0,none⟩=some (.slice none 0 0):=by rw [Lib.cell_of_heap pz]; rfl
    have fz:wo.frozen? ⟨w.heap.size,0,none⟩=false:=Lib.frozen_of_heap pz _
    have hBo:Below w.heap.size w wo:=B3.trans (hW.below B3.size (fun k e=>by omega))
    have hzs:w.heap.size<wo.heap.size:=blk_lt pz
    have mixed:Tryz.prog.follows Departure.mixedOrders=true:=by kernel_rfl
    have late:Tryz.prog.follows Departure.lateStores=true:=by kernel_rfl
    by_cases he0:err=0
    case neg =>
      have hE:rdT l=.error err:=by
        rcases hcs with ⟨h,_⟩ | ⟨_,h⟩
        · exact absurd h he0
        · rw [htab,h]; rfl
      have hz9:(wo.setCell ⟨w.heap.size,0,none⟩ (.slice none 0 0)).heap[w.heap.size]?=some (Obj.cells #[.slice none 0 0] 24):=by
        have:=blk_set (o:=0) pz (.slice none 0 0)
        simpa using this
      have he1:(err == 0)=false:=beq_eq_false_iff_ne.2 he0
      have he2:(err != 0)=true:=by simp [he0]
      have hcase:(decide ((i:Int)<n)=false∧¬ (i:Int)<n)∨(decide ((i:Int)<n)=true∧(i:Int)<n):=by
        by_cases h1:i<n
        · exact .inr ⟨decide_eq_true (by omega),by omega⟩
        · exact .inl ⟨decide_eq_false (by omega),by omega⟩
      have HR9:Hid (Decoded l w (.returned (.tuple #[.agg #[.slice none 0 0],.int .i64 err])) (wo.setCell ⟨w.heap.size,0,none⟩ (.slice none 0 0)).drew):=⟨.inr ⟨err,hE,rfl⟩,(hBo.setCell (by simp) _).drew⟩
      have HZ9:Hid (((wo.setCell ⟨w.heap.size,0,none⟩ (.slice none 0 0)).drew).heap[w.heap.size]?=some (Obj.cells #[.slice none 0 0] 24)):=hz9
      clear hO hR hX hW hcs hend z1 z2 hTX htab ct pt HN HAC HM hgo B3 hE hz9 hPl
      rcases hcase with ⟨g1,g2⟩ | ⟨g1,g2⟩
      all_goals
        go_wp2_with fail
        go_region_o
        go_wp2_with fail
        refine bodyPost_ret (results_cell_tmp rfl _ _ _ rfl rfl (run_loadVar_row _ _ _ _ _ _ _ HZ9.out Tryz.underlying24 rfl (by kernel_rfl))) rfl ?_
        exact HR9.out
    subst he0
    obtain rfl:i=n:=by
      by_cases hin:i=n
      · exact hin
      · exact absurd ⟨by omega,rfl⟩ hgo
    have hin1:¬ ((i:Nat):Int)<(i:Int):=by omega
    have hin2:decide (((i:Nat):Int)<(i:Int))=false:=decide_eq_false hin1
    rcases hcs with ⟨_,r,hr,hpl,hdr⟩ | ⟨h,_⟩
    case inr=>exact absurd rfl h
    rw [hr] at htab
    by_cases hpp:pp<l.length
    · have hE:rdT l=.error 10:=by
        rw [htab]
        have:r≠[]:=by rw [← hdr]; simp; omega
        simp only [tabO,if_neg this]
      have hp1:(pp:Int)<l.length:=by omega
      have hp2:decide ((pp:Int)<l.length)=true:=decide_eq_true hp1
      obtain ⟨p',e',hrb,_⟩:=hR
      have b9:=blk_set (o:=2) hrb (.int .i64 10)
      simp at b9
      have cz9:(wo.setCell ⟨g,2,none⟩ (.int .i64 10)).cell? ⟨g,2,none⟩=some (.int .i64 10):=by rw [Lib.cell_of_heap b9]; rfl
      have pz9:=set_blk (o:=2) (v:=.int .i64 10) pz (show w.heap.size≠g by omega)
      have cz8:(wo.setCell ⟨g,2,none⟩ (.int .i64 10)).cell? ⟨w.heap.size,0,none⟩=some (.slice none 0 0):=by rw [Lib.cell_of_heap pz9]; rfl
      have fz8:(wo.setCell ⟨g,2,none⟩ (.int .i64 10)).frozen? ⟨w.heap.size,0,none⟩=false:=Lib.frozen_of_heap pz9 _
      have hB9:Below w.heap.size w (wo.setCell ⟨g,2,none⟩ (.int .i64 10)):=hBo.setCell (by simp; omega) _
      have hz9:((wo.setCell ⟨g,2,none⟩ (.int .i64 10)).setCell ⟨w.heap.size,0,none⟩ (.slice none 0 0)).heap[w.heap.size]?=some (Obj.cells #[.slice none 0 0] 24):=by
        have:=blk_set (o:=0) pz9 (.slice none 0 0)
        simpa using this
      have HR9:Hid (Decoded l w (.returned (.tuple #[.agg #[.slice none 0 0],.int .i64 10])) ((wo.setCell ⟨g,2,none⟩ (.int .i64 10)).setCell ⟨w.heap.size,0,none⟩ (.slice none 0 0)).drew):=⟨.inr ⟨10,hE,rfl⟩,(hB9.setCell (by simp) _).drew⟩
      have HZ9:Hid ((((wo.setCell ⟨g,2,none⟩ (.int .i64 10)).setCell ⟨w.heap.size,0,none⟩ (.slice none 0 0)).drew).heap[w.heap.size]?=some (Obj.cells #[.slice none 0 0] 24)):=hz9
      clear hO hX hW hend z1 z2 hTX htab ct pt HN HAC HM hgo B3 hE hz9 hr hdr hrb b9 hB9 pz9 hBo pz hPl
      go_upto_region 23 with fail
      clear ce cp fe cz fz
      generalize wo.setCell ⟨g,2,none⟩ (.int .i64 10)=wz at *
      go_wp2_with fail
      go_region_o
      go_wp2_with fail
      refine bodyPost_ret (results_cell_tmp rfl _ _ _ rfl rfl (run_loadVar_row _ _ _ _ _ _ _ HZ9.out Tryz.underlying24 rfl (by kernel_rfl))) rfl ?_
      exact HR9.out
    · have hE:rdT l=.ok (P.map Prod.fst):=by
        rw [htab]
        have:r=[]:=by rw [← hdr]; simp; omega
        simp only [tabO,if_pos this]
      have hp1:¬ (pp:Int)<l.length:=by omega
      have hp2:decide ((pp:Int)<l.length)=false:=decide_eq_false hp1
      have hz9:(wo.setCell ⟨w.heap.size,0,none⟩ (.slice va P.length vc)).heap[w.heap.size]?=some (Obj.cells #[.slice va P.length vc] 24):=by
        have:=blk_set (o:=0) pz (.slice va P.length vc)
        simpa using this
      have hO9:=hO.keep (D:=fun k=>k=w.heap.size) ((But.refl _ wo).setCell ⟨w.heap.size,0,none⟩ (.slice va P.length vc) (.inr rfl)) (fun k (e:k=_)=>by omega) (fun k hk (e:k=_)=>by have:=(World.ownsRow.lt hO.own k hk).1; omega)
      have HR9:Hid (Decoded l w (.returned (.tuple #[.agg #[.slice va P.length vc],.int .i64 0])) (wo.setCell ⟨w.heap.size,0,none⟩ (.slice va P.length vc))):=⟨.inl ⟨_,_,hE,rfl,hO9.sl (by omega)⟩,hBo.setCell (by simp) _⟩
      have HZ9:Hid ((wo.setCell ⟨w.heap.size,0,none⟩ (.slice va P.length vc)).heap[w.heap.size]?=some (Obj.cells #[.slice va P.length vc] 24)):=hz9
      clear hO hO9 hX hW hend z1 z2 hTX htab pt HN HAC HM hgo B3 hE hz9 hr hdr hBo pz hPl hR
      go_wp2_with fail
      refine bodyPost_ret (results_cell_tmp rfl _ _ _ rfl rfl (run_loadVar_row _ _ _ _ _ _ _ HZ9.out Tryz.underlying24 rfl (by kernel_rfl))) rfl ?_
      exact HR9.out
  obtain ⟨hlt,rfl⟩:=hgo
  rcases hcs with ⟨_,r,hr,_⟩ | ⟨h,_⟩
  case inr=>exact absurd rfl h
  obtain ⟨xs,hxs⟩:=stOf_ok hr
  have hPx:=hX xs r hxs
  rw [hr] at hR
  obtain ⟨m1,m2⟩:=rK_snoc rdR i st1 hxs
  have hlt':(i:Int)<n:=by omega
  have hd:decide ((i:Int)<n)=true:=decide_eq_true hlt'
  have HNX:Hid (stOf (rK rdR (i+1) st1)=stOf (rdR r)∧∀ ys s,rK rdR (i+1) st1=.ok (ys,s)→∃ x,rdR r=.ok (x,s)∧ys=P.map Prod.fst++[x]):=by rw [hPx]; exact ⟨m1,m2⟩
  have HO:Hid (OwnR w3.heap.size w3.heap.size P (.slice va P.length vc) wo∧Two g tb w3 wo∧P.length=i):=⟨hO,hW,hPl⟩
  have ba:Below wo.heap.size wo (wo.alloc (Obj.cells #[.slice none 0 0,.slice none 0 0] 38)):=(Below.refl _ _).alloc (Nat.le_refl _) _
  have pr:(wo.alloc (Obj.cells #[.slice none 0 0,.slice none 0 0] 38)).heap[wo.heap.size]?=some (Obj.cells #[.slice none 0 0,.slice none 0 0] 38):=heap_alloc_new _ _
  have HC:=HN.out _ _ (hR.next ba)
  have HWA:Hid (Only g wo (wo.alloc (Obj.cells #[.slice none 0 0,.slice none 0 0] 38))∧wo.heap[tb]?=some (Obj.cells #[.slice va P.length vc] 24)):=⟨Only.next ba,pt⟩
  clear hO hR hX hW hr hxs m1 m2 hPx hPl pt ba
  go_upto_region 8 with fail
  obtain ⟨rb,hrb⟩:∃ rb,wo.heap.size=rb:=⟨_,rfl⟩
  have hrs:w3.heap.size≤rb:=by omega
  rw [hrb] at pr ⊢
  clear hsz ce cp ct fe
  generalize hwa:wo.alloc (Obj.cells #[.slice none 0 0,.slice none 0 0] 38)=wa at *
  have hrw:rb<wa.heap.size:=blk_lt pr
  clear hwa
  go_wp2_with fail
  refine HC.mono ?_
  rintro e w4 ⟨rfl,k1,j1⟩
  have hkl:=nV_lt (.ok r)
  obtain ⟨ka,hka⟩:∃ n:Nat,nV (.ok r)=(n:Int):=⟨(nV (.ok r)).toNat,by omega⟩
  rw [hka] at hkl ⊢
  obtain ⟨a1,ha1e⟩:∃ s,rS rdN (.ok r)=s:=⟨_,rfl⟩
  rw [ha1e] at k1
  have pr4:=but_blk j1 pr (by show ¬ _=g; omega)
  have hrw4:=blk_lt pr4
  have HM1:Hid (nV (.ok r)=(ka:Int)∧rS rdN (.ok r)=a1):=⟨hka,ha1e⟩
  have HO4:Hid (Only g wo w4∧wo.heap[tb]?=some (Obj.cells #[.slice va P.length vc] 24)∧wo.heap.size=rb):=⟨HWA.out.1.trans j1,HWA.out.2,hrb⟩
  clear HC j1 pr HWA hka ha1e hrb
  go_wp2_with fail
  go_loopw [10] (fun iv wr=>∃ (j:Nat) (Q:List (Ac × Value)) (v:Value),iv=.int .i64 j∧j≤ka∧Q.length=j∧wr.heap[rb]?=some (Obj.cells #[v,.slice none 0 0] 38)∧OwnA w4.heap.size w4.heap.size Q v wr∧RS g l (stOf (rK rdA j a1)) wr∧(∀ xs r,rK rdA j a1=.ok (xs,r)→Q.map Prod.fst=xs)∧Two g rb w4 wr) (fun i _=>ka - (intOf i).toNat)
  case atStart=>exact ⟨0,[],.slice none 0 0,rfl,Nat.zero_le _,rfl,pr4,OwnA.nil _ _ _,by rw [(rK_zero rdA a1).1]; exact k1,(rK_zero rdA a1).2,Two.refl _ _ _⟩
  case round =>
  clear k1 pr4
  obtain ⟨j,Q,qv,rfl,hj,hQl,pr,hA,hR,hX,hW⟩:=hrel
  obtain ⟨qa,qc,rfl⟩:=slice_of_ownK hA.own
  have hQl1:Q.length≤j:=by omega
  have hsz4:=hW.size
  obtain ⟨pp,err,ce,cp,fe,hcs⟩:=err_ok hR
  have cr:wr.cell? ⟨rb,0,none⟩=some (.slice qa Q.length qc):=by rw [Lib.cell_of_heap pr]; rfl
  by_cases hgo:j<ka∧err=0
  case pos =>
    obtain ⟨hjl,rfl⟩:=hgo
    rcases hcs with ⟨_,r2,hr,_⟩ | ⟨h,_⟩
    case inr=>exact absurd rfl h
    obtain ⟨xs,hxs⟩:=stOf_ok hr
    have hQx:=hX xs r2 hxs
    rw [hr] at hR
    obtain ⟨m1,m2⟩:=rK_snoc rdA j a1 hxs
    have hjl':(j:Int)<ka:=by omega
    have hjd:decide ((j:Int)<ka)=true:=decide_eq_true hjl'
    have HCd:Hid (Calls Tryz.prog 19 #[.pointer (some ⟨g,0,none⟩)] wr.drew fun e w'=>∃ a v,e=.returned v∧valA a v wr.drew w'∧RS g l (stOf (rdA r2)) w'∧Only g wr.drew w'∧(∀ a' r',rdA r2=.ok (a',r')→a'=a)):=HAC.out r2 wr.drew hR
    have HNX2:Hid (stOf (rK rdA (j+1) a1)=stOf (rdA r2)∧∀ ys s,rK rdA (j+1) a1=.ok (ys,s)→∃ x,rdA r2=.ok (x,s)∧ys=Q.map Prod.fst++[x]):=by rw [hQx]; exact ⟨m1,m2⟩
    have HH:Hid (OwnA w4.heap.size w4.heap.size Q (.slice qa Q.length qc) wr∧Two g rb w4 wr∧Q.length=j):=⟨hA,hW,hQl⟩
    have hS0:(fun W:World=>(W.cell? ⟨rb,0,none⟩=some (.slice qa Q.length qc))) wr.drew:=cr
    clear hA hR hX hW m1 m2 hxs hr hQl hQx
    go_upto_region 12 with fail
    clear cr ce cp fe
    refine wp_region_L (fun W=>W.cell? ⟨rb,0,none⟩=some (.slice qa Q.length qc)) 7 (by kernel_rfl) 8 rfl ?_
    refine tk 0 ⟨some 46,.fieldAddr 38 (.tmp 8) 0,0, "ref.go:271",#[],none⟩ hS0 ?_;simp only [Act.put,sA,s0,sS]
    refine tk 1 ⟨some 47,.load 35 (.tmp 46),35, "ref.go:271",#[⟨0,.data⟩],none⟩ hS0 ?_;simp only [Act.put,sA,s0,sS]
    refine tk 2 ⟨some 48,.move (.tmp 4),59, "ref.go:271",#[],none⟩ hS0 ?_;simp only [Act.put,sA,s0,sS]
    refine wpAnyL_one' (i:=3) (o:=⟨some 49,.call ⟨.value (.func 19),#[.tmp 48],#[59]⟩,41, "ref.go:271",#[⟨2,.data⟩],none⟩) (by kernel_rfl) rfl rfl (fun KQ hK=>?_)
    go_simp
    refine HCd.out.mono ?_
    rintro e w7 ⟨x,xv,rfl,⟨ua,rn,uc,rfl,kU,kok⟩,k7,j7,hax⟩
    have j7':Only g wr w7:=(But.refl _ wr).drew.trans j7
    have pr7:=but_blk j7' pr (by show ¬ _=g; omega)
    have hS1:w7.cell? ⟨rb,0,none⟩=some (.slice qa Q.length qc):=by rw [Lib.cell_of_heap pr7]; rfl
    refine hK.out _ _ (fun _=>hS1) ?_
    clear hK
    have ba:Below w7.heap.size w7 (w7.alloc (Obj.cells #[.int .i64 x.look,.int .i64 x.to,.slice ua rn uc,.bool x.acc] 41)):=(Below.refl _ _).alloc (Nat.le_refl _) _
    have pra:=(ba.block _ (blk_lt pr7)).trans pr7
    have hSa:(w7.alloc (Obj.cells #[.int .i64 x.look,.int .i64 x.to,.slice ua rn uc,.bool x.acc] 41)).cell? ⟨rb,0,none⟩=some (.slice qa Q.length qc):=by rw [Lib.cell_of_heap pra]; rfl
    have hA7:OwnA w4.heap.size w4.heap.size Q (.slice qa Q.length qc) w7:=HH.out.1.keep (D:=fun k=>k=g) j7' (fun k (e:k=g)=>by omega) (fun k hk (e:k=g)=>by have:=(World.ownsRow.lt HH.out.1.own k hk).1; omega)
    have HOa:Hid (OwnA w4.heap.size w4.heap.size Q (.slice qa Q.length qc) (w7.alloc (Obj.cells #[.int .i64 x.look,.int .i64 x.to,.slice ua rn uc,.bool x.acc] 41))∧(w7.alloc (Obj.cells #[.int .i64 x.look,.int .i64 x.to,.slice ua rn uc,.bool x.acc] 41)).ownsRow w4.heap.size 41 4 (.slice qa Q.length qc) Q.length (Q.flatMap encAu)):=⟨hA7.next ba,(hA7.next ba).own⟩
    have HRa:Hid (RS g l (stOf (rdA r2)) (w7.alloc (Obj.cells #[.int .i64 x.look,.int .i64 x.to,.slice ua rn uc,.bool x.acc] 41))∧Two g rb w4 (w7.alloc (Obj.cells #[.int .i64 x.look,.int .i64 x.to,.slice ua rn uc,.bool x.acc] 41))∧(∀ a' r',rdA r2=.ok (a',r')→a'=x)):=⟨k7.next ba,(HH.out.2.1.only j7').next ba,hax⟩
    have HKU:Hid (KeepU wr.heap.size w7.heap.size x.red (.slice ua rn uc) (w7.alloc (Obj.cells #[.int .i64 x.look,.int .i64 x.to,.slice ua rn uc,.bool x.acc] 41))):=kU.keep (D:=fun _=>False) (But.of_next ba) (fun _ h=>h.elim)
    have HVL:Hid (∀ k,(Value.slice qa Q.length qc).ownBlock=some k→k<wr.heap.size):=fun k hk=>(World.ownsRow.lt HH.out.1.own k hk).2
    have HN4:∀ (i:Nat) (u:Value),[Value.int .i64 x.look,.int .i64 x.to,.slice ua rn uc,.bool x.acc][i]?=some u→(w7.alloc (Obj.cells #[.int .i64 x.look,.int .i64 x.to,.slice ua rn uc,.bool x.acc] 41)).cell? ((⟨w7.heap.size,0,none⟩:Addr).add i)=some u:=fun i u hi=>by
      rw [add_plain,Nat.zero_add]
      rcases i with _ | _ | _ | _ | i <;> simp at hi <;> subst hi <;> simp
    have hszn:w4.heap.size≤(w7.alloc (Obj.cells #[.int .i64 x.look,.int .i64 x.to,.slice ua rn uc,.bool x.acc] 41)).heap.size:=by have:=j7'.size; simp; omega
    clear kU hax k7 j7
    refine wpAnyL_one' (i:=4) (o:=⟨some 50,.buildSlice 35 1 #[(0,.tmp 49)],35, "ref.go:271",#[⟨3,.data⟩],none⟩) (by kernel_rfl) rfl rfl (fun KQ hK=>?_)
    go_simp
    refine hK.out _ _ (fun _=>hSa) ?_
    clear hK
    refine wpAnyL_one' (i:=5) (o:=⟨some 51,.call ⟨.builtin .append,#[.tmp 47,.tmp 50],#[35,35]⟩,35, "ref.go:271",#[⟨1,.data⟩,⟨4,.data⟩,⟨3,.chain⟩],none⟩) (by kernel_rfl) rfl rfl (fun KQ hK=>?_)
    rw [if_pos (by rfl)]
    refine wp_append_ownq (.tmp 47) (.tmp 50) 35 rfl w4.heap.size 41 ia _ 4 48 Tryz.underlying35 hia ha0 ha1 ha2 rfl (by decide) _ _ _ rfl HOa.out.2 ⟨w7.heap.size,0,none⟩ 1 [.int .i64 x.look,.int .i64 x.to,.slice ua rn uc,.bool x.acc] rfl rfl HN4 (by simp [Value.oneCell']) (by unfold maxLen; omega) (by omega) hszn ?_
    intro v' w8 hown' hgrow hat
    have hvb:∀ k,(Value.slice qa Q.length qc).ownBlock=some k→w4.heap.size≤k:=fun k hk=>(World.ownsRow.lt HOa.out.2 k hk).1
    have pr8:=(hgrow.block _ (blk_lt pra) (fun e=>by have:=hvb rb e.symm; omega)).trans pra
    have hS8:w8.cell? ⟨rb,0,none⟩=some (.slice qa Q.length qc):=by rw [Lib.cell_of_heap pr8]; rfl
    have hf8:w8.frozen? ⟨rb,0,none⟩=false:=Lib.frozen_of_heap pr8 _
    have hA8:=HOa.out.1.moreq (p:=(x,.slice ua rn uc)) HKU.out kok hsz4 (by simp) HVL.out hgrow (by unfold encAu; exact hown') (fun k hk=>hat k hk)
    obtain ⟨va',vc',rfl⟩:=slice_of_ownK hown'
    have HF:Hid ((Q++[(x,Value.slice ua rn uc)]).length=j+1∧(w8.setCell ⟨rb,0,none⟩ (.slice va' (Q.length+1) vc')).heap[rb]?=some (Obj.cells #[.slice va' (Q.length+1) vc',.slice none 0 0] 38)∧OwnA w4.heap.size w4.heap.size (Q++[(x,Value.slice ua rn uc)]) (.slice va' (Q.length+1) vc') (w8.setCell ⟨rb,0,none⟩ (.slice va' (Q.length+1) vc'))∧RS g l (stOf (rK rdA (j+1) a1)) (w8.setCell ⟨rb,0,none⟩ (.slice va' (Q.length+1) vc'))∧(∀ xs r,rK rdA (j+1) a1=.ok (xs,r)→(Q++[(x,Value.slice ua rn uc)]).map Prod.fst=xs)∧Two g rb w4 (w8.setCell ⟨rb,0,none⟩ (.slice va' (Q.length+1) vc'))):=by
      refine ⟨by rw [List.length_append,HH.out.2.2]; rfl,?_,?_,?_,fun ys s hy=>?_,(HRa.out.2.1.grown hgrow hvb).set _⟩
      · have h1:=blk_set (o:=0) pr8 (.slice va' (Q.length+1) vc')
        simpa using h1
      · exact hA8.keep (D:=fun k=>k=rb) ((But.refl _ w8).setCell _ _ (.inr rfl)) (fun k (e:k=rb)=>by omega) (fun k hk (e:k=rb)=>by have:=(World.ownsRow.lt hown' k hk).1; omega)
      · rw [HNX2.out.1]
        exact (HRa.out.1.grown hgrow (fun k hk=>by have:=hvb k hk; omega)).set _ (by omega)
      · obtain ⟨x',e1,e2⟩:=HNX2.out.2 ys s hy
        rw [e2,List.map_append,HRa.out.2.2 x' s e1]; rfl
    refine hK.out _ _ (fun _=>hS8) ?_
    clear hK hown' hgrow hat hA8
    simp only [Act.put,sA,s0,sS]
    refine tk 6 ⟨some 52,.fieldAddr 38 (.tmp 8) 0,0, "ref.go:271",#[⟨0,.phase⟩,⟨1,.phase⟩,⟨2,.phase⟩,⟨3,.phase⟩,⟨4,.phase⟩,⟨5,.phase⟩],none⟩ hS8 ?_;simp only [Act.put,sA,s0,sS]
    refine wpAnyL_one' (i:=7) (o:=⟨none,.store 35 (.tmp 52) (.tmp 51),0, "ref.go:271",#[⟨6,.data⟩,⟨5,.data⟩,⟨5,.chain⟩,⟨0,.phase⟩,⟨1,.phase⟩,⟨2,.phase⟩,⟨3,.phase⟩,⟨4,.phase⟩,⟨5,.phase⟩],none⟩) (by kernel_rfl) rfl rfl (fun KQ hK=>?_)
    go_simp
    refine hK.out _ _ (fun h=>absurd h (by omega)) ?_
    clear hK
    refine wpAnyL_done (by kernel_rfl) ?_ _
    clear hS0 hS1 hSa hS8 hf8 HOa HRa HCd HNX2 HN4 HH pr7 pra pr8 pr HKU HVL hA7 HN HAC HM HM1 HNX HO4 HO
    go_wp2_with fail
    exact ⟨⟨j+1,_,_,by go_num,by omega,HF.out⟩,by simp [intOf]; omega⟩
  have hend:j=ka∨∃ e,stOf (rK rdA j a1)=.error e:=by
    by_cases hin:j=ka
    · exact .inl hin
    · right
      rcases hcs with ⟨h,_⟩ | ⟨_,h⟩
      · exact absurd ⟨by omega,h⟩ hgo
      · exact ⟨err,h⟩
  obtain ⟨z1,z2⟩:=rK_end rdA a1 hj hend
  have HQX:Hid (∀ xs r,rK rdA ka a1=.ok (xs,r)→Q.map Prod.fst=xs):=fun xs r hx=>hX xs r (z2 xs r hx)
  rw [← z1] at hR
  have HC2:=HN.out _ _ hR
  have hcase:(decide ((j:Int)<ka)=false∧¬ (j:Int)<ka)∨(decide ((j:Int)<ka)=true∧(j:Int)<ka∧(err == 0)=false∧¬ err=0):=by
    by_cases h1:j<ka
    · have h2:¬ err=0:=fun h=>hgo ⟨h1,h⟩
      exact .inr ⟨decide_eq_true (by omega),by omega,beq_eq_false_iff_ne.2 h2,h2⟩
    · exact .inl ⟨decide_eq_false (by omega),by omega⟩
  have HA:Hid (OwnA w4.heap.size w4.heap.size Q (.slice qa Q.length qc) wr∧Two g rb w4 wr):=⟨hA,hW⟩
  clear hA hW hR hX hcs z1 z2 hend hgo cr hQl
  rcases hcase with ⟨g1,g2⟩ | ⟨g1,g2,g3,g4⟩
  all_goals
    go_upto_region 13 with fail
    clear ce cp fe
    (try clear g4)
    (try clear g3)
    clear g1 g2
    go_wp2_with fail
    refine HC2.mono ?_
    rintro e w5 ⟨rfl,k1,j1⟩
    obtain ⟨RA,hRA⟩:∃ RA,rK rdA ka a1=RA:=⟨_,rfl⟩
    rw [hRA] at k1 HQX ⊢
    have hkg:=nV_lt (stOf RA)
    obtain ⟨kg,hkge⟩:∃ n:Nat,nV (stOf RA)=(n:Int):=⟨(nV (stOf RA)).toNat,by omega⟩
    rw [hkge] at hkg ⊢
    obtain ⟨a3,ha3⟩:∃ s,rS rdN (stOf RA)=s:=⟨_,rfl⟩
    rw [ha3] at k1
    have pr5:=but_blk j1 pr (by show ¬ _=g; omega)
    have HM2:Hid (rK rdA ka a1=RA∧nV (stOf RA)=(kg:Int)∧rS rdN (stOf RA)=a3):=⟨hRA,hkge,ha3⟩
    have HA5:Hid (OwnA w4.heap.size w4.heap.size Q (.slice qa Q.length qc) w5∧Two g rb w4 w5):=⟨HA.out.1.keep (D:=fun k=>k=g) j1 (fun k (e:k=g)=>by omega) (fun k hk (e:k=g)=>by have:=(World.ownsRow.lt HA.out.1.own k hk).1; omega),HA.out.2.only j1⟩
    have hsz5:w4.heap.size≤w5.heap.size:=HA5.out.2.size
    clear HC2 j1 pr HA hRA hkge ha3
    go_wp2_with fail
    go_loopw [11] (fun iv wr=>∃ (j:Nat) (G:List (Int × Int)) (v:Value),iv=.int .i64 j∧j≤kg∧G.length=j∧wr.heap[rb]?=some (Obj.cells #[.slice qa Q.length qc,v] 38)∧OwnGs w5.heap.size G v wr∧RS g l (stOf (rK rdG j a3)) wr∧(∀ xs r,rK rdG j a3=.ok (xs,r)→G=xs)∧Two g rb w5 wr) (fun i _=>kg - (intOf i).toNat)
    case atStart=>exact ⟨0,[],.slice none 0 0,rfl,Nat.zero_le _,rfl,pr5,OwnGs.nil _ _,by rw [(rK_zero rdG a3).1]; exact k1,(rK_zero rdG a3).2,Two.refl _ _ _⟩
    case round =>
    clear k1 pr5
    obtain ⟨jg,G,gv,rfl,hj,hGl,pr,hG,hR,hX,hW⟩:=hrel
    obtain ⟨ga,gc,rfl⟩:=slice_of_ownK hG.1
    have hGl1:G.length≤jg:=by omega
    have hszg:=hW.size
    obtain ⟨pp,err,ce,cp,fe,hcs⟩:=err_ok hR
    have cr:wr.cell? ⟨rb,1,none⟩=some (.slice ga G.length gc):=by rw [Lib.cell_of_heap pr]; rfl
    by_cases hgo:jg<kg∧err=0
    case pos =>
      obtain ⟨hjl,rfl⟩:=hgo
      rcases hcs with ⟨_,r2,hr,_⟩ | ⟨h,_⟩
      case inr=>exact absurd rfl h
      obtain ⟨xs,hxs⟩:=stOf_ok hr
      have hGx:=hX xs r2 hxs
      rw [hr] at hR
      obtain ⟨m1,m2⟩:=rK_snoc rdG jg a3 hxs
      have hjl':(jg:Int)<kg:=by omega
      have hjd:decide ((jg:Int)<kg)=true:=decide_eq_true hjl'
      have HC3:=HN.out _ _ hR
      have HNX2:Hid (stOf (rK rdG (jg+1) a3)=stOf (rdG r2)∧∀ ys s,rK rdG (jg+1) a3=.ok (ys,s)→∃ x,rdG r2=.ok (x,s)∧ys=G++[x]):=by rw [hGx]; exact ⟨m1,m2⟩
      have HH:Hid (OwnGs w5.heap.size G (.slice ga G.length gc) wr∧Two g rb w5 wr∧G.length=jg):=⟨hG,hW,hGl⟩
      clear hG hR hX hW m1 m2 hxs hr hGl hGx cr
      go_upto_region 17 with fail
      clear ce cp fe
      go_wp2_with fail
      refine HC3.mono ?_
      rintro e w6 ⟨rfl,k6,j6⟩
      have hxl:=nV_lt (.ok r2)
      obtain ⟨x,hx⟩:∃ x,nV (.ok r2)=x:=⟨_,rfl⟩
      rw [hx] at hxl ⊢
      obtain ⟨t1,ht1⟩:∃ s,rS rdN (.ok r2)=s:=⟨_,rfl⟩
      rw [ht1] at k6
      have pr6:=but_blk j6 pr (by show ¬ _=g; omega)
      have bg:Below w6.heap.size w6 (w6.alloc (Obj.cells #[.int .i64 x,.int .i64 0] 65)):=(Below.refl _ _).alloc (Nat.le_refl _) _
      have pg:(w6.alloc (Obj.cells #[.int .i64 x,.int .i64 0] 65)).heap[w6.heap.size]?=some (Obj.cells #[.int .i64 x,.int .i64 0] 65):=heap_alloc_new _ _
      have prg:=(bg.block _ (blk_lt pr6)).trans pr6
      have hG6:OwnGs w5.heap.size G (.slice ga G.length gc) w6:=⟨own_only HH.out.1.1 j6 (by omega),HH.out.1.2⟩
      have HG7:Hid (OwnGs w5.heap.size G (.slice ga G.length gc) (w6.alloc (Obj.cells #[.int .i64 x,.int .i64 0] 65))∧Two g rb w5 (w6.alloc (Obj.cells #[.int .i64 x,.int .i64 0] 65))):=⟨⟨ownsRow_below4 hG6.1 bg,hG6.2⟩,(HH.out.2.1.only j6).next bg⟩
      have HC4:=HN.out _ _ (k6.next bg)
      have hz6:=j6.size
      have HMG:Hid (nV (.ok r2)=x∧rS rdN (.ok r2)=t1):=⟨hx,ht1⟩
      have HVG:Hid (∀ k,(Value.slice ga G.length gc).ownBlock=some k→k<w6.heap.size):=fun k hk=>(World.ownsRow.lt hG6.1 k hk).2
      clear HC3 j6 k6 pr pr6 bg hG6 hx ht1
      go_upto_region 18 with fail
      obtain ⟨gb,hgb⟩:∃ gb,w6.heap.size=gb:=⟨_,rfl⟩
      rw [hgb] at pg HVG ⊢
      have hgb2:w5.heap.size≤gb:=by omega
      clear hgb hz6
      generalize w6.alloc (Obj.cells #[.int .i64 x,.int .i64 0] 65)=w7 at *
      go_wp2_with fail
      refine HC4.mono ?_
      rintro e w8 ⟨rfl,k8,j8⟩
      have hyl:=nV_lt t1
      obtain ⟨y,hy⟩:∃ y,nV t1=y:=⟨_,rfl⟩
      rw [hy] at hyl ⊢
      obtain ⟨t2,ht2⟩:∃ s,rS rdN t1=s:=⟨_,rfl⟩
      rw [ht2] at k8
      have pr8:=but_blk j8 prg (by show ¬ _=g; omega)
      have pg8:=but_blk j8 pg (by show ¬ _=g; omega)
      have c8:w8.cell? ⟨gb,1,none⟩=some (.int .i64 0):=by rw [Lib.cell_of_heap pg8]; rfl
      have f8:w8.frozen? ⟨gb,1,none⟩=false:=Lib.frozen_of_heap pg8 _
      have pg9:=blk_set (o:=1) pg8 (.int .i64 y)
      simp at pg9
      have pr9:=set_blk (o:=1) (v:=.int .i64 y) pr8 (show rb≠gb by omega)
      have k9:=k8.set (o:=1) (j:=gb) (.int .i64 y) (by omega)
      have hG8:OwnGs w5.heap.size G (.slice ga G.length gc) w8:=⟨own_only HG7.out.1.1 j8 (by omega),HG7.out.1.2⟩
      have hG9:OwnGs w5.heap.size G (.slice ga G.length gc) (w8.setCell ⟨gb,1,none⟩ (.int .i64 y)):=⟨ownsRow_keep (D:=fun k=>k=gb) hG8.1 ((But.refl _ w8).setCell _ _ (.inr rfl)) (fun k hk (e:k=gb)=>by have:=HVG.out k hk; omega),hG8.2⟩
      have hW9:Two g rb w5 (w8.setCell ⟨gb,1,none⟩ (.int .i64 y)):=But.setCell (HG7.out.2.only j8) _ _ (.inl hgb2)
      have hmath:=go_math r2 t1 HMG.out.2
      rw [HMG.out.1,hy,ht2] at hmath
      have HMT:Hid (rdG r2=goO (x,y) t2):=hmath
      have HG9:Hid (OwnGs w5.heap.size G (.slice ga G.length gc) (w8.setCell ⟨gb,1,none⟩ (.int .i64 y))∧Two g rb w5 (w8.setCell ⟨gb,1,none⟩ (.int .i64 y))∧RS g l t2 (w8.setCell ⟨gb,1,none⟩ (.int .i64 y))):=⟨hG9,hW9,k9⟩
      clear HC4 j8 k8 k9 prg pg pr8 pg8 hG8 hG9 hW9 HG7 HMG hmath hy ht2 HVG
      go_upto_region 19 with fail
      clear c8 f8
      generalize w8.setCell ⟨gb,1,none⟩ (.int .i64 y)=w9 at *
      have d0:w9.cell? ⟨gb,0,none⟩=some (.int .i64 x):=by rw [Lib.cell_of_heap pg9]; rfl
      have d1:w9.cell? ⟨gb,1,none⟩=some (.int .i64 y):=by rw [Lib.cell_of_heap pg9]; rfl
      have d2:w9.cell? ⟨rb,1,none⟩=some (.slice ga G.length gc):=by rw [Lib.cell_of_heap pr9]; rfl
      have ba:Below w9.heap.size w9 (w9.alloc (Obj.cells #[.int .i64 x,.int .i64 y] 65)):=(Below.refl _ _).alloc (Nat.le_refl _) _
      have pra:=(ba.block _ (blk_lt pr9)).trans pr9
      have HON:Hid ((w9.alloc (Obj.cells #[.int .i64 x,.int .i64 y] 65)).ownsRow w5.heap.size 65 2 (.slice ga G.length gc) G.length (G.flatMap encP)):=ownsRow_below4 HG9.out.1.1 ba
      have HRA2:Hid (RS g l t2 (w9.alloc (Obj.cells #[.int .i64 x,.int .i64 y] 65))∧Two g rb w5 (w9.alloc (Obj.cells #[.int .i64 x,.int .i64 y] 65))∧(∀ y∈G,okP y)):=⟨HG9.out.2.2.next ba,HG9.out.2.1.next ba,HG9.out.1.2⟩
      have HNW:∀ (i:Nat) (u:Value),[Value.int .i64 x,.int .i64 y][i]?=some u→(w9.alloc (Obj.cells #[.int .i64 x,.int .i64 y] 65)).cell? ((⟨w9.heap.size,0,none⟩:Addr).add i)=some u:=fun i u hi=>by
        rw [add_plain,Nat.zero_add]
        rcases i with _ | _ | i <;> simp at hi <;> subst hi <;> simp
      have hszn:w5.heap.size≤(w9.alloc (Obj.cells #[.int .i64 x,.int .i64 y] 65)).heap.size:=HRA2.out.2.1.size
      clear HG9 ba
      go_wp2_with (at_builtin; refine wpList_append_own_at _ rfl (.tmp 74) (.tmp 76) 36 rfl w5.heap.size 65 ig _ 2 16 Tryz.underlying36 hig hg0 hg1 hg2 rfl (by omega) _ _ _ rfl HON.out _ 1 1 [.int .i64 x,.int .i64 y] rfl rfl HNW (by simp [Value.oneCell']) (by unfold maxLen; omega) (by omega) hszn ?_)
      intro v' w10 hown' hgrow _ hat
      have hvb:∀ k,(Value.slice ga G.length gc).ownBlock=some k→w5.heap.size≤k:=fun k hk=>(World.ownsRow.lt HON.out k hk).1
      have pr10:=(hgrow.block _ (blk_lt pra) (fun e=>by have:=hvb rb e.symm; omega)).trans pra
      have c10:w10.cell? ⟨rb,1,none⟩=some (.slice ga G.length gc):=by rw [Lib.cell_of_heap pr10]; rfl
      have f10:w10.frozen? ⟨rb,1,none⟩=false:=Lib.frozen_of_heap pr10 _
      obtain ⟨va',vc',rfl⟩:=slice_of_ownK hown'
      have HF:Hid ((G++[(x,y)]).length=jg+1∧(w10.setCell ⟨rb,1,none⟩ (.slice va' (G.length+1) vc')).heap[rb]?=some (Obj.cells #[.slice qa Q.length qc,.slice va' (G.length+1) vc'] 38)∧OwnGs w5.heap.size (G++[(x,y)]) (.slice va' (G.length+1) vc') (w10.setCell ⟨rb,1,none⟩ (.slice va' (G.length+1) vc'))∧RS g l (stOf (rK rdG (jg+1) a3)) (w10.setCell ⟨rb,1,none⟩ (.slice va' (G.length+1) vc'))∧(∀ xs r,rK rdG (jg+1) a3=.ok (xs,r)→G++[(x,y)]=xs)∧Two g rb w5 (w10.setCell ⟨rb,1,none⟩ (.slice va' (G.length+1) vc'))):=by
        refine ⟨by rw [List.length_append,HH.out.2.2]; rfl,?_,⟨?_,fun z hz=>?_⟩,?_,fun ys s hys=>?_,(HRA2.out.2.1.grown hgrow hvb).set _⟩
        · have h1:=blk_set (o:=1) pr10 (.slice va' (G.length+1) vc')
          simpa using h1
        · have h1:OwnP 65 w5.heap.size (G++[(x,y)]) (.slice va' (G.length+1) vc') w10:=by simpa [OwnP,encP] using hown'
          exact ownsRow_keep (D:=fun k=>k=rb) h1 ((But.refl _ w10).setCell _ _ (.inr rfl)) (fun k hk (e:k=rb)=>by have:=(World.ownsRow.lt hown' k hk).1; omega)
        · rcases List.mem_append.1 hz with hz | hz
          · exact HRA2.out.2.2 z hz
          · rw [List.mem_singleton.1 hz]; unfold okP i64B; simp only; omega
        · rw [HNX2.out.1,HMT.out]
          have e:stOf (goO (x,y) t2)=t2:=by cases t2 <;> rfl
          rw [e]
          exact (HRA2.out.1.grown hgrow (fun k hk=>by have:=hvb k hk; omega)).set _ (by omega)
        · obtain ⟨x',e1,e2⟩:=HNX2.out.2 ys s hys
          rw [HMT.out] at e1
          rw [e2]
          cases t2 with
          | error e=>simp only [goO] at e1; cases e1
          | ok s'=>simp only [goO,Except.ok.injEq,Prod.mk.injEq] at e1; rw [← e1.1]
      clear hown' hgrow hat hvb HON HRA2 HNW d0 d1 d2 pra pr9 pr10 pg9 HH HNX2 HMT HN HAC HM HM1 HNX HO4 HO HQX HM2 HA5
      go_wp2_with fail
      exact ⟨⟨jg+1,_,_,by go_num,by omega,HF.out⟩,by simp [intOf]; omega⟩
    have hend:jg=kg∨∃ e,stOf (rK rdG jg a3)=.error e:=by
      by_cases hin:jg=kg
      · exact .inl hin
      · right
        rcases hcs with ⟨h,_⟩ | ⟨_,h⟩
        · exact absurd ⟨by omega,h⟩ hgo
        · exact ⟨err,h⟩
    obtain ⟨z1,z2⟩:=rK_end rdG a3 hj hend
    have hGX:∀ xs r,rK rdG kg a3=.ok (xs,r)→G=xs:=fun xs r hx=>hX xs r (z2 xs r hx)
    rw [← z1] at hR
    have hrow:=row_math r (Q.map Prod.fst) G a1 a3 RA (rK rdG kg a3) HM1.out.2 (by rw [HM1.out.1]; exact HM2.out.1) HM2.out.2.2 (by rw [HM2.out.2.1]; rfl) HQX.out hGX
    have hst:stOf (rdR r)=stOf (rK rdG kg a3):=by rw [hrow]; cases stOf (rK rdG kg a3) <;> rfl
    have hcase:(decide ((jg:Int)<kg)=false∧¬ (jg:Int)<kg)∨(decide ((jg:Int)<kg)=true∧(jg:Int)<kg∧(err == 0)=false∧¬ err=0):=by
      by_cases h1:jg<kg
      · have h2:¬ err=0:=fun h=>hgo ⟨h1,h⟩
        exact .inr ⟨decide_eq_true (by omega),by omega,beq_eq_false_iff_ne.2 h2,h2⟩
      · exact .inl ⟨decide_eq_false (by omega),by omega⟩
    have hA9:OwnA w4.heap.size w4.heap.size Q (.slice qa Q.length qc) wr:=HA5.out.1.keep hW (fun k e=>by omega) (fun k hk e=>by have:=(World.ownsRow.lt HA5.out.1.own k hk).1; omega)
    have hKR:KeepR rb wr.heap.size ⟨Q.map Prod.fst,G⟩ (.slice qa Q.length qc) (.slice ga G.length gc) wr:=hA9.keepRw hG.1 (by omega) (by omega) hG.2 (by omega) (by omega) (by omega)
    have hT4:Two g rb w4 wr:=But.trans HA5.out.2 hW
    have hrbe:=HO4.out.2.2
    have hOo:Only g wo wr:=⟨hT4.os.trans HO4.out.1.os,hT4.tape.trans HO4.out.1.tape,hT4.output.trans HO4.out.1.output,Nat.le_trans HO4.out.1.size hT4.size,fun k hk hd=>(hT4.block k (Nat.lt_of_lt_of_le hk HO4.out.1.size) (fun e=>e.elim hd (fun e=>by omega))).trans (HO4.out.1.block k hk hd)⟩
    have hO9:OwnR w3.heap.size w3.heap.size P (.slice va P.length vc) wr:=HO.out.1.keep (D:=fun k=>k=g) hOo (fun k (e:k=g)=>by omega) (fun k hk (e:k=g)=>by have:=(World.ownsRow.lt HO.out.1.own k hk).1; omega)
    have pt9:wr.heap[tb]?=some (Obj.cells #[.slice va P.length vc] 24):=but_blk hOo HO4.out.2.1 (by show ¬ _=g; omega)
    have hW9:Two g tb w3 wr:=HO.out.2.1.only hOo
    have HVL:Hid (∀ k,(Value.slice va P.length vc).ownBlock=some k→k<rb):=fun k hk=>by have:=(World.ownsRow.lt HO.out.1.own k hk).2; omega
    have c0:wr.cell? ⟨rb,0,none⟩=some (.slice qa Q.length qc):=by rw [Lib.cell_of_heap pr]; rfl
    have ct:wr.cell? ⟨tb,0,none⟩=some (.slice va P.length vc):=by rw [Lib.cell_of_heap pt9]; rfl
    have ba:Below wr.heap.size wr (wr.alloc (Obj.cells #[.slice qa Q.length qc,.slice ga G.length gc] 38)):=(Below.refl _ _).alloc (Nat.le_refl _) _
    have pta:=(ba.block _ (blk_lt pt9)).trans pt9
    have HKR:Hid (KeepR rb wr.heap.size ⟨Q.map Prod.fst,G⟩ (.slice qa Q.length qc) (.slice ga G.length gc) (wr.alloc (Obj.cells #[.slice qa Q.length qc,.slice ga G.length gc] 38))):=hKR.keep (D:=fun _=>False) (But.of_next ba) (fun _ h=>h.elim)
    have HOa:Hid (OwnR w3.heap.size w3.heap.size P (.slice va P.length vc) (wr.alloc (Obj.cells #[.slice qa Q.length qc,.slice ga G.length gc] 38))∧Two g tb w3 (wr.alloc (Obj.cells #[.slice qa Q.length qc,.slice ga G.length gc] 38))∧RS g l (stOf (rK rdG kg a3)) (wr.alloc (Obj.cells #[.slice qa Q.length qc,.slice ga G.length gc] 38))):=⟨hO9.next ba,hW9.next ba,hR.next ba⟩
    have HON:Hid ((wr.alloc (Obj.cells #[.slice qa Q.length qc,.slice ga G.length gc] 38)).ownsRow w3.heap.size 38 2 (.slice va P.length vc) P.length (P.flatMap encRv)):=HOa.out.1.own
    have HNW:∀ (i:Nat) (u:Value),[Value.slice qa Q.length qc,.slice ga G.length gc][i]?=some u→(wr.alloc (Obj.cells #[.slice qa Q.length qc,.slice ga G.length gc] 38)).cell? ((⟨wr.heap.size,0,none⟩:Addr).add i)=some u:=fun i u hi=>by
      rw [add_plain,Nat.zero_add]
      rcases i with _ | _ | i <;> simp at hi <;> subst hi <;> simp
    have hszn:w3.heap.size≤(wr.alloc (Obj.cells #[.slice qa Q.length qc,.slice ga G.length gc] 38)).heap.size:=HOa.out.2.1.size
    have HNY:Hid (stOf (rK rdR (i+1) st1)=stOf (rK rdG kg a3)∧∀ ys s,rK rdR (i+1) st1=.ok (ys,s)→P.map Prod.fst++[⟨Q.map Prod.fst,G⟩]=ys):=by
      refine ⟨HNX.out.1.trans hst,fun ys s hys=>?_⟩
      obtain ⟨x,e1,e2⟩:=HNX.out.2 ys s hys
      rw [hrow] at e1
      rw [e2]
      cases hz:stOf (rK rdG kg a3) with
      | error e=>rw [hz] at e1; simp only [rowO] at e1; cases e1
      | ok s'=>rw [hz] at e1; simp only [rowO,Except.ok.injEq,Prod.mk.injEq] at e1; rw [← e1.1]
    have HPL:Hid (P.length=i):=HO.out.2.2
    have HRB:Hid (rb<wr.heap.size∧tb<w3.heap.size):=⟨blk_lt pr,htz⟩
    clear hA9 hKR hT4 hOo hO9 hW9 hG hR hX hGX hW hrow hst hcs z1 z2 hend hgo pt9 hrbe ba HO HO4 HA5 HQX HM2 HM1 HNX hGl
    rcases hcase with ⟨g1,g2⟩ | ⟨g1,g2,g3,g4⟩
    all_goals
      go_wp2_with (at_builtin; refine wpList_append_own_at _ rfl (.tmp 80) (.tmp 82) 22 rfl w3.heap.size 38 ir _ 2 48 Tryz.underlying22 hir hr0 hr1 hr2 rfl (by omega) _ _ _ rfl HON.out _ 1 1 [.slice qa Q.length qc,.slice ga G.length gc] rfl rfl HNW (by simp [Value.oneCell']) (by unfold maxLen; omega) (by omega) hszn ?_)
      intro v' w10 hown' hgrow _ hat
      have hvb:∀ k,(Value.slice va P.length vc).ownBlock=some k→w3.heap.size≤k:=fun k hk=>(World.ownsRow.lt HON.out k hk).1
      have hrx:=HRB.out
      have pt10:=(hgrow.block _ (blk_lt pta) (fun e=>by have:=hvb tb e.symm; omega)).trans pta
      have c10:w10.cell? ⟨tb,0,none⟩=some (.slice va P.length vc):=by rw [Lib.cell_of_heap pt10]; rfl
      have f10:w10.frozen? ⟨tb,0,none⟩=false:=Lib.frozen_of_heap pt10 _
      have hO10:=HOa.out.1.more (p:=(⟨Q.map Prod.fst,G⟩,(.slice qa Q.length qc,.slice ga G.length gc))) HKR.out hrs (by simp) HVL.out hgrow (by unfold encRv; exact hown') (by simpa using hat)
      obtain ⟨va',vc',rfl⟩:=slice_of_ownK hown'
      have HF:Hid ((P++[((⟨Q.map Prod.fst,G⟩:Rw),(Value.slice qa Q.length qc,Value.slice ga G.length gc))]).length=i+1∧(w10.setCell ⟨tb,0,none⟩ (.slice va' (P.length+1) vc')).heap[tb]?=some (Obj.cells #[.slice va' (P.length+1) vc'] 24)∧OwnR w3.heap.size w3.heap.size (P++[((⟨Q.map Prod.fst,G⟩:Rw),(Value.slice qa Q.length qc,Value.slice ga G.length gc))]) (.slice va' (P.length+1) vc') (w10.setCell ⟨tb,0,none⟩ (.slice va' (P.length+1) vc'))∧RS g l (stOf (rK rdR (i+1) st1)) (w10.setCell ⟨tb,0,none⟩ (.slice va' (P.length+1) vc'))∧(∀ xs r,rK rdR (i+1) st1=.ok (xs,r)→(P++[((⟨Q.map Prod.fst,G⟩:Rw),(Value.slice qa Q.length qc,Value.slice ga G.length gc))]).map Prod.fst=xs)∧Two g tb w3 (w10.setCell ⟨tb,0,none⟩ (.slice va' (P.length+1) vc'))):=by
        refine ⟨by rw [List.length_append,HPL.out]; rfl,?_,?_,?_,fun ys s hy=>by rw [List.map_append]; exact HNY.out.2 ys s hy,(HOa.out.2.1.grown hgrow hvb).set _⟩
        · have h1:=blk_set (o:=0) pt10 (.slice va' (P.length+1) vc')
          simpa using h1
        · exact hO10.keep (D:=fun k=>k=tb) ((But.refl _ w10).setCell _ _ (.inr rfl)) (fun k (e:k=tb)=>by omega) (fun k hk (e:k=tb)=>by have:=(World.ownsRow.lt hown' k hk).1; omega)
        · rw [HNY.out.1]
          exact (HOa.out.2.2.grown hgrow (fun k hk=>by have:=hvb k hk; omega)).set _ (by omega)
      clear hown' hgrow hat hO10 hvb HON HOa HKR HNW HVL HNY HPL HRB HN HAC HM c0 ct cr ce cp fe pta pr pt10
      go_wp2_with fail
      exact ⟨⟨i+1,_,_,by go_num,by omega,HF.out⟩,by simp [intOf]; omega⟩
structure DW (B g:Nat) (ns:List Int) (W:World):Prop where
  hB:B≤g
  blk:∃ cs:Array Value,W.heap[g]?=some (.cells cs 76 (0,0))∧cs.size=2
  bad:W.cell? ⟨g,1,none⟩=some (.bool (badN ns))
  buf:∃ bs v,W.cell? ⟨g,0,none⟩=some v∧OwnB B bs v W∧bs.length≤2 * ns.length∧(badN ns=false→bs=encN ns)
def inD (g:Nat) (W:World) (k:Nat):Prop:=k=g∨∃ v,W.cell? ⟨g,0,none⟩=some v∧v.ownBlock=some k
def DWrote (g:Nat) (W W':World):Prop:=But (inD g W) W W'∧∀ k,inD g W' k→inD g W k∨W.heap.size≤k
theorem DWrote.refl (g:Nat) (W:World):DWrote g W W:=⟨But.refl _ _,fun _ h=>.inl h⟩
theorem DWrote.trans {g:Nat} {a b c:World} (h:DWrote g a b) (k:DWrote g b c):DWrote g a c :=
  ⟨⟨k.1.os.trans h.1.os,k.1.tape.trans h.1.tape,k.1.output.trans h.1.output,Nat.le_trans h.1.size k.1.size,fun i hi hd=>(k.1.block i (Nat.lt_of_lt_of_le hi h.1.size) (fun hb=>(h.2 i hb).elim hd (by omega))).trans (h.1.block i hi hd)⟩,
   fun i hi=>(k.2 i hi).elim (h.2 i) (fun h'=>.inr (Nat.le_trans h.1.size h'))⟩
theorem inD_same {g:Nat} {W W':World} (h:W'.heap[g]?=W.heap[g]?) (k:Nat):inD g W' k↔inD g W k:=by
  unfold inD
  have e:W'.cell? ⟨g,0,none⟩=W.cell? ⟨g,0,none⟩:=World.cell?_of_block h
  simp only [e]
theorem DW.lt {B g:Nat} {ns:List Int} {W:World} (h:DW B g ns W):g<W.heap.size:=by
  obtain ⟨cs,hc,_⟩:=h.blk
  exact (Array.getElem?_eq_some_iff.1 hc).1
theorem DW.inLt {B g:Nat} {ns:List Int} {W:World} (h:DW B g ns W) {k:Nat} (hk:inD g W k):B≤k∧k<W.heap.size:=by
  rcases hk with rfl | ⟨v,hv,hk⟩
  · exact ⟨h.hB,h.lt⟩
  · obtain ⟨bs,u,hu,ho,_⟩:=h.buf
    rw [hv] at hu
    cases hu
    exact World.ownsRow.lt ho k hk
theorem DW.keep {B g:Nat} {ns:List Int} {W W':World} {D:Nat→Prop} (h:DW B g ns W) (hb:But D W W') (hd:∀ k,inD g W k→¬ D k):DW B g ns W':=by
  have hg:W'.heap[g]?=W.heap[g]?:=hb.block g h.lt (hd g (.inl rfl))
  have e:∀ o,W'.cell? ⟨g,o,none⟩=W.cell? ⟨g,o,none⟩:=fun o=>World.cell?_of_block hg
  refine ⟨h.hB,by rw [hg]; exact h.blk,by rw [e]; exact h.bad,?_⟩
  obtain ⟨bs,v,hv,ho,h1,h2⟩:=h.buf
  exact ⟨bs,v,by rw [e]; exact hv,ownsRow_keep ho hb (fun k hk=>hd k (.inr ⟨v,hv,hk⟩)),h1,h2⟩
theorem DW.next {B g:Nat} {ns:List Int} {W W':World} (h:DW B g ns W) (hb:Below W.heap.size W W'):DW B g ns W' :=
  h.keep (D:=fun _=>False) (But.of_next hb) (fun _ _ h=>h)
theorem DW.wrote {B g:Nat} {ns:List Int} {W W':World} (h:DW B g ns W) (hb:Below W.heap.size W W'):DWrote g W W' :=
  ⟨But.of_next hb,fun k hk=>.inl ((inD_same (hb.block g h.lt) k).1 hk)⟩
theorem DW.below {B g:Nat} {ns:List Int} {W W':World} (h:DW B g ns W) (hw:DWrote g W W') (hB:B≤W.heap.size):Below B W W' :=
  hw.1.below hB (fun _ hk=>(h.inLt hk).1)
theorem OwnB.setD {B g o:Nat} {l:List UInt8} {v u:Value} {W:World} {cs:Array Value} (h:OwnB B l v W) (hg:W.heap[g]?=some (.cells cs 76 (0,0))):OwnB B l v (W.setCell ⟨g,o,none⟩ u):=by
  have hne:=Lib.ownBlock_ne h hg (by decide)
  exact ownsRow_keep (D:=fun k=>k=g) h ((But.refl _ W).setCell _ _ (.inr rfl)) (fun j hj e=>hne (by rw [hj,e]))
theorem DW.setBad {B g:Nat} {ns ms:List Int} {W:World} (h:DW B g ns W) (hm:badN ms=true) (hl:ns.length≤ms.length) :
    DW B g ms (W.setCell ⟨g,1,none⟩ (.bool true))∧DWrote g W (W.setCell ⟨g,1,none⟩ (.bool true)):=by
  obtain ⟨cs,hc,hs⟩:=h.blk
  obtain ⟨bs,v,hv,ho,h1,h2⟩:=h.buf
  refine ⟨⟨h.hB,⟨_,blk_set hc _,by simp [hs]⟩,by rw [hm]; exact cell_set_eq hc (by omega) _,bs,v,by rw [cell_set_ne _ _ _ _ _ (by omega)]; exact hv,ho.setD hc,by omega,fun e=>(by rw [hm] at e; cases e)⟩,(But.refl _ W).setCell _ _ (.inr (.inl rfl)),fun k hk=>.inl ?_⟩
  rcases hk with rfl | ⟨u,hu,hk⟩
  · exact .inl rfl
  · rw [cell_set_ne _ _ _ _ _ (by omega)] at hu; exact .inr ⟨u,hu,hk⟩
theorem DW.put {B g:Nat} {ns ms:List Int} {W W1:World} {v v':Value} {l:List UInt8} (h:DW B g ns W) (hv:W.cell? ⟨g,0,none⟩=some v) (hgr:W.grownBy W1 v.ownBlock) (ho:OwnB B l v' W1)
    (hat:v'.ownBlock=v.ownBlock∨v'.ownBlock=some W.heap.size) (hbd:badN ms=badN ns) (hl:l.length≤2 * ms.length) (hm:badN ms=false→l=encN ms) :
    DW B g ms (W1.setCell ⟨g,0,none⟩ v')∧DWrote g W (W1.setCell ⟨g,0,none⟩ v'):=by
  obtain ⟨cs,hc,hs⟩:=h.blk
  obtain ⟨bs,v0,hv0,ho0,_⟩:=h.buf
  obtain rfl:v=v0:=by rw [hv] at hv0; exact Option.some.inj hv0
  have hne:=Lib.ownBlock_ne ho0 hc (by decide)
  have hc1:W1.heap[g]?=some (.cells cs 76 (0,0)):=(hgr.block g h.lt (fun e=>hne e.symm)).trans hc
  have e1:∀ o,W1.cell? ⟨g,o,none⟩=W.cell? ⟨g,o,none⟩:=fun o=>World.cell?_of_block (hgr.block g h.lt (fun e=>hne e.symm))
  refine ⟨⟨h.hB,⟨_,blk_set hc1 _,by simp [hs]⟩,by rw [cell_set_ne _ _ _ _ _ (by omega),e1,hbd]; exact h.bad,l,v',cell_set_eq hc1 (by omega) _,ho.setD hc1,hl,hm⟩,?_,fun k hk=>?_⟩
  · exact But.setCell (D:=inD g W) ⟨hgr.os,hgr.tape,hgr.output,hgr.size,fun k hk hd=>hgr.block k hk (fun e=>hd (.inr ⟨v,hv,e.symm⟩))⟩ _ _ (.inr (.inl rfl))
  · rcases hk with rfl | ⟨u,hu,hk⟩
    · exact .inl (.inl rfl)
    · rw [cell_set_eq hc1 (by omega)] at hu
      cases hu
      rcases hat with e | e
      · exact .inl (.inr ⟨v,hv,by rw [← e]; exact hk⟩)
      · rw [e] at hk; cases hk; exact .inr (Nat.le_refl _)
theorem DW.one {B:Nat} (W:World) (hB:B≤W.heap.size):DW B W.heap.size [] (W.alloc (.cells #[.slice none 0 0,.bool false] 76)):=by
  have hb:(W.alloc (.cells #[.slice none 0 0,.bool false] 76)).heap[W.heap.size]?=some (.cells #[.slice none 0 0,.bool false] 76 (0,0)):=heap_alloc_new W _
  exact ⟨hB,⟨_,hb,rfl⟩,by rw [Lib.cell_of_heap hb]; rfl,[],.slice none 0 0,by rw [Lib.cell_of_heap hb]; rfl,World.ownsRow_nil _ _ _ _,by simp,fun _=>rfl⟩
theorem DWrote.blk {g k:Nat} {W W':World} {ob:Obj} (h:DWrote g W W') (hk:W.heap[k]?=some ob) (hn:¬ inD g W k):W'.heap[k]?=some ob:=(h.1.block k (Array.getElem?_eq_some_iff.1 hk).1 hn).trans hk
theorem DWrote.notIn {g k:Nat} {W W':World} (h:DWrote g W W') (hn:¬ inD g W k) (hk:k<W.heap.size):¬ inD g W' k:=fun hin=>(h.2 k hin).elim hn (by omega)
set_option maxRecDepth 100000 in
set_option maxHeartbeats 2000000 in
theorem rwnum_any {B g:Nat} {ns:List Int} {W:World} (n:Int) (h:DW B g ns W) (hB:B≤W.heap.size) (hb:ns.length+1≤70368744177664) :
    Calls Tryz.prog 22 #[.pointer (some ⟨g,0,none⟩),.int .i64 n] W fun e w'=>e=.returned (.tuple #[])∧DW B g (ns++[n]) w'∧DWrote g W w':=by
  obtain ⟨i0,hi,hz0,hz1,hz2⟩:=info_parts infoU8
  obtain ⟨cs,hc,hs⟩:=h.blk
  have hf1:W.frozen? ⟨g,1,none⟩=false:=Lib.frozen_of_heap hc _
  have hf0:W.frozen? ⟨g,0,none⟩=false:=Lib.frozen_of_heap hc _
  have hcb:=h.bad
  by_cases hbad:n<0∨n > 65535
  · have hm:badN (ns++[n])=true:=by rw [badN_append]; simp [badN,hbad]
    have HS:Hid (DW B g (ns++[n]) (W.setCell ⟨g,1,none⟩ (.bool true))∧DWrote g W (W.setCell ⟨g,1,none⟩ (.bool true))):=h.setBad hm (by simp)
    clear h hc hs hf0 hm
    by_cases hneg:n<0
    · have hd1:decide (n<0)=true:=decide_eq_true hneg
      go_enter Tryz.func22,Tryz.ntmps22
      go_wp2_with fail
      refine bodyPost_ret (results_none rfl _ _ _) rfl ?_
      exact ⟨rfl,HS.out⟩
    · have hd1:decide (n<0)=false:=decide_eq_false hneg
      have hgt:n > 65535:=hbad.resolve_left hneg
      have hd2:decide (n > 65535)=true:=decide_eq_true hgt
      go_enter Tryz.func22,Tryz.ntmps22
      go_wp2_with fail
      refine bodyPost_ret (results_none rfl _ _ _) rfl ?_
      exact ⟨rfl,HS.out⟩
  have hneg:¬ n<0:=fun h=>hbad (.inl h)
  have hgt:¬ n > 65535:=fun h=>hbad (.inr h)
  have hd1:decide (n<0)=false:=decide_eq_false hneg
  have hd2:decide (n > 65535)=false:=decide_eq_false hgt
  obtain ⟨bs,v,hv,hown,hbl,hbe⟩:=h.buf
  obtain ⟨va,vc,rfl⟩:=slice_of_ownK hown
  have HU:Hid (enc2 n=[UInt8.ofNat ((n / 256) % 256).toNat,UInt8.ofNat (n % 256).toNat]∧([UInt8.ofNat ((n / 256) % 256).toNat,UInt8.ofNat (n % 256).toNat].map encU8=[.int .u8 (n / 256),.int .u8 (n % 256)])):=by
    refine ⟨rfl,?_⟩
    have e1:((UInt8.ofNat ((n / 256) % 256).toNat).toNat:Int)=n / 256:=by simp; omega
    have e2:((UInt8.ofNat (n % 256).toNat).toNat:Int)=n % 256:=by simp; omega
    simp only [List.map_cons,List.map_nil,encU8,e1,e2]
  have ba:Below W.heap.size W (W.alloc (Obj.cells #[.int .u8 (n / 256),.int .u8 (n % 256)] 5)):=(Below.refl _ _).alloc (Nat.le_refl _) _
  have HON:Hid ((W.alloc (Obj.cells #[.int .u8 (n / 256),.int .u8 (n % 256)] 5)).ownsRow B 5 1 (.slice va bs.length vc) bs.length (bs.map encU8)):=World.ownsRow.alloc hown _
  have HNW:∀ (i:Nat) (u:Value),[Value.int .u8 (n / 256),.int .u8 (n % 256)][i]?=some u→(W.alloc (Obj.cells #[.int .u8 (n / 256),.int .u8 (n % 256)] 5)).cell? ((⟨W.heap.size,0,none⟩:Addr).add i)=some u:=fun i u hi=>by
    rw [add_plain,Nat.zero_add]
    rcases i with _ | _ | i <;> simp at hi <;> subst hi <;> simp
  have hszn:B≤(W.alloc (Obj.cells #[.int .u8 (n / 256),.int .u8 (n % 256)] 5)).heap.size:=by simp; omega
  have HH:Hid (DW B g ns (W.alloc (Obj.cells #[.int .u8 (n / 256),.int .u8 (n % 256)] 5))∧DWrote g W (W.alloc (Obj.cells #[.int .u8 (n / 256),.int .u8 (n % 256)] 5))∧(W.alloc (Obj.cells #[.int .u8 (n / 256),.int .u8 (n % 256)] 5)).cell? ⟨g,0,none⟩=some (.slice va bs.length vc)∧(W.alloc (Obj.cells #[.int .u8 (n / 256),.int .u8 (n % 256)] 5)).heap[g]?=some (.cells cs 76 (0,0))) :=
    ⟨h.next ba,h.wrote ba,(World.cell?_of_block (ba.block g h.lt)).trans hv,(ba.block g h.lt).trans hc⟩
  have HBE:Hid (badN (ns++[n])=badN ns∧(badN ns=false→bs=encN ns)∧cs.size=2):=⟨by rw [badN_append]; simp [badN]; omega,hbe,hs⟩
  clear h hc hs ba hown hbe hbad
  go_enter Tryz.func22,Tryz.ntmps22
  go_wp2_with (at_builtin; refine wpList_append_own_at _ rfl (.tmp 17) (.tmp 24) 67 rfl B 5 i0 _ 1 1 Tryz.underlying67 hi hz0 hz1 hz2 rfl (by omega) _ _ _ rfl HON.out _ 2 2 [.int .u8 (n / 256),.int .u8 (n % 256)] rfl rfl HNW (by simp [Value.oneCell']) (by unfold maxLen; omega) (by omega) hszn ?_)
  intro v' w2 hown' hgrow _ hat
  obtain ⟨h1,h2,h3,h4⟩:=HH.out
  have HP:=h1.put (ms:=ns++[n]) (l:=bs++enc2 n) h3 hgrow (by
      rw [HU.out.1]
      show World.ownsRow _ _ _ _ _ _ _
      rw [List.map_append,HU.out.2,List.length_append]
      exact hown') (by simpa using hat) HBE.out.1 (by rw [List.length_append,List.length_append]; show _+2≤2 * (_+1); omega) (fun e=>by
      rw [HBE.out.1] at e
      rw [encN_append,HBE.out.2.1 e]
      simp [encN])
  have HF:Hid (DW B g (ns++[n]) (w2.setCell ⟨g,0,none⟩ v')∧DWrote g W (w2.setCell ⟨g,0,none⟩ v')):=⟨HP.1,h2.trans HP.2⟩
  have hne:=Lib.ownBlock_ne HON.out h4 (by decide)
  have hc2:w2.heap[g]?=some (.cells cs 76 (0,0)):=(hgrow.block g (Array.getElem?_eq_some_iff.1 h4).1 (fun e=>hne e.symm)).trans h4
  have hf2:w2.frozen? ⟨g,0,none⟩=false:=Lib.frozen_of_heap hc2 _
  obtain ⟨z0,hz9⟩:∃ z0,w2.cell? ⟨g,0,none⟩=some z0:=⟨cs[0]'(by have:=HBE.out.2.2; omega),by rw [Lib.cell_of_heap hc2]; simp⟩
  obtain ⟨va',vc',rfl⟩:=slice_of_ownK hown'
  clear hown' hgrow hat hc2 HON HH h1 h2 h3 h4 HP hne
  go_wp2_with fail
  go_end0
  exact ⟨rfl,HF.out⟩
def Wt (w0:World) (g:Nat) (ns:List Int) (W:World):Prop:=WsAt w0.heap.size g [⟨encN ns,badN ns⟩] W∧Below w0.heap.size w0 W
theorem Wt.next {w0 W W':World} {g:Nat} {ns:List Int} (h:Wt w0 g ns W) (hb:Below W.heap.size W W'):Wt w0 g ns W':=⟨h.1.next hb,h.2.trans (hb.mono h.2.size)⟩
theorem Wt.lt {w0 W:World} {g:Nat} {ns:List Int} (h:Wt w0 g ns W):g<W.heap.size:=h.1.lt
theorem Wrote.blk {g k:Nat} {W W':World} {ob:Obj} (h:Wrote g W W') (hk:W.heap[k]?=some ob) (hn:¬ inW g W k):W'.heap[k]?=some ob:=(h.1.block k (Array.getElem?_eq_some_iff.1 hk).1 hn).trans hk
theorem Wrote.notIn {g k:Nat} {W W':World} (h:Wrote g W W') (hn:¬ inW g W k) (hk:k<W.heap.size):¬ inW g W' k:=fun hin=>(h.2 k hin).elim hn (by omega)
theorem wnum_any {w0 W:World} {g:Nat} {ns:List Int} (l:List Int) (v:Value) (h:Wt w0 g ns W) (hl:SlI l v W) (hap:∀ ad n c,v=.slice (some ad) n c→l≠[]→¬ inW g W ad.block) (hll:l.length≤1000000) (hb:ns.length+l.length≤70368744177664) :
    Calls Tryz.prog 32 #[.pointer (some ⟨g,0,none⟩),v] W fun e w'=>e=.returned (.tuple #[])∧Wt w0 g (ns++l) w'∧Wrote g W w':=by
  have:=numbers_gen (i:=0) (x:=⟨encN ns,badN ns⟩) l v W hl h.1 rfl hap hll (by simp only [encN_len]; omega) h.2.size
  refine Calls.mono (show Calls Tryz.prog 32 #[.pointer (some ⟨g,0,none⟩),v] W _ by simpa using this) ?_
  rintro e w' ⟨rfl,h1,h2⟩
  refine ⟨rfl,⟨?_,h.2.trans (h.1.below h2 h.2.size)⟩,h2⟩
  rw [encN_append,badN_append]
  exact h1
theorem old_apart {w0 W:World} {g:Nat} {ns l:List Int} {v:Value} (h:Wt w0 g ns W) (hl:SlI l v w0):∀ ad n c,v=.slice (some ad) n c→l≠[]→¬ inW g W ad.block:=fun ad n c e hn hin=>by
  subst e
  have h1:=hl.lt hn
  have h2:=(h.1.inLt hin).1
  omega
theorem new_apart {w0 W W':World} {g:Nat} {ns:List Int} (h:Wt w0 g ns W) (hb:Below W.heap.size W W') (k:Nat) (hk:W.heap.size≤k):¬ inW g W' k:=fun hin=>by
  have:=(h.1.inLt ((inW_same (hb.block g h.lt) k).1 hin)).2
  omega
theorem up1_wrap (x:Int) (h:i64B x):wrap64 (x+1)=up1 x∧IntKind.i64.wrap (x+1)=up1 x:=by
  unfold i64B at h
  unfold up1
  rw [IntKind.wrap_i64]
  split
  · unfold wrap64; omega
  · unfold wrap64; omega
theorem up1_ok (x:Int) (h:i64B x):i64B (up1 x):=by
  unfold i64B at *
  unfold up1
  split <;> omega
theorem sli_lit (W:World) (cs:List Int) (hok:∀ x∈cs,i64B x):SlI cs (.slice (some ⟨W.heap.size,0,none⟩) cs.length cs.length) (W.alloc (Obj.cells (cs.map encI).toArray 3)):=by
  refine ⟨_,_,rfl,fun k u hk=>⟨_,_,rfl,by simp,?_⟩,fun h=>(by cases h),(by simp),hok⟩
  rw [Lib.cell_of_heap (heap_alloc_new _ _)]
  simp [hk]
set_option maxRecDepth 100000 in
set_option maxHeartbeats 2000000 in
theorem wact_any {w0 W:World} {g:Nat} {ns:List Int} (a:Ac) (v:Value) (h:Wt w0 g ns W) (hr:SlI a.red v w0) (h1:i64B a.look) (h2:i64B a.to) (h3:a.red.length≤1000000) (hb:ns.length+(numsA a).length≤70368744177664) :
    Calls Tryz.prog 51 #[.pointer (some ⟨g,0,none⟩),.agg #[.int .i64 a.look,.int .i64 a.to,v,.bool a.acc]] W fun e w'=>e=.returned (.tuple #[])∧Wt w0 g (ns++numsA a) w'∧Wrote g W w':=by
  rw [numsA_len] at hb
  obtain ⟨va,vc,rfl,_⟩:=id hr
  obtain ⟨hu1,hu2⟩:=up1_wrap a.to h2
  have hu3:=up1_ok a.to h2
  obtain ⟨look,tv,red,acc⟩:=a
  simp only at *
  have B1:Below W.heap.size W (W.alloc (Obj.cells #[.int .i64 look,.int .i64 tv,.slice va red.length vc,.bool acc] 41)):=(Below.refl _ _).alloc (Nat.le_refl _) _
  have B2:Below W.heap.size W ((W.alloc (Obj.cells #[.int .i64 look,.int .i64 tv,.slice va red.length vc,.bool acc] 41)).alloc (Obj.cells #[.int .i64 look,.int .i64 (up1 tv),.int .i64 red.length] 3)):=B1.alloc (by simp) _
  have b0:((W.alloc (Obj.cells #[.int .i64 look,.int .i64 tv,.slice va red.length vc,.bool acc] 41)).alloc (Obj.cells #[.int .i64 look,.int .i64 (up1 tv),.int .i64 red.length] 3)).heap[W.heap.size]?=some (Obj.cells #[.int .i64 look,.int .i64 tv,.slice va red.length vc,.bool acc] 41):=(Lib.alloc_old _ _ _ (by simp)).trans (heap_alloc_new _ _)
  have S1:=sli_lit (W.alloc (Obj.cells #[.int .i64 look,.int .i64 tv,.slice va red.length vc,.bool acc] 41)) [look,up1 tv,(red.length:Int)] (fun x hx=>by
    simp at hx
    rcases hx with rfl | rfl | rfl
    · exact h1
    · exact hu3
    · unfold i64B; omega)
  have HC:=wnum_any [look,up1 tv,(red.length:Int)] (.slice (some ⟨W.heap.size+1,0,none⟩) 3 3) (h.next B2) (by simpa [encI] using S1) (fun ad n c e _=>by
    injection e with e1
    injection e1 with e1
    subst e1
    exact new_apart h B2 _ (by simp)) (by simp) (by simp; omega)
  have hn0:¬ inW g ((W.alloc (Obj.cells #[.int .i64 look,.int .i64 tv,.slice va red.length vc,.bool acc] 41)).alloc (Obj.cells #[.int .i64 look,.int .i64 (up1 tv),.int .i64 red.length] 3)) W.heap.size:=new_apart h B2 _ (Nat.le_refl _)
  have HW0:Hid (Wrote g W ((W.alloc (Obj.cells #[.int .i64 look,.int .i64 tv,.slice va red.length vc,.bool acc] 41)).alloc (Obj.cells #[.int .i64 look,.int .i64 (up1 tv),.int .i64 red.length] 3))):=h.1.wrote B2
  clear h B1 S1
  go_enter Tryz.func51,Tryz.ntmps51
  go_wp2_with fail
  generalize (W.alloc (Obj.cells #[.int .i64 look,.int .i64 tv,.slice va red.length vc,.bool acc] 41)).alloc (Obj.cells #[.int .i64 look,.int .i64 (up1 tv),.int .i64 red.length] 3)=W2 at *
  refine HC.mono ?_
  rintro e w1 ⟨rfl,k1,k2⟩
  have p0:=k2.blk b0 hn0
  have n1:=k2.notIn hn0 (blk_lt b0)
  have c0:w1.cell? ⟨W.heap.size,2,none⟩=some (.slice va red.length vc):=by rw [Lib.cell_of_heap p0]; rfl
  have HC2:=wnum_any red (.slice va red.length vc) k1 (hr.next k1.2) (old_apart k1 hr) h3 (by simp; omega)
  have HW1:Hid (Wrote g W w1):=HW0.out.trans k2
  clear HC HW0 b0 hn0 k1 k2 hu1 hu2 hu3 h1 h2 hr B2
  go_wp2_with fail
  refine HC2.mono ?_
  rintro e w2 ⟨rfl,k1,k2⟩
  have p1:=k2.blk p0 n1
  have n2:=k2.notIn n1 (blk_lt p0)
  have c1:w2.cell? ⟨W.heap.size,3,none⟩=some (.bool acc):=by rw [Lib.cell_of_heap p1]; rfl
  have B3:Below w2.heap.size w2 (w2.alloc (Obj.cells #[.int .i64 (accI acc)] 3)):=(Below.refl _ _).alloc (Nat.le_refl _) _
  have S3:=sli_lit w2 [accI acc] (fun x hx=>by simp at hx; rw [hx]; unfold i64B accI; split <;> omega)
  have HC3:=wnum_any [accI acc] (.slice (some ⟨w2.heap.size,0,none⟩) 1 1) (k1.next B3) (by simpa [encI] using S3) (fun ad n c e _=>by
    injection e with e1
    injection e1 with e1
    subst e1
    exact new_apart k1 B3 _ (Nat.le_refl _)) (by simp) (by simp; omega)
  have HW2:Hid (Wrote g W (w2.alloc (Obj.cells #[.int .i64 (accI acc)] 3))):=(HW1.out.trans k2).trans (k1.1.wrote B3)
  have HE:Hid (ns++[look,up1 tv,(red.length:Int)]++red++[accI acc]=ns++numsA ⟨look,tv,red,acc⟩):=by show _=_; simp [numsA]
  clear HC2 HW1 p0 n1 k1 k2 c0 S3 B3 p1 n2
  cases acc with
  | true =>
    simp only [accI,if_true] at HC3 HW2 HE
    go_wp2_with fail
    generalize w2.alloc (Obj.cells #[.int .i64 1] 3)=w3 at *
    refine HC3.mono ?_
    rintro e w4 ⟨rfl,k1,k2⟩
    have HF:Hid (Wt w0 g (ns++numsA ⟨look,tv,red,true⟩) w4∧Wrote g W w4):=⟨by rw [← HE.out]; exact k1,HW2.out.trans k2⟩
    clear HC3 HW2 HE k1 k2
    go_wp2_with fail
    go_end0
    exact ⟨rfl,HF.out⟩
  | false =>
    simp only [accI,Bool.false_eq_true,if_false] at HC3 HW2 HE
    go_wp2_with fail
    generalize w2.alloc (Obj.cells #[.int .i64 0] 3)=w3 at *
    refine HC3.mono ?_
    rintro e w4 ⟨rfl,k1,k2⟩
    have HF:Hid (Wt w0 g (ns++numsA ⟨look,tv,red,false⟩) w4∧Wrote g W w4):=⟨by rw [← HE.out]; exact k1,HW2.out.trans k2⟩
    clear HC3 HW2 HE k1 k2
    go_wp2_with fail
    go_end0
    exact ⟨rfl,HF.out⟩
def redsOk (l:List Ac):Prop:=∀ a∈l,a.red.length≤1000000
theorem flat_len_le {α:Type} (f:α→List Int) (l:List α) (k:Nat):((l.take k).flatMap f).length≤(l.flatMap f).length:=by
  conv=>rhs; rw [← List.take_append_drop k l,List.flatMap_append,List.length_append]
  omega
theorem flat_len_lt {α:Type} (f:α→List Int) {l:List α} {k:Nat} (h:k<l.length):((l.take k).flatMap f).length+(f l[k]).length≤(l.flatMap f).length:=by
  have:=flat_len_le f l (k+1)
  rw [flat_take f h,List.length_append] at this
  exact this
theorem wlen_any {w0 W:World} {g:Nat} {ns:List Int} (n:Nat) (h:Wt w0 g ns W) (hn:n≤140737488351232) (hb:ns.length+1≤70368744177664) :
    Calls Tryz.prog 32 #[.pointer (some ⟨g,0,none⟩),.slice (some ⟨W.heap.size,0,none⟩) 1 1] (W.alloc (Obj.cells #[.int .i64 n] 3)) fun e w'=>e=.returned (.tuple #[])∧Wt w0 g (ns++[(n:Int)]) w'∧Wrote g W w':=by
  have B3:Below W.heap.size W (W.alloc (Obj.cells #[.int .i64 n] 3)):=(Below.refl _ _).alloc (Nat.le_refl _) _
  have S3:=sli_lit W [(n:Int)] (fun x hx=>by simp at hx; rw [hx]; unfold i64B; omega)
  refine (wnum_any [(n:Int)] (.slice (some ⟨W.heap.size,0,none⟩) 1 1) (h.next B3) (by simpa [encI] using S3) (fun ad n c e _=>by
    injection e with e1
    injection e1 with e1
    subst e1
    exact new_apart h B3 _ (Nat.le_refl _)) (by simp) (by simp; omega)).mono ?_
  rintro e w' ⟨rfl,h1,h2⟩
  exact ⟨rfl,h1,(h.1.wrote B3).trans h2⟩
set_option maxRecDepth 100000 in
set_option maxHeartbeats 2000000 in
theorem wrow_any {w0 W:World} {g:Nat} {ns:List Int} (r:Rw) (va vg:Value) (h:Wt w0 g ns W) (hA:SlA r.acts va w0) (hG:SlG r.goes vg w0) (h3:redsOk r.acts) (hb:ns.length+(numsR r).length≤70368744177664) :
    Calls Tryz.prog 33 #[.pointer (some ⟨g,0,none⟩),.agg #[va,vg]] W fun e w'=>e=.returned (.tuple #[])∧Wt w0 g (ns++numsR r) w'∧Wrote g W w':=by
  have HAC:Hid (∀ (a:Ac) (v:Value) (W:World) (ns:List Int),Wt w0 g ns W→SlI a.red v w0→i64B a.look→i64B a.to→a.red.length≤1000000→ns.length+(numsA a).length≤70368744177664→Calls Tryz.prog 51 #[.pointer (some ⟨g,0,none⟩),.agg #[.int .i64 a.look,.int .i64 a.to,v,.bool a.acc]] W fun e w'=>e=.returned (.tuple #[])∧Wt w0 g (ns++numsA a) w'∧Wrote g W w'):=fun a v W ns h1 h2 h3 h4 h5 h6=>wact_any a v h1 h2 h3 h4 h5 h6
  have HSA:Hid (SlA r.acts va w0∧SlG r.goes vg w0):=⟨hA,hG⟩
  obtain ⟨aa,ac,rfl,hA1,hA2,hA3,hA4⟩:=id hA
  obtain ⟨ga,gc,rfl,hG1,hG2,hG3,hG4⟩:=id hG
  obtain ⟨acs,gos⟩:=r
  simp only at *
  have hnl:(numsR ⟨acs,gos⟩).length=2+(acs.flatMap numsA).length+(gos.flatMap numsG).length:=by simp [numsR]; omega
  rw [hnl] at hb
  have B1:Below W.heap.size W (W.alloc (Obj.cells #[.slice aa acs.length ac,.slice ga gos.length gc] 38)):=(Below.refl _ _).alloc (Nat.le_refl _) _
  have b0:(W.alloc (Obj.cells #[.slice aa acs.length ac,.slice ga gos.length gc] 38)).heap[W.heap.size]?=some (Obj.cells #[.slice aa acs.length ac,.slice ga gos.length gc] 38):=heap_alloc_new _ _
  have n0:¬ inW g (W.alloc (Obj.cells #[.slice aa acs.length ac,.slice ga gos.length gc] 38)) W.heap.size:=new_apart h B1 _ (Nat.le_refl _)
  have HC:=wlen_any acs.length (h.next B1) hA4 (by omega)
  have HW0:Hid (Wrote g W (W.alloc (Obj.cells #[.slice aa acs.length ac,.slice ga gos.length gc] 38))):=h.1.wrote B1
  have HR3:Hid (redsOk acs):=h3
  clear h hA hG h3 hA1 hA2 hA3 hG1 hG2 hG3 hnl B1
  go_enter Tryz.func33,Tryz.ntmps33
  go_upto_region 1 with fail
  generalize W.alloc (Obj.cells #[.slice aa acs.length ac,.slice ga gos.length gc] 38)=W1 at *
  have c0:W1.cell? ⟨W.heap.size,0,none⟩=some (.slice aa acs.length ac):=by rw [Lib.cell_of_heap b0]; rfl
  go_wp2_with fail
  refine HC.mono ?_
  rintro e w1 ⟨rfl,k1,k2⟩
  have p0:=k2.blk b0 n0
  have n1:=k2.notIn n0 (blk_lt b0)
  have c1:w1.cell? ⟨W.heap.size,0,none⟩=some (.slice aa acs.length ac):=by rw [Lib.cell_of_heap p0]; rfl
  have kw:=HW0.out.trans k2
  clear HC HW0 b0 n0 k2
  go_wp2_with fail
  go_loopw [17] (fun iv wr=>∃ (j:Nat),iv=.int .i64 j∧j≤acs.length∧Wt w0 g (ns++[(acs.length:Int)]++(acs.take j).flatMap numsA) wr∧Wrote g W wr∧wr.heap[W.heap.size]?=some (Obj.cells #[.slice aa acs.length ac,.slice ga gos.length gc] 38)∧¬ inW g wr W.heap.size) (fun i _=>acs.length - (intOf i).toNat)
  case atStart=>exact ⟨0,rfl,Nat.zero_le _,by simpa using k1,kw,p0,n1⟩
  case round =>
  clear k1 kw p0 n1 c1
  obtain ⟨j,rfl,hj,hW,hw,p0,n1⟩:=hrel
  by_cases hlt:j<acs.length
  · obtain ⟨_,_,e0,hal,_⟩:=HSA.out.1
    cases e0
    obtain ⟨b2,o2,u,rfl,hb2,t0,t1,t2,t3,t4,t5,t6,_⟩:=hal.at (Below.refl _ _) hlt
    have q0:=(hW.2.cell (p:=⟨b2,o2+j * 4,none⟩) hb2).trans t0
    have q1:=(hW.2.cell (p:=⟨b2,o2+j * 4+1,none⟩) hb2).trans t1
    have q2:=(hW.2.cell (p:=⟨b2,o2+j * 4+2,none⟩) hb2).trans t2
    have q3:=(hW.2.cell (p:=⟨b2,o2+j * 4+3,none⟩) hb2).trans t3
    have h3:=HR3.out acs[j] (List.getElem_mem hlt)
    have hll:=flat_len_lt numsA hlt
    have HT:Hid ((acs.take (j+1)).flatMap numsA=(acs.take j).flatMap numsA++numsA acs[j]):=flat_take numsA hlt
    generalize acs[j]=a at *
    obtain ⟨ua,uc,rfl,_⟩:=id t4
    have ba:Below wr.heap.size wr (wr.alloc (Obj.cells #[.int .i64 a.look,.int .i64 a.to,.slice ua a.red.length uc,.bool a.acc] 41)):=(Below.refl _ _).alloc (Nat.le_refl _) _
    have HC:=HAC.out a _ _ _ (hW.next ba) t4 t5 t6 h3 (by simp only [List.length_append,List.length_cons,List.length_nil]; omega)
    have HW1:Hid (Wrote g W (wr.alloc (Obj.cells #[.int .i64 a.look,.int .i64 a.to,.slice ua a.red.length uc,.bool a.acc] 41))):=hw.trans (hW.1.wrote ba)
    have p1:=(ba.block _ (blk_lt p0)).trans p0
    have n2:¬ inW g (wr.alloc (Obj.cells #[.int .i64 a.look,.int .i64 a.to,.slice ua a.red.length uc,.bool a.acc] 41)) W.heap.size:=fun hin=>n1 ((inW_same (ba.block g hW.lt) _).1 hin)
    clear hW hw t0 t1 t2 t3 t4 t5 t6 hal HAC HSA ba p0 n1
    go_wp2_with fail
    generalize wr.alloc (Obj.cells #[.int .i64 a.look,.int .i64 a.to,.slice ua a.red.length uc,.bool a.acc] 41)=wa at *
    refine HC.mono ?_
    rintro e w2 ⟨rfl,k1,k2⟩
    have HF:Hid (Wt w0 g (ns++[(acs.length:Int)]++(acs.take (j+1)).flatMap numsA) w2∧Wrote g W w2∧w2.heap[W.heap.size]?=some (Obj.cells #[.slice (some ⟨b2,o2,none⟩) acs.length ac,.slice ga gos.length gc] 38)∧¬ inW g w2 W.heap.size):=by
      refine ⟨?_,HW1.out.trans k2,k2.blk p1 n2,k2.notIn n2 (blk_lt p1)⟩
      rw [HT.out,← List.append_assoc]
      exact k1
    clear HC k1 k2 HW1 p1 n2 HT q0 q1 q2 q3
    go_wp2_with fail
    exact ⟨⟨j+1,by go_num,by omega,HF.out⟩,by simp [intOf]; omega⟩
  obtain rfl:j=acs.length:=by omega
  rw [List.take_of_length_le (Nat.le_refl _)] at hW
  clear HAC HR3 hj
  have c1:wr.cell? ⟨W.heap.size,1,none⟩=some (.slice ga gos.length gc):=by rw [Lib.cell_of_heap p0]; rfl
  have HC:=wlen_any gos.length hW hG4 (by simp only [List.length_append,List.length_cons,List.length_nil]; omega)
  go_wp2_with fail
  refine HC.mono ?_
  rintro e w2 ⟨rfl,k1,k2⟩
  have p1:=k2.blk p0 n1
  have c2:w2.cell? ⟨W.heap.size,1,none⟩=some (.slice ga gos.length gc):=by rw [Lib.cell_of_heap p1]; rfl
  have kw:=hw.trans k2
  clear HC k2 hW hw p0 n1 c1 p1
  go_wp2_with fail
  go_loopw [34] (fun iv wr=>∃ (j:Nat),iv=.int .i64 j∧j≤gos.length∧Wt w0 g (ns++[(acs.length:Int)]++acs.flatMap numsA++[(gos.length:Int)]++(gos.take j).flatMap numsG) wr∧Wrote g W wr) (fun i _=>gos.length - (intOf i).toNat)
  case atStart=>exact ⟨0,rfl,Nat.zero_le _,by simpa using k1,kw⟩
  case round =>
  clear k1 kw c2
  obtain ⟨j,rfl,hj,hW,hw⟩:=hrel
  by_cases hlt:j<gos.length
  · obtain ⟨_,_,e0,hal,_⟩:=HSA.out.2
    cases e0
    obtain ⟨b2,o2,rfl,hb2,t0,t1,t5,t6⟩:=hal.at (Below.refl _ _) hlt
    have q0:=(hW.2.cell (p:=⟨b2,o2+j * 2,none⟩) hb2).trans t0
    have q1:=(hW.2.cell (p:=⟨b2,o2+j * 2+1,none⟩) hb2).trans t1
    have hll:=flat_len_lt numsG hlt
    have HT:Hid ((gos.take (j+1)).flatMap numsG=(gos.take j).flatMap numsG++numsG gos[j]):=flat_take numsG hlt
    generalize gos[j]=a at *
    obtain ⟨x,y⟩:=a
    simp only at *
    have ba:Below wr.heap.size wr (wr.alloc (Obj.cells #[.int .i64 x,.int .i64 y] 65)):=(Below.refl _ _).alloc (Nat.le_refl _) _
    have bb:Below wr.heap.size wr ((wr.alloc (Obj.cells #[.int .i64 x,.int .i64 y] 65)).alloc (Obj.cells #[.int .i64 x,.int .i64 y] 3)):=ba.alloc (by simp) _
    have S3:=sli_lit (wr.alloc (Obj.cells #[.int .i64 x,.int .i64 y] 65)) [x,y] (fun z hz=>by
      simp at hz
      rcases hz with rfl | rfl
      · exact t5
      · exact t6)
    have hl2:(numsG (x,y)).length=2:=rfl
    have HC:=wnum_any [x,y] (.slice (some ⟨wr.heap.size+1,0,none⟩) 2 2) (hW.next bb) (by simpa [encI] using S3) (fun ad n c e _=>by
      injection e with e1
      injection e1 with e1
      subst e1
      exact new_apart hW bb _ (by simp)) (by simp) (by simp only [List.length_append,List.length_cons,List.length_nil]; omega)
    have HW1:Hid (Wrote g W ((wr.alloc (Obj.cells #[.int .i64 x,.int .i64 y] 65)).alloc (Obj.cells #[.int .i64 x,.int .i64 y] 3))):=hw.trans (hW.1.wrote bb)
    clear hW hw t0 t1 t5 t6 hal HSA ba bb S3 hl2
    go_wp2_with fail
    generalize (wr.alloc (Obj.cells #[.int .i64 x,.int .i64 y] 65)).alloc (Obj.cells #[.int .i64 x,.int .i64 y] 3)=wa at *
    refine HC.mono ?_
    rintro e w2 ⟨rfl,k1,k2⟩
    have HF:Hid (Wt w0 g (ns++[(acs.length:Int)]++acs.flatMap numsA++[(gos.length:Int)]++(gos.take (j+1)).flatMap numsG) w2∧Wrote g W w2):=by
      refine ⟨?_,HW1.out.trans k2⟩
      rw [HT.out,← List.append_assoc]
      exact k1
    clear HC k1 k2 HW1 HT q0 q1
    go_wp2_with fail
    exact ⟨⟨j+1,by go_num,by omega,HF.out⟩,by simp [intOf]; omega⟩
  obtain rfl:j=gos.length:=by omega
  rw [List.take_of_length_le (Nat.le_refl _)] at hW
  have HF:Hid (Wt w0 g (ns++numsR ⟨acs,gos⟩) wr∧Wrote g W wr):=by
    refine ⟨?_,hw⟩
    have e:ns++numsR ⟨acs,gos⟩=ns++[(acs.length:Int)]++acs.flatMap numsA++[(gos.length:Int)]++gos.flatMap numsG:=by simp [numsR]
    rw [e]; exact hW
  clear hW hw HSA
  go_wp2_with fail
  go_end0
  exact ⟨rfl,HF.out⟩
set_option maxRecDepth 100000 in
set_option maxHeartbeats 2000000 in
theorem wtable_any {w0 W:World} {g:Nat} (l:List Rw) (v:Value) (h:Wt w0 g [] W) (hl:SlW l v w0) (h3:∀ r∈l,redsOk r.acts) (hb:(numsT l).length≤70368744177664) :
    Calls Tryz.prog 20 #[.pointer (some ⟨g,0,none⟩),.agg #[v]] W fun e w'=>e=.returned (.tuple #[])∧Wt w0 g (numsT l) w'∧Wrote g W w':=by
  have HRW:Hid (∀ (r:Rw) (va vg:Value) (W:World) (ns:List Int),Wt w0 g ns W→SlA r.acts va w0→SlG r.goes vg w0→redsOk r.acts→ns.length+(numsR r).length≤70368744177664→Calls Tryz.prog 33 #[.pointer (some ⟨g,0,none⟩),.agg #[va,vg]] W fun e w'=>e=.returned (.tuple #[])∧Wt w0 g (ns++numsR r) w'∧Wrote g W w'):=fun r va vg W ns h1 h2 h3 h4 h5=>wrow_any r va vg h1 h2 h3 h4 h5
  have HSW:Hid (SlW l v w0):=hl
  obtain ⟨la,lc,rfl,_,_,_,hl4⟩:=id hl
  have hnl:(numsT l).length=1+(l.flatMap numsR).length:=by simp [numsT]; omega
  rw [hnl] at hb
  have B1:Below W.heap.size W (W.alloc (Obj.cells #[.slice la l.length lc] 24)):=(Below.refl _ _).alloc (Nat.le_refl _) _
  have b0:(W.alloc (Obj.cells #[.slice la l.length lc] 24)).heap[W.heap.size]?=some (Obj.cells #[.slice la l.length lc] 24):=heap_alloc_new _ _
  have n0:¬ inW g (W.alloc (Obj.cells #[.slice la l.length lc] 24)) W.heap.size:=new_apart h B1 _ (Nat.le_refl _)
  have HC:=wlen_any l.length (h.next B1) hl4 (by simp)
  have HW0:Hid (Wrote g W (W.alloc (Obj.cells #[.slice la l.length lc] 24))):=h.1.wrote B1
  have HR3:Hid (∀ r∈l,redsOk r.acts):=h3
  clear h hl h3 hnl B1
  go_enter Tryz.func20,Tryz.ntmps20
  go_upto_region 1 with fail
  generalize W.alloc (Obj.cells #[.slice la l.length lc] 24)=W1 at *
  have c0:W1.cell? ⟨W.heap.size,0,none⟩=some (.slice la l.length lc):=by rw [Lib.cell_of_heap b0]; rfl
  go_wp2_with fail
  refine HC.mono ?_
  rintro e w1 ⟨rfl,k1,k2⟩
  have p0:=k2.blk b0 n0
  have c1:w1.cell? ⟨W.heap.size,0,none⟩=some (.slice la l.length lc):=by rw [Lib.cell_of_heap p0]; rfl
  have kw:=HW0.out.trans k2
  clear HC HW0 b0 n0 k2 p0
  go_wp2_with fail
  go_loopw [15] (fun iv wr=>∃ (j:Nat),iv=.int .i64 j∧j≤l.length∧Wt w0 g ([(l.length:Int)]++(l.take j).flatMap numsR) wr∧Wrote g W wr) (fun i _=>l.length - (intOf i).toNat)
  case atStart=>exact ⟨0,rfl,Nat.zero_le _,by simpa using k1,kw⟩
  case round =>
  clear k1 kw c1
  obtain ⟨j,rfl,hj,hW,hw⟩:=hrel
  by_cases hlt:j<l.length
  · obtain ⟨_,_,e0,hal,_⟩:=HSW.out
    cases e0
    obtain ⟨b2,o2,va,vg,rfl,hb2,t0,t1,t2,t3⟩:=hal.at (Below.refl _ _) hlt
    have q0:=(hW.2.cell (p:=⟨b2,o2+j * 2,none⟩) hb2).trans t0
    have q1:=(hW.2.cell (p:=⟨b2,o2+j * 2+1,none⟩) hb2).trans t1
    have h3:=HR3.out l[j] (List.getElem_mem hlt)
    have hll:=flat_len_lt numsR hlt
    have HT:Hid ((l.take (j+1)).flatMap numsR=(l.take j).flatMap numsR++numsR l[j]):=flat_take numsR hlt
    generalize l[j]=r at *
    obtain ⟨aa,ac,rfl,_⟩:=id t2
    obtain ⟨ga,gc,rfl,_⟩:=id t3
    have ba:Below wr.heap.size wr (wr.alloc (Obj.cells #[.slice aa r.acts.length ac,.slice ga r.goes.length gc] 38)):=(Below.refl _ _).alloc (Nat.le_refl _) _
    have HC:=HRW.out r _ _ _ _ (hW.next ba) t2 t3 h3 (by simp only [List.length_append,List.length_cons,List.length_nil]; omega)
    have HW1:Hid (Wrote g W (wr.alloc (Obj.cells #[.slice aa r.acts.length ac,.slice ga r.goes.length gc] 38))):=hw.trans (hW.1.wrote ba)
    clear hW hw t0 t1 t2 t3 hal HRW HSW ba
    go_wp2_with fail
    generalize wr.alloc (Obj.cells #[.slice aa r.acts.length ac,.slice ga r.goes.length gc] 38)=wa at *
    refine HC.mono ?_
    rintro e w2 ⟨rfl,k1,k2⟩
    have HF:Hid (Wt w0 g ([(l.length:Int)]++(l.take (j+1)).flatMap numsR) w2∧Wrote g W w2):=by
      refine ⟨?_,HW1.out.trans k2⟩
      rw [HT.out,← List.append_assoc]
      exact k1
    clear HC k1 k2 HW1 HT q0 q1
    go_wp2_with fail
    exact ⟨⟨j+1,by go_num,by omega,HF.out⟩,by simp [intOf]; omega⟩
  obtain rfl:j=l.length:=by omega
  rw [List.take_of_length_le (Nat.le_refl _)] at hW
  have HF:Hid (Wt w0 g (numsT l) wr∧Wrote g W wr):=⟨hW,hw⟩
  clear hW hw HSW
  go_wp2_with fail
  go_end0
  exact ⟨rfl,HF.out⟩
set_option maxRecDepth 100000 in
set_option maxHeartbeats 1000000 in
theorem encode_any (l:List Rw) (v:Value) (w:World) (hl:SlW l v w) (h3:∀ r∈l,redsOk r.acts) (hb:(numsT l).length≤70368744177664) :
    Calls Tryz.prog 9 #[.agg #[v]] w fun e w'=>e=.returned (.string ⟨(encTab l).toArray⟩)∧Below w.heap.size w w':=by
  obtain ⟨la,lc,rfl,_⟩:=id hl
  have B1:Below w.heap.size w (w.alloc (Obj.cells #[.slice la l.length lc] 24)):=(Below.refl _ _).alloc (Nat.le_refl _) _
  have hW:=WsAt.one (B:=w.heap.size) (w.alloc (Obj.cells #[.slice la l.length lc] 24)) (by simp)
  have e1:(w.alloc (Obj.cells #[.slice la l.length lc] 24)).heap.size=w.heap.size+1:=by simp
  rw [e1] at hW
  have B2:Below w.heap.size w ((w.alloc (Obj.cells #[.slice la l.length lc] 24)).alloc (.cells #[.pointer none,.slice none 0 0,.bool false] 71)):=B1.alloc (by simp) _
  have HT:=wtable_any (g:=w.heap.size+1) l (.slice la l.length lc) ⟨by simpa [encN,badN] using hW,B2⟩ hl h3 hb
  clear hW e1 hl h3
  go_enter Tryz.func9,Tryz.ntmps9
  go_wp2_with fail
  refine HT.mono ?_
  rintro e w2 ⟨rfl,⟨h1,B3⟩,h2⟩
  have cb:=h1.bad 0 _ rfl
  obtain ⟨bv,hbv,hob⟩:=h1.buf 0 _ rfl
  have hnl:=h1.nil 0 _ bv rfl
  simp only [Nat.zero_mul,Nat.zero_add] at cb hbv hob hnl
  have HE:Hid (encTab l=if badN (numsT l) then [] else encN (numsT l)):=rfl
  have hsz:=B3.size
  have HST:=string_any w.heap.size (w.heap.size+1) 0 (encN (numsT l)) bv w2 hbv hob (fun e=>hnl e hbv) (by rw [encN_len]; omega)
  have HBB:Hid (∀ k,bv.ownBlock=some k→w.heap.size≤k):=fun k hk=>(World.ownsRow.lt hob k hk).1
  clear HT h1 h2 hbv hob hnl B1 B2
  cases hbad:badN (numsT l) with
  | true =>
    rw [hbad] at cb HE
    clear HST HBB
    go_wp2_with fail
    go_ret
    exact ⟨by rw [HE.out]; rfl,B3⟩
  | false =>
    rw [hbad] at cb HE
    go_wp2_with fail
    refine HST.mono ?_
    rintro e w3 ⟨rfl,b3⟩
    have B9:Below w.heap.size w w3:=B3.trans (b3.below hsz HBB.out)
    clear HST b3 HBB
    go_wp2_with fail
    go_ret
    exact ⟨by rw [HE.out]; rfl,B9⟩
end Go.Proofs.YtiamjafecbpfpaaGreatDoor
