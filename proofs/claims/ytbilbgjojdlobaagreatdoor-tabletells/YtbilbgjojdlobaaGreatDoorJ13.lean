import Derived.Test.YtbilbgjojdlobaaGreatDoorJ01
import Derived.Test.YtbilbgjojdlobaaGreatDoorJ02
import Derived.Test.YtbilbgjojdlobaaGreatDoorJ04
import Derived.Test.YtbilbgjojdlobaaGreatDoorJ06
import Derived.Test.YtbilbgjojdlobaaGreatDoorJ12
import Derived.ChangeKeysEq
import Derived.Deep.Cut
import Derived.Deep.CutRange

namespace Go.Proofs.YtbilbgjojdlobaaGreatDoor
open Go.RowKit
set_option maxRecDepth 100000 in
set_option maxHeartbeats 800000 in
theorem items_any (f:Fl) (a:FlA) (w:World) (hf:FlAt f a w) (hl:f.prods.length≤1000) :
    Calls Tryz.prog 30 #[a.val f] w fun e w'=>∃ z,e=.returned (.int .i64 z)∧Below w.heap.size w w':=by
  obtain ⟨ta,tc,na,nc,pa,pc⟩:=a
  have X0:=FBox.new f ⟨ta,tc,na,nc,pa,pc⟩ 25 w
  have B0:Below w.heap.size w (w.alloc (fobj f ⟨ta,tc,na,nc,pa,pc⟩ 25)):=(Below.refl _ _).alloc (Nat.le_refl _) _
  obtain ⟨h0,h1,h2,h3,h4,h5,h6,h7⟩:=hf
  unfold fobj at X0 B0
  unfold FlA.val
  simp only at *
  clear h0 h1
  go_enter Tryz.func30,Tryz.ntmps30
  go_wp2_with fail
  generalize w.alloc (Obj.cells #[Value.slice ta f.terms.length tc,Value.slice na f.nons.length nc,Value.slice pa f.prods.length pc] 25)=w0 at *
  have HP:Hid (∀ W,Below w0.heap.size w0 W→PrsAt f.prods pa W):=fun W hb=>(h2.next B0).next hb
  have HB:Hid (∀ W,Below w0.heap.size w0 W→Below w.heap.size w W):=fun W hb=>below_then B0 hb B0.size
  obtain ⟨x1,d0,d1,d2⟩:=id X0
  simp only at d0 d1 d2
  clear X0 B0 h2
  go_wp2_with fail
  go_loopw [3,9] (fun nv i wr=>∃ (j:Nat) (z:Int),nv=.int .i64 z∧i=.int .i64 j∧j≤f.prods.length∧Below w0.heap.size w0 wr) (fun _ i _=>f.prods.length - (intOf i).toNat)
  case atStart=>exact ⟨0,0,rfl,rfl,Nat.zero_le _,Below.refl _ _⟩
  case round =>
    obtain ⟨j,z,rfl,rfl,hj,B1⟩:=hrel
    have hsz:=B1.size
    by_cases hlt:j<f.prods.length
    · obtain ⟨b,off,v,rfl,_,c0,c1,c2,hv,_⟩:=(HP.out _ B1).at (Below.refl _ _) hlt
      generalize f.prods[j]=p at *
      obtain ⟨va,vc,rfl,_⟩:=hv
      have B2:Below w0.heap.size w0 (wr.alloc (Obj.cells #[.int .i64 p.left,.slice va p.right.length vc,.int .i64 p.prec] 58)):=B1.alloc hsz _
      obtain ⟨z2,hz2⟩:∃ z2,wrap64 (z+(p.right.length:Int))=z2:=⟨_,rfl⟩
      go_wp2_with fail
      exact ⟨⟨j+1,_,rfl,by go_num,by omega,B2⟩,by simp [intOf]; omega⟩
    · go_wp2_with fail
      go_ret
      exact ⟨_,rfl,HB.out _ B1⟩
def Few1 (f:Fl) (w:World) (e:Ending) (w':World):Prop:=∃ b,e=.returned (.bool b)∧(b=true→fitB f=true∧f.n≤16∧f.prods.length≤16)∧Below w.heap.size w w'
set_option maxRecDepth 100000 in
set_option maxHeartbeats 1600000 in
theorem few11_any (f:Fl) (a:FlA) (w:World) (hf:FlAt f a w) :
    Calls Tryz.prog 8 #[a.val f] w fun e w'=>Few1 f w e w':=by
  have hL:=fun W (hb:Below w.heap.size w W)=>light_any f a W (hf.next hb)
  have hF:=fun W (hb:Below w.heap.size w W)=>fit_any f a W (hf.next hb)
  have hI:=fun W (hb:Below w.heap.size w W)=>items_any f a W (hf.next hb)
  obtain ⟨ta,tc,na,nc,pa,pc⟩:=a
  have X0:=FBox.new f ⟨ta,tc,na,nc,pa,pc⟩ 25 w
  obtain ⟨h0,h1,h2,h3,h4,h5,h6,h7⟩:=hf
  clear h0 h1 h2
  have B0:Below w.heap.size w (w.alloc (fobj f ⟨ta,tc,na,nc,pa,pc⟩ 25)):=(Below.refl _ _).alloc (Nat.le_refl _) _
  unfold fobj at X0 B0
  unfold FlA.val at hL hF hI ⊢
  simp only at *
  have HL:Hid (∀ W,Below w.heap.size w W→Calls Tryz.prog 28 #[.agg #[.slice ta f.terms.length tc,.slice na f.nons.length nc,.slice pa f.prods.length pc]] W fun e w'=>e=.returned (.bool (lightB f))∧Below W.heap.size W w'):=hL
  have HF:Hid (∀ W,Below w.heap.size w W→Calls Tryz.prog 29 #[.agg #[.slice ta f.terms.length tc,.slice na f.nons.length nc,.slice pa f.prods.length pc]] W fun e w'=>e=.returned (.bool (fitB f))∧Below W.heap.size W w'):=hF
  have HI:Hid (∀ W,Below w.heap.size w W→f.prods.length≤1000→Calls Tryz.prog 30 #[.agg #[.slice ta f.terms.length tc,.slice na f.nons.length nc,.slice pa f.prods.length pc]] W fun e w'=>∃ z,e=.returned (.int .i64 z)∧Below W.heap.size W w'):=hI
  clear hL hF hI
  go_enter Tryz.func8,Tryz.ntmps8
  go_wp2_with fail
  refine (HL.out _ B0).mono ?_
  rintro e w1 ⟨rfl,hb1⟩
  have X1:=X0.next hb1
  have B1:=below_then B0 hb1 B0.size
  clear X0 B0 HL hb1
  obtain ⟨x1,d0,d1,d2⟩:=id X1
  simp only at d0 d1 d2
  cases hl:lightB f with
  | false =>
    clear hl HF HI
    go_wp2_with fail
    go_ret
    exact ⟨false,rfl,(fun h=>by cases h),B1⟩
  | true =>
  go_wp2_with fail
  refine (HF.out _ B1).mono ?_
  rintro e w2 ⟨rfl,hb2⟩
  have X2:=X1.next hb2
  have B2:=below_then B1 hb2 B1.size
  clear X1 B1 HF hb2 x1 d0 d1 d2
  obtain ⟨x1,d0,d1,d2⟩:=id X2
  simp only at d0 d1 d2
  cases ht:fitB f with
  | false =>
    clear hl ht HI
    go_wp2_with fail
    go_ret
    exact ⟨false,rfl,(fun h=>by cases h),B2⟩
  | true =>
  have HFT:Hid (fitB f=true):=ht
  clear hl ht
  by_cases z1:f.terms.length+f.nons.length≤16
  · by_cases z2:f.prods.length≤16
    · have HCI:=HI.out _ B2 (by omega)
      have y1:decide ((f.terms.length:Int)+f.nons.length≤16)=true:=decide_eq_true (by omega)
      have y2:decide ((f.prods.length:Int)≤16)=true:=decide_eq_true (by omega)
      have y3:(f.terms.length:Int)+f.nons.length≤16:=by omega
      clear HI
      go_wp2_with fail
      refine HCI.mono ?_
      rintro e w3 ⟨z,rfl,hb3⟩
      have B3:=below_then B2 hb3 B2.size
      clear HCI hb3
      go_wp2_with fail
      go_ret
      exact ⟨_,rfl,fun _=>⟨HFT.out,z1,z2⟩,B3⟩
    · have y2:decide ((f.prods.length:Int)≤16)=false:=decide_eq_false (by omega)
      have y1:decide ((f.terms.length:Int)+f.nons.length≤16)=true:=decide_eq_true (by omega)
      have y3:(f.terms.length:Int)+f.nons.length≤16:=by omega
      have y4:¬ (f.prods.length:Int)≤16:=by omega
      clear HI
      go_wp2_with fail
      go_ret
      exact ⟨false,rfl,(fun h=>by cases h),B2⟩
  · have y1:decide ((f.terms.length:Int)+f.nons.length≤16)=false:=decide_eq_false (by omega)
    have y3:¬ (f.terms.length:Int)+f.nons.length≤16:=by omega
    clear HI
    go_wp2_with fail
    go_ret
    exact ⟨false,rfl,(fun h=>by cases h),B2⟩
theorem neqA2 (a b:Int) (w:World):(binOp .neq 38 (.agg #[.int .i64 a,.int .i64 b]) (.agg #[.int .i64 a,.int .i64 b])).run Tryz.prog w=.ok (.bool false) w:=by
  have u3:=Tryz.underlying3
  have a3:=Tryz.isAgg3
  have z3:=Tryz.sizeOf3
  have hS:Tryz.prog.underlying 38=some (.array 2 3):=by kernel_rfl
  obtain ⟨i,hi⟩:=info_of_underlying u3
  have hc:Tryz.prog.cellsOf 3=1:=by kernel_rfl
  have hk:Tryz.prog.plainKey 3=true:=by kernel_rfl
  rw [run_neq_struct,show (10000:Nat)=9998+1+1 from rfl,run_equalIn_array w (9998+1) _ _ hS hi]
  have e2:List.range 2=[0,1]:=rfl
  rw [e2,hc]
  simp [Op.eqItems,Sem.run_bind,run_part_plain w hk,run_equalIn_int w 9998 3 .i64 .i64 _ _ u3]
theorem placeB_iff {t:Nat} {n:Int} (hn:0≤n) (a:Ac):placeB t n a=true↔0≤a.look∧a.look≤t∧-1≤a.to∧a.to<n∧(a.look=t→a.to<0)∧(a.acc=true→¬ a.look<t):=by
  unfold placeB
  split
  · rename_i h
    simp only [beq_iff_eq]
    constructor
    · intro h1
      exact ⟨by omega,by omega,by omega,by omega,fun _=>by omega,fun _=>by omega⟩
    · rintro ⟨_,_,h3,_,h5,_⟩
      have:=h5 h
      omega
  · rename_i h
    simp only [Bool.and_eq_true,Bool.or_eq_true,decide_eq_true_eq,beq_iff_eq,Bool.not_eq_true']
    constructor
    · rintro ⟨⟨h1,h2⟩,h3,h4⟩
      exact ⟨h1,by omega,by omega,by omega,fun h'=>absurd h' h,fun h'=>by rw [h3] at h'; cases h'⟩
    · rintro ⟨h1,h2,h3,h4,_,h6⟩
      refine ⟨⟨h1,by omega⟩,?_,by omega⟩
      cases hc:a.acc with
      | false=>rfl
      | true=>exact absurd (by omega) (h6 hc)
def redTo (P:Nat) (l:List Int) (i:Nat):Prop:=∀ k,(h:k<l.length)→k<i→0≤l[k]∧l[k]<(P:Int)∧(0<k→l[k - 1]<l[k])
theorem redTo_all {P:Nat} {l:List Int} (h:redTo P l l.length):redB P l=true:=by
  unfold redB
  rw [Bool.and_eq_true]
  refine ⟨List.all_eq_true.2 (fun x hx=>?_),(risesB_iff l).2 (fun k hk=>?_)⟩
  · obtain ⟨k,hk,rfl⟩:=List.getElem_of_mem hx
    exact decide_eq_true ⟨(h k hk hk).1,(h k hk hk).2.1⟩
  · exact (h (k+1) hk hk).2.2 (by omega)
theorem redTo_no {P:Nat} {l:List Int} {k:Nat} (hk:k<l.length) (h:¬ (0≤l[k]∧l[k]<(P:Int)∧(0<k→l[k - 1]<l[k]))):redB P l=false:=by
  cases hb:redB P l with
  | false=>rfl
  | true =>
    exfalso
    unfold redB at hb
    rw [Bool.and_eq_true] at hb
    have h1:=List.all_eq_true.1 hb.1 l[k] (List.getElem_mem hk)
    have h1':=of_decide_eq_true h1
    refine h ⟨h1'.1,h1'.2,fun h0=>?_⟩
    have:=(risesB_iff l).1 hb.2 (k - 1) (by omega)
    have e:k - 1+1=k:=by omega
    simpa only [e] using this
set_option maxRecDepth 100000 in
set_option maxHeartbeats 4000000 in
theorem rfitAct_any (f:Fl) (fa:FlA) (n:Int) (hn:0≤n) (a:Ac) (u:Value) (w:World) (hu:SlI a.red u w) (hlen:a.red.length≤140737488351232) :
    Calls Tryz.prog 42 #[fa.val f,.agg #[.int .i64 a.look,.int .i64 a.to,u,.bool a.acc],.int .i64 n] w fun e w'=>e=.returned (.bool (actB f.terms.length f.prods.length n a))∧Below w.heap.size w w':=by
  have HU:Hid (∀ W,Below w.heap.size w W→SlI a.red u W):=fun W hb=>hu.next hb
  obtain ⟨ua,uc,rfl,_⟩:=hu
  obtain ⟨ta,tc,na,nc,pa,pc⟩:=fa
  obtain ⟨a0,a1,ar,a3⟩:=a
  unfold FlA.val
  simp only at *
  have B0:Below w.heap.size w ((w.alloc (Obj.cells #[.slice ta f.terms.length tc,.slice na f.nons.length nc,.slice pa f.prods.length pc] 25)).alloc (Obj.cells #[.int .i64 a0,.int .i64 a1,.slice ua ar.length uc,.bool a3] 45)):=((Below.refl _ _).alloc (Nat.le_refl _) _).alloc (by simp) _
  have e0:((w.alloc (Obj.cells #[.slice ta f.terms.length tc,.slice na f.nons.length nc,.slice pa f.prods.length pc] 25)).alloc (Obj.cells #[.int .i64 a0,.int .i64 a1,.slice ua ar.length uc,.bool a3] 45)).cell? ⟨w.heap.size,0,none⟩=some (.slice ta f.terms.length tc):=by simp
  have e1:((w.alloc (Obj.cells #[.slice ta f.terms.length tc,.slice na f.nons.length nc,.slice pa f.prods.length pc] 25)).alloc (Obj.cells #[.int .i64 a0,.int .i64 a1,.slice ua ar.length uc,.bool a3] 45)).cell? ⟨w.heap.size,1,none⟩=some (.slice na f.nons.length nc):=by simp
  have e2:((w.alloc (Obj.cells #[.slice ta f.terms.length tc,.slice na f.nons.length nc,.slice pa f.prods.length pc] 25)).alloc (Obj.cells #[.int .i64 a0,.int .i64 a1,.slice ua ar.length uc,.bool a3] 45)).cell? ⟨w.heap.size,2,none⟩=some (.slice pa f.prods.length pc):=by simp
  have e3:((w.alloc (Obj.cells #[.slice ta f.terms.length tc,.slice na f.nons.length nc,.slice pa f.prods.length pc] 25)).alloc (Obj.cells #[.int .i64 a0,.int .i64 a1,.slice ua ar.length uc,.bool a3] 45)).cell? ⟨w.heap.size+1,0,none⟩=some (.int .i64 a0):=by simp
  have e4:((w.alloc (Obj.cells #[.slice ta f.terms.length tc,.slice na f.nons.length nc,.slice pa f.prods.length pc] 25)).alloc (Obj.cells #[.int .i64 a0,.int .i64 a1,.slice ua ar.length uc,.bool a3] 45)).cell? ⟨w.heap.size+1,1,none⟩=some (.int .i64 a1):=by simp
  have e5:((w.alloc (Obj.cells #[.slice ta f.terms.length tc,.slice na f.nons.length nc,.slice pa f.prods.length pc] 25)).alloc (Obj.cells #[.int .i64 a0,.int .i64 a1,.slice ua ar.length uc,.bool a3] 45)).cell? ⟨w.heap.size+1,2,none⟩=some (.slice ua ar.length uc):=by simp
  have e6:((w.alloc (Obj.cells #[.slice ta f.terms.length tc,.slice na f.nons.length nc,.slice pa f.prods.length pc] 25)).alloc (Obj.cells #[.int .i64 a0,.int .i64 a1,.slice ua ar.length uc,.bool a3] 45)).cell? ⟨w.heap.size+1,3,none⟩=some (.bool a3):=by simp
  have hsz:w.heap.size+1<((w.alloc (Obj.cells #[.slice ta f.terms.length tc,.slice na f.nons.length nc,.slice pa f.prods.length pc] 25)).alloc (Obj.cells #[.int .i64 a0,.int .i64 a1,.slice ua ar.length uc,.bool a3] 45)).heap.size:=by simp
  have HP:Hid (placeB f.terms.length n ⟨a0,a1,ar,a3⟩=true↔0≤a0∧a0≤(f.terms.length:Int)∧-1≤a1∧a1<n∧(a0=(f.terms.length:Int)→a1<0)∧(a3=true→¬ a0<(f.terms.length:Int))):=placeB_iff hn _
  have HR:Hid (actB f.terms.length f.prods.length n ⟨a0,a1,ar,a3⟩=(placeB f.terms.length n ⟨a0,a1,ar,a3⟩ && redB f.prods.length ar && doesF ⟨a0,a1,ar,a3⟩)):=rfl
  have HD:Hid (doesF ⟨a0,a1,ar,a3⟩=decide (a1≠-1∨0<ar.length∨a3=true)):=rfl
  have HLE:Hid (-1≤a1∨placeB f.terms.length n ⟨a0,a1,ar,a3⟩=false):=by
    cases hb:placeB f.terms.length n ⟨a0,a1,ar,a3⟩ with
    | false=>exact .inr rfl
    | true=>exact .inl (HP.out.1 hb).2.2.1
  generalize actB f.terms.length f.prods.length n ⟨a0,a1,ar,a3⟩=R at *
  generalize placeB f.terms.length n ⟨a0,a1,ar,a3⟩=PB at *
  generalize doesF ⟨a0,a1,ar,a3⟩=DF at *
  go_enter Tryz.func42,Tryz.ntmps42
  go_upto_region 1 with fail
  generalize ((w.alloc (Obj.cells #[.slice ta f.terms.length tc,.slice na f.nons.length nc,.slice pa f.prods.length pc] 25)).alloc (Obj.cells #[.int .i64 a0,.int .i64 a1,.slice ua ar.length uc,.bool a3] 45))=w0 at *
  go_upto_region 2 with fail
  have HC:Hid (w0.cell? ⟨w.heap.size,0,none⟩=some (.slice ta f.terms.length tc)∧w0.cell? ⟨w.heap.size,1,none⟩=some (.slice na f.nons.length nc)∧w0.cell? ⟨w.heap.size,2,none⟩=some (.slice pa f.prods.length pc)∧w0.cell? ⟨w.heap.size+1,0,none⟩=some (.int .i64 a0)∧w0.cell? ⟨w.heap.size+1,1,none⟩=some (.int .i64 a1)∧w0.cell? ⟨w.heap.size+1,2,none⟩=some (.slice ua ar.length uc)∧w0.cell? ⟨w.heap.size+1,3,none⟩=some (.bool a3)):=⟨e0,e1,e2,e3,e4,e5,e6⟩
  have HT:Hid (∃ T:Nat,f.terms.length=T):=⟨_,rfl⟩
  go_cut [52] from 12 to 52 (fun t52 wx=>t52=.bool (!PB)∧wx=w0)
  case first =>
    clear HD HLE HR HU HT hlen
    generalize f.terms.length=T at *
    have HN:Hid (¬ (0≤a0∧a0≤(T:Int)∧-1≤a1∧a1<n∧(a0=(T:Int)→a1<0)∧(a3=true→¬ a0<(T:Int)))→PB=false):=fun h=>by
      cases PB with
      | false=>rfl
      | true=>exact absurd (HP.out.1 rfl) h
    have HY:Hid ((0≤a0∧a0≤(T:Int)∧-1≤a1∧a1<n∧(a0=(T:Int)→a1<0)∧(a3=true→¬ a0<(T:Int)))→PB=true):=HP.out.2
    clear HP
    by_cases c1:a0<0
    · have HE:Hid (PB=false):=HN.out (fun h=>by omega)
      clear HN HY
      go_wp2_with fail
      go_meet
      exact ⟨by rw [HE.out]; rfl,rfl⟩
    by_cases c2:(T:Int)<a0
    · have HE:Hid (PB=false):=HN.out (fun h=>by omega)
      clear HN HY
      go_wp2_with fail
      go_meet
      exact ⟨by rw [HE.out]; rfl,rfl⟩
    by_cases c3:a1 < -1
    · have HE:Hid (PB=false):=HN.out (fun h=>by omega)
      clear HN HY
      go_wp2_with fail
      go_meet
      exact ⟨by rw [HE.out]; rfl,rfl⟩
    by_cases c4:n≤a1
    · have HE:Hid (PB=false):=HN.out (fun h=>by omega)
      clear HN HY
      go_wp2_with fail
      go_meet
      exact ⟨by rw [HE.out]; rfl,rfl⟩
    by_cases c5:a0=(T:Int)
    · have c5':(a0 == (T:Int))=true:=by simpa using c5
      have c5n:¬ a0<(T:Int):=by omega
      by_cases c6:0≤a1
      · have HE:Hid (PB=false):=HN.out (fun h=>by have:=h.2.2.2.2.1 c5; omega)
        clear HN HY c5
        go_wp2_with fail
        go_meet
        exact ⟨by rw [HE.out]; rfl,rfl⟩
      · have HE:Hid (PB=true):=HY.out ⟨by omega,by omega,by omega,by omega,fun _=>by omega,fun _=>by omega⟩
        clear HN HY c5
        cases a3 with
        | true =>
          go_wp2_with fail
          go_meet
          exact ⟨by rw [HE.out]; rfl,rfl⟩
        | false =>
          go_wp2_with fail
          go_meet
          exact ⟨by rw [HE.out]; rfl,rfl⟩
    · have c5':(a0 == (T:Int))=false:=by simpa using c5
      have c5n:a0<(T:Int):=by omega
      cases a3 with
      | true =>
        have HE:Hid (PB=false):=HN.out (fun h=>h.2.2.2.2.2 rfl c5n)
        clear HN HY c5
        go_wp2_with fail
        go_meet
        exact ⟨by rw [HE.out]; rfl,rfl⟩
      | false =>
        have HE:Hid (PB=true):=HY.out ⟨by omega,by omega,by omega,by omega,fun h=>absurd h c5,fun h=>by cases h⟩
        clear HN HY c5
        go_wp2_with fail
        go_meet
        exact ⟨by rw [HE.out]; rfl,rfl⟩
  case rest =>
  obtain ⟨rfl,rfl⟩:=hcut
  cases PB with
  | false =>
    have HE:Hid (R=false):=HR.out.trans (by simp)
    clear HR HD HLE HP HC HU
    go_wp2_with fail
    go_ret
    exact ⟨by rw [HE.out]; rfl,B0⟩
  | true =>
  have HRB:Hid (R=(redB f.prods.length ar && DF)):=HR.out.trans (by simp)
  have HA1:Hid (-1≤a1):=HLE.out.resolve_right (by simp)
  have HCL:Hid (∀ W,Below wc.heap.size wc W→W.cell? ⟨w.heap.size,0,none⟩=some (.slice ta f.terms.length tc)∧W.cell? ⟨w.heap.size,1,none⟩=some (.slice na f.nons.length nc)∧W.cell? ⟨w.heap.size,2,none⟩=some (.slice pa f.prods.length pc)∧W.cell? ⟨w.heap.size+1,0,none⟩=some (.int .i64 a0)∧W.cell? ⟨w.heap.size+1,1,none⟩=some (.int .i64 a1)∧W.cell? ⟨w.heap.size+1,2,none⟩=some (.slice ua ar.length uc)∧W.cell? ⟨w.heap.size+1,3,none⟩=some (.bool a3)):=fun W hW=>⟨(hW.cell (p:=⟨w.heap.size,0,none⟩) (by show w.heap.size<_; omega)).trans e0,(hW.cell (p:=⟨w.heap.size,1,none⟩) (by show w.heap.size<_; omega)).trans e1,(hW.cell (p:=⟨w.heap.size,2,none⟩) (by show w.heap.size<_; omega)).trans e2,(hW.cell (p:=⟨w.heap.size+1,0,none⟩) (by show w.heap.size+1<_; omega)).trans e3,(hW.cell (p:=⟨w.heap.size+1,1,none⟩) (by show w.heap.size+1<_; omega)).trans e4,(hW.cell (p:=⟨w.heap.size+1,2,none⟩) (by show w.heap.size+1<_; omega)).trans e5,(hW.cell (p:=⟨w.heap.size+1,3,none⟩) (by show w.heap.size+1<_; omega)).trans e6⟩
  have HSL:Hid (∀ W,Below wc.heap.size wc W→SlI ar (.slice ua ar.length uc) W∧Below w.heap.size w W):=fun W hW=>⟨HU.out W (B0.trans (hW.mono B0.size)),B0.trans (hW.mono B0.size)⟩
  clear HR HLE HP HC HU HT e0 e1 e2 e3 e4 e5 e6 hsz
  go_wp2_with fail
  go_loopw [8] (fun iv wr=>∃ (i:Nat),iv=.int .i64 i∧i≤ar.length∧redTo f.prods.length ar i∧Below wc.heap.size wc wr) (fun i _=>ar.length - (intOf i).toNat)
  case atStart=>exact ⟨0,rfl,Nat.zero_le _,fun k _ hk=>by omega,Below.refl _ _⟩
  case round =>
  obtain ⟨i,rfl,hi,hto,BR⟩:=hrel
  have HTO:Hid (redTo f.prods.length ar i):=hto
  clear hto
  by_cases hlt:i<ar.length
  case neg =>
    obtain rfl:i=ar.length:=by omega
    have HE:Hid (R=DF):=HRB.out.trans (by rw [redTo_all HTO.out]; rfl)
    obtain ⟨_,_,_,q0,q1,q2,q3⟩:=HCL.out wr BR
    have QB:=(HSL.out wr BR).2
    have ha1:=HA1.out
    clear HRB HTO HCL HSL
    by_cases c1:0≤a1
    · have HE2:Hid (R=true):=HE.out.trans (HD.out.trans (decide_eq_true (.inl (by omega))))
      clear HE HD
      go_wp2_with fail
      go_ret
      exact ⟨by rw [HE2.out]; rfl,QB⟩
    obtain rfl:a1=-1:=by omega
    cases a3 with
    | true =>
      have HE2:Hid (R=true):=HE.out.trans (HD.out.trans (decide_eq_true (.inr (.inr rfl))))
      clear HE HD
      go_wp2_with fail
      go_ret
      exact ⟨by rw [HE2.out]; rfl,QB⟩
    | false =>
      have HE2:Hid (R=decide (0<ar.length)):=HE.out.trans (HD.out.trans (by simp))
      clear HE HD
      by_cases c2:0<ar.length
      · have HE3:Hid (R=true):=HE2.out.trans (decide_eq_true c2)
        clear HE2
        go_wp2_with fail
        go_ret
        exact ⟨by rw [HE3.out]; rfl,QB⟩
      · have HE3:Hid (R=false):=HE2.out.trans (decide_eq_false c2)
        clear HE2
        go_wp2_with fail
        go_ret
        exact ⟨by rw [HE3.out]; rfl,QB⟩
  have hlt1:i - 1<ar.length:=by omega
  obtain ⟨⟨_,_,e0,hrl,_⟩,_⟩:=HSL.out wr.drew BR.drew
  cases e0
  obtain ⟨b2,o2,rfl,hb2,p0⟩:=hrl.at (Below.refl _ _) hlt1
  obtain ⟨_,_,e1,_,q0⟩:=hrl.at (Below.refl _ _) hlt
  cases e1
  unfold encI at p0 q0
  have HRN:Hid (¬ (0≤ar[i]∧ar[i]<(f.prods.length:Int)∧(0<i→ar[i - 1]<ar[i]))→R=false):=fun h=>HRB.out.trans (by rw [redTo_no hlt h]; rfl)
  have HRY:Hid ((0≤ar[i]∧ar[i]<(f.prods.length:Int)∧(0<i→ar[i - 1]<ar[i]))→redTo f.prods.length ar (i+1)):=fun h k hk hk1=>by
    rcases Nat.lt_or_ge k i with h' | h'
    · exact HTO.out k hk h'
    · obtain rfl:k=i:=by omega
      exact h
  generalize ar[i - 1]=p at *
  generalize ar[i]=x at *
  obtain ⟨GB,hGB⟩:∃ GB:Bool,(0≤x∧x<(f.prods.length:Int)∧(0<i→p<x))↔GB=true:=⟨decide (0≤x∧x<(f.prods.length:Int)∧(0<i→p<x)),decide_eq_true_iff.symm⟩
  have HGB:Hid ((0≤x∧x<(f.prods.length:Int)∧(0<i→p<x))↔GB=true):=hGB
  have HGN:Hid (¬ (0≤x∧x<(f.prods.length:Int)∧(0<i→p<x))→GB=false):=fun h=>by
    cases GB with
    | false=>rfl
    | true=>exact absurd (hGB.2 rfl) h
  clear hGB
  obtain ⟨_,_,r2,_,_,s2,_⟩:=HCL.out wr.drew BR.drew
  obtain ⟨_,_,_,_,_,S2,_⟩:=HCL.out wr BR
  have hS0:(fun W:World=>(W.cell? ⟨w.heap.size,2,none⟩=some (.slice pa f.prods.length pc)∧W.cell? ⟨w.heap.size+1,2,none⟩=some (.slice (some ⟨b2,o2,none⟩) ar.length uc)∧W.cell? ⟨b2,o2+(i - 1),none⟩=some (.int .i64 p)∧W.cell? ⟨b2,o2+i,none⟩=some (.int .i64 x))) wr.drew:=⟨r2,s2,p0,q0⟩
  have hw1:0<i→IntKind.i64.wrap ((i:Int) - 1)=((i - 1:Nat):Int):=fun h=>by rw [IntKind.wrap_i64]; omega
  clear r2 s2 p0 q0 hrl
  go_upto_region 7 with fail
  clear S2
  go_cut [94] from 60 to 94 (fun t94 wx=>t94=.bool (!GB)∧wx=wr.drew)
  case first =>
    clear HRN HRY HTO HRB HD HA1 HCL HSL
    by_cases c1:x<0
    · have HE:Hid (GB=false):=HGN.out (fun h=>by omega)
      have g1:decide (x<0)=true:=decide_eq_true c1
      clear HGN HGB hw1
      go_wp2_with fail
      refine wp_region_L (fun W=>W.cell? ⟨w.heap.size,2,none⟩=some (.slice pa f.prods.length pc)∧W.cell? ⟨w.heap.size+1,2,none⟩=some (.slice (some ⟨b2,o2,none⟩) ar.length uc)∧W.cell? ⟨b2,o2+(i - 1),none⟩=some (.int .i64 p)∧W.cell? ⟨b2,o2+i,none⟩=some (.int .i64 x)) 35 (by kernel_rfl) 35 rfl ?_
      refine tk 0 ⟨some 60,.fieldAddr 45 (.tmp 4) 2,0, "ref.go:105",#[],none⟩ hS0 ?_;simp only [Act.put,sA,s0,sS]
      refine tk 1 ⟨some 61,.load 43 (.tmp 60),43, "ref.go:105",#[⟨0,.data⟩],none⟩ hS0 ?_;simp only [Act.put,sA,s0,sS]
      refine tk 2 ⟨some 62,.move (.tmp 8),3, "ref.go:105",#[],none⟩ hS0 ?_;simp only [Act.put,sA,s0,sS]
      refine tk 3 ⟨some 63,.indexAddr 43 (.tmp 61) (.tmp 62),0, "ref.go:105",#[⟨1,.data⟩,⟨2,.data⟩],none⟩ hS0 ?_;simp only [Act.put,sA,s0,sS]
      refine tk 4 ⟨some 64,.load 3 (.tmp 63),3, "ref.go:105",#[⟨3,.data⟩],none⟩ hS0 ?_;simp only [Act.put,sA,s0,sS]
      refine tk 5 ⟨some 65,.binOp .lss 3 (.tmp 64) (.const (.int .i64 0)) 3,4, "ref.go:105",#[⟨4,.data⟩],none⟩ hS0 ?_;simp only [Act.put,sA,s0,sS]
      refine tk 6 ⟨some 66,.move (.tmp 65),4, "ref.go:105",#[⟨5,.data⟩],none⟩ hS0 ?_;simp only [Act.put,sA,s0,sS]
      refine tu 7 ⟨some 67,.fieldAddr 45 (.tmp 4) 2,0, "ref.go:105",#[⟨6,.guard⟩],some (6,false)⟩ hS0 ?_;simp only [Act.put,sA,s0,sS]
      refine tu 8 ⟨some 68,.load 43 (.tmp 67),43, "ref.go:105",#[⟨7,.data⟩,⟨6,.guard⟩],some (6,false)⟩ hS0 ?_;simp only [Act.put,sA,s0,sS]
      refine tu 9 ⟨some 69,.move (.tmp 8),3, "ref.go:105",#[⟨6,.guard⟩],some (6,false)⟩ hS0 ?_;simp only [Act.put,sA,s0,sS]
      refine tu 10 ⟨some 70,.indexAddr 43 (.tmp 68) (.tmp 69),0, "ref.go:105",#[⟨8,.data⟩,⟨9,.data⟩,⟨6,.guard⟩],some (6,false)⟩ hS0 ?_;simp only [Act.put,sA,s0,sS]
      refine tu 11 ⟨some 71,.load 3 (.tmp 70),3, "ref.go:105",#[⟨10,.data⟩,⟨6,.guard⟩],some (6,false)⟩ hS0 ?_;simp only [Act.put,sA,s0,sS]
      refine tu 12 ⟨some 72,.fieldAddr 25 (.tmp 3) 2,0, "ref.go:105",#[⟨6,.guard⟩],some (6,false)⟩ hS0 ?_;simp only [Act.put,sA,s0,sS]
      refine tu 13 ⟨some 73,.load 23 (.tmp 72),23, "ref.go:105",#[⟨12,.data⟩,⟨6,.guard⟩],some (6,false)⟩ hS0 ?_;simp only [Act.put,sA,s0,sS]
      refine tu 14 ⟨some 74,.call ⟨.builtin .len,#[.tmp 73],#[23]⟩,3, "ref.go:105",#[⟨13,.data⟩,⟨6,.guard⟩],some (6,false)⟩ hS0 ?_;simp only [Act.put,sA,s0,sS]
      refine tu 15 ⟨some 75,.binOp .geq 3 (.tmp 71) (.tmp 74) 3,4, "ref.go:105",#[⟨11,.data⟩,⟨14,.data⟩,⟨6,.guard⟩],some (6,false)⟩ hS0 ?_;simp only [Act.put,sA,s0,sS]
      refine tk 16 ⟨some 76,.pick (.tmp 66) (.const (.bool true)) (.tmp 75),4, "ref.go:105",#[⟨6,.data⟩,⟨15,.data⟩],none⟩ hS0 ?_;simp only [Act.put,sA,s0,sS]
      refine tk 17 ⟨some 77,.move (.tmp 76),4, "ref.go:105",#[⟨16,.data⟩,⟨6,.chain⟩],none⟩ hS0 ?_;simp only [Act.put,sA,s0,sS]
      refine tu 18 ⟨some 78,.move (.tmp 8),3, "ref.go:105",#[⟨17,.guard⟩],some (17,false)⟩ hS0 ?_;simp only [Act.put,sA,s0,sS]
      refine tu 19 ⟨some 79,.binOp .gtr 3 (.tmp 78) (.const (.int .i64 0)) 3,4, "ref.go:105",#[⟨18,.data⟩,⟨17,.guard⟩],some (17,false)⟩ hS0 ?_;simp only [Act.put,sA,s0,sS]
      refine tu 20 ⟨some 80,.move (.tmp 79),4, "ref.go:105",#[⟨19,.data⟩,⟨17,.chain⟩,⟨17,.guard⟩],some (17,false)⟩ hS0 ?_;simp only [Act.put,sA,s0,sS]
      refine tu 21 ⟨some 81,.fieldAddr 45 (.tmp 4) 2,0, "ref.go:105",#[⟨20,.guard⟩],some (20,true)⟩ hS0 ?_;simp only [Act.put,sA,s0,sS]
      refine tu 22 ⟨some 82,.load 43 (.tmp 81),43, "ref.go:105",#[⟨21,.data⟩,⟨20,.guard⟩],some (20,true)⟩ hS0 ?_;simp only [Act.put,sA,s0,sS]
      refine tu 23 ⟨some 83,.move (.tmp 8),3, "ref.go:105",#[⟨20,.guard⟩],some (20,true)⟩ hS0 ?_;simp only [Act.put,sA,s0,sS]
      refine tu 24 ⟨some 84,.binOp .sub 3 (.tmp 83) (.const (.int .i64 1)) 3,3, "ref.go:105",#[⟨23,.data⟩,⟨20,.guard⟩],some (20,true)⟩ hS0 ?_;simp only [Act.put,sA,s0,sS]
      refine tu 25 ⟨some 85,.indexAddr 43 (.tmp 82) (.tmp 84),0, "ref.go:105",#[⟨22,.data⟩,⟨24,.data⟩,⟨20,.guard⟩],some (20,true)⟩ hS0 ?_;simp only [Act.put,sA,s0,sS]
      refine tu 26 ⟨some 86,.load 3 (.tmp 85),3, "ref.go:105",#[⟨25,.data⟩,⟨20,.guard⟩],some (20,true)⟩ hS0 ?_;simp only [Act.put,sA,s0,sS]
      refine tu 27 ⟨some 87,.fieldAddr 45 (.tmp 4) 2,0, "ref.go:105",#[⟨20,.guard⟩],some (20,true)⟩ hS0 ?_;simp only [Act.put,sA,s0,sS]
      refine tu 28 ⟨some 88,.load 43 (.tmp 87),43, "ref.go:105",#[⟨27,.data⟩,⟨20,.guard⟩],some (20,true)⟩ hS0 ?_;simp only [Act.put,sA,s0,sS]
      refine tu 29 ⟨some 89,.move (.tmp 8),3, "ref.go:105",#[⟨20,.guard⟩],some (20,true)⟩ hS0 ?_;simp only [Act.put,sA,s0,sS]
      refine tu 30 ⟨some 90,.indexAddr 43 (.tmp 88) (.tmp 89),0, "ref.go:105",#[⟨28,.data⟩,⟨29,.data⟩,⟨20,.guard⟩],some (20,true)⟩ hS0 ?_;simp only [Act.put,sA,s0,sS]
      refine tu 31 ⟨some 91,.load 3 (.tmp 90),3, "ref.go:105",#[⟨30,.data⟩,⟨20,.guard⟩],some (20,true)⟩ hS0 ?_;simp only [Act.put,sA,s0,sS]
      refine tu 32 ⟨some 92,.binOp .geq 3 (.tmp 86) (.tmp 91) 3,4, "ref.go:105",#[⟨26,.data⟩,⟨31,.data⟩,⟨20,.guard⟩],some (20,true)⟩ hS0 ?_;simp only [Act.put,sA,s0,sS]
      refine tu 33 ⟨some 93,.pick (.tmp 80) (.tmp 92) (.const (.bool false)),4, "ref.go:105",#[⟨20,.data⟩,⟨32,.data⟩,⟨17,.guard⟩],some (17,false)⟩ hS0 ?_;simp only [Act.put,sA,s0,sS]
      refine tk 34 ⟨some 94,.pick (.tmp 77) (.const (.bool true)) (.tmp 93),4, "ref.go:105",#[⟨17,.data⟩,⟨33,.data⟩],none⟩ hS0 ?_;simp only [Act.put,sA,s0,sS]
      refine wpAnyL_done (by kernel_rfl) ?_ _
      go_wp2_with fail
      go_meet
      exact ⟨by rw [HE.out]; rfl,rfl⟩
    have g1:decide (x<0)=false:=decide_eq_false c1
    by_cases c2:(f.prods.length:Int)≤x
    · have g2:decide ((f.prods.length:Int)≤x)=true:=decide_eq_true c2
      have HE:Hid (GB=false):=HGN.out (fun h=>by omega)
      clear HGN HGB hw1
      go_wp2_with fail
      refine wp_region_L (fun W=>W.cell? ⟨w.heap.size,2,none⟩=some (.slice pa f.prods.length pc)∧W.cell? ⟨w.heap.size+1,2,none⟩=some (.slice (some ⟨b2,o2,none⟩) ar.length uc)∧W.cell? ⟨b2,o2+(i - 1),none⟩=some (.int .i64 p)∧W.cell? ⟨b2,o2+i,none⟩=some (.int .i64 x)) 35 (by kernel_rfl) 35 rfl ?_
      refine tk 0 ⟨some 60,.fieldAddr 45 (.tmp 4) 2,0, "ref.go:105",#[],none⟩ hS0 ?_;simp only [Act.put,sA,s0,sS]
      refine tk 1 ⟨some 61,.load 43 (.tmp 60),43, "ref.go:105",#[⟨0,.data⟩],none⟩ hS0 ?_;simp only [Act.put,sA,s0,sS]
      refine tk 2 ⟨some 62,.move (.tmp 8),3, "ref.go:105",#[],none⟩ hS0 ?_;simp only [Act.put,sA,s0,sS]
      refine tk 3 ⟨some 63,.indexAddr 43 (.tmp 61) (.tmp 62),0, "ref.go:105",#[⟨1,.data⟩,⟨2,.data⟩],none⟩ hS0 ?_;simp only [Act.put,sA,s0,sS]
      refine tk 4 ⟨some 64,.load 3 (.tmp 63),3, "ref.go:105",#[⟨3,.data⟩],none⟩ hS0 ?_;simp only [Act.put,sA,s0,sS]
      refine tk 5 ⟨some 65,.binOp .lss 3 (.tmp 64) (.const (.int .i64 0)) 3,4, "ref.go:105",#[⟨4,.data⟩],none⟩ hS0 ?_;simp only [Act.put,sA,s0,sS]
      refine tk 6 ⟨some 66,.move (.tmp 65),4, "ref.go:105",#[⟨5,.data⟩],none⟩ hS0 ?_;simp only [Act.put,sA,s0,sS]
      refine tk 7 ⟨some 67,.fieldAddr 45 (.tmp 4) 2,0, "ref.go:105",#[⟨6,.guard⟩],some (6,false)⟩ hS0 ?_;simp only [Act.put,sA,s0,sS]
      refine tk 8 ⟨some 68,.load 43 (.tmp 67),43, "ref.go:105",#[⟨7,.data⟩,⟨6,.guard⟩],some (6,false)⟩ hS0 ?_;simp only [Act.put,sA,s0,sS]
      refine tk 9 ⟨some 69,.move (.tmp 8),3, "ref.go:105",#[⟨6,.guard⟩],some (6,false)⟩ hS0 ?_;simp only [Act.put,sA,s0,sS]
      refine tk 10 ⟨some 70,.indexAddr 43 (.tmp 68) (.tmp 69),0, "ref.go:105",#[⟨8,.data⟩,⟨9,.data⟩,⟨6,.guard⟩],some (6,false)⟩ hS0 ?_;simp only [Act.put,sA,s0,sS]
      refine tk 11 ⟨some 71,.load 3 (.tmp 70),3, "ref.go:105",#[⟨10,.data⟩,⟨6,.guard⟩],some (6,false)⟩ hS0 ?_;simp only [Act.put,sA,s0,sS]
      refine tk 12 ⟨some 72,.fieldAddr 25 (.tmp 3) 2,0, "ref.go:105",#[⟨6,.guard⟩],some (6,false)⟩ hS0 ?_;simp only [Act.put,sA,s0,sS]
      refine tk 13 ⟨some 73,.load 23 (.tmp 72),23, "ref.go:105",#[⟨12,.data⟩,⟨6,.guard⟩],some (6,false)⟩ hS0 ?_;simp only [Act.put,sA,s0,sS]
      refine tk 14 ⟨some 74,.call ⟨.builtin .len,#[.tmp 73],#[23]⟩,3, "ref.go:105",#[⟨13,.data⟩,⟨6,.guard⟩],some (6,false)⟩ hS0 ?_;simp only [Act.put,sA,s0,sS]
      refine tk 15 ⟨some 75,.binOp .geq 3 (.tmp 71) (.tmp 74) 3,4, "ref.go:105",#[⟨11,.data⟩,⟨14,.data⟩,⟨6,.guard⟩],some (6,false)⟩ hS0 ?_;simp only [Act.put,sA,s0,sS]
      refine tk 16 ⟨some 76,.pick (.tmp 66) (.const (.bool true)) (.tmp 75),4, "ref.go:105",#[⟨6,.data⟩,⟨15,.data⟩],none⟩ hS0 ?_;simp only [Act.put,sA,s0,sS]
      refine tk 17 ⟨some 77,.move (.tmp 76),4, "ref.go:105",#[⟨16,.data⟩,⟨6,.chain⟩],none⟩ hS0 ?_;simp only [Act.put,sA,s0,sS]
      refine tu 18 ⟨some 78,.move (.tmp 8),3, "ref.go:105",#[⟨17,.guard⟩],some (17,false)⟩ hS0 ?_;simp only [Act.put,sA,s0,sS]
      refine tu 19 ⟨some 79,.binOp .gtr 3 (.tmp 78) (.const (.int .i64 0)) 3,4, "ref.go:105",#[⟨18,.data⟩,⟨17,.guard⟩],some (17,false)⟩ hS0 ?_;simp only [Act.put,sA,s0,sS]
      refine tu 20 ⟨some 80,.move (.tmp 79),4, "ref.go:105",#[⟨19,.data⟩,⟨17,.chain⟩,⟨17,.guard⟩],some (17,false)⟩ hS0 ?_;simp only [Act.put,sA,s0,sS]
      refine tu 21 ⟨some 81,.fieldAddr 45 (.tmp 4) 2,0, "ref.go:105",#[⟨20,.guard⟩],some (20,true)⟩ hS0 ?_;simp only [Act.put,sA,s0,sS]
      refine tu 22 ⟨some 82,.load 43 (.tmp 81),43, "ref.go:105",#[⟨21,.data⟩,⟨20,.guard⟩],some (20,true)⟩ hS0 ?_;simp only [Act.put,sA,s0,sS]
      refine tu 23 ⟨some 83,.move (.tmp 8),3, "ref.go:105",#[⟨20,.guard⟩],some (20,true)⟩ hS0 ?_;simp only [Act.put,sA,s0,sS]
      refine tu 24 ⟨some 84,.binOp .sub 3 (.tmp 83) (.const (.int .i64 1)) 3,3, "ref.go:105",#[⟨23,.data⟩,⟨20,.guard⟩],some (20,true)⟩ hS0 ?_;simp only [Act.put,sA,s0,sS]
      refine tu 25 ⟨some 85,.indexAddr 43 (.tmp 82) (.tmp 84),0, "ref.go:105",#[⟨22,.data⟩,⟨24,.data⟩,⟨20,.guard⟩],some (20,true)⟩ hS0 ?_;simp only [Act.put,sA,s0,sS]
      refine tu 26 ⟨some 86,.load 3 (.tmp 85),3, "ref.go:105",#[⟨25,.data⟩,⟨20,.guard⟩],some (20,true)⟩ hS0 ?_;simp only [Act.put,sA,s0,sS]
      refine tu 27 ⟨some 87,.fieldAddr 45 (.tmp 4) 2,0, "ref.go:105",#[⟨20,.guard⟩],some (20,true)⟩ hS0 ?_;simp only [Act.put,sA,s0,sS]
      refine tu 28 ⟨some 88,.load 43 (.tmp 87),43, "ref.go:105",#[⟨27,.data⟩,⟨20,.guard⟩],some (20,true)⟩ hS0 ?_;simp only [Act.put,sA,s0,sS]
      refine tu 29 ⟨some 89,.move (.tmp 8),3, "ref.go:105",#[⟨20,.guard⟩],some (20,true)⟩ hS0 ?_;simp only [Act.put,sA,s0,sS]
      refine tu 30 ⟨some 90,.indexAddr 43 (.tmp 88) (.tmp 89),0, "ref.go:105",#[⟨28,.data⟩,⟨29,.data⟩,⟨20,.guard⟩],some (20,true)⟩ hS0 ?_;simp only [Act.put,sA,s0,sS]
      refine tu 31 ⟨some 91,.load 3 (.tmp 90),3, "ref.go:105",#[⟨30,.data⟩,⟨20,.guard⟩],some (20,true)⟩ hS0 ?_;simp only [Act.put,sA,s0,sS]
      refine tu 32 ⟨some 92,.binOp .geq 3 (.tmp 86) (.tmp 91) 3,4, "ref.go:105",#[⟨26,.data⟩,⟨31,.data⟩,⟨20,.guard⟩],some (20,true)⟩ hS0 ?_;simp only [Act.put,sA,s0,sS]
      refine tu 33 ⟨some 93,.pick (.tmp 80) (.tmp 92) (.const (.bool false)),4, "ref.go:105",#[⟨20,.data⟩,⟨32,.data⟩,⟨17,.guard⟩],some (17,false)⟩ hS0 ?_;simp only [Act.put,sA,s0,sS]
      refine tk 34 ⟨some 94,.pick (.tmp 77) (.const (.bool true)) (.tmp 93),4, "ref.go:105",#[⟨17,.data⟩,⟨33,.data⟩],none⟩ hS0 ?_;simp only [Act.put,sA,s0,sS]
      refine wpAnyL_done (by kernel_rfl) ?_ _
      go_wp2_with fail
      go_meet
      exact ⟨by rw [HE.out]; rfl,rfl⟩
    have g2:decide ((f.prods.length:Int)≤x)=false:=decide_eq_false c2
    by_cases c3:(0:Int)<(i:Int)
    · have g3:decide ((0:Int)<(i:Int))=true:=decide_eq_true c3
      have g5:decide (0<i)=true:=decide_eq_true (by omega)
      have g6:0<i:=by omega
      have hw2:=hw1 (by omega)
      by_cases c4:x≤p
      · have g4:decide (x≤p)=true:=decide_eq_true c4
        have HE:Hid (GB=false):=HGN.out (fun h=>by have:=h.2.2 (by omega); omega)
        clear HGN HGB hw1
        go_wp2_with fail
        refine wp_region_L (fun W=>W.cell? ⟨w.heap.size,2,none⟩=some (.slice pa f.prods.length pc)∧W.cell? ⟨w.heap.size+1,2,none⟩=some (.slice (some ⟨b2,o2,none⟩) ar.length uc)∧W.cell? ⟨b2,o2+(i - 1),none⟩=some (.int .i64 p)∧W.cell? ⟨b2,o2+i,none⟩=some (.int .i64 x)) 35 (by kernel_rfl) 35 rfl ?_
        refine tk 0 ⟨some 60,.fieldAddr 45 (.tmp 4) 2,0, "ref.go:105",#[],none⟩ hS0 ?_;simp only [Act.put,sA,s0,sS]
        refine tk 1 ⟨some 61,.load 43 (.tmp 60),43, "ref.go:105",#[⟨0,.data⟩],none⟩ hS0 ?_;simp only [Act.put,sA,s0,sS]
        refine tk 2 ⟨some 62,.move (.tmp 8),3, "ref.go:105",#[],none⟩ hS0 ?_;simp only [Act.put,sA,s0,sS]
        refine tk 3 ⟨some 63,.indexAddr 43 (.tmp 61) (.tmp 62),0, "ref.go:105",#[⟨1,.data⟩,⟨2,.data⟩],none⟩ hS0 ?_;simp only [Act.put,sA,s0,sS]
        refine tk 4 ⟨some 64,.load 3 (.tmp 63),3, "ref.go:105",#[⟨3,.data⟩],none⟩ hS0 ?_;simp only [Act.put,sA,s0,sS]
        refine tk 5 ⟨some 65,.binOp .lss 3 (.tmp 64) (.const (.int .i64 0)) 3,4, "ref.go:105",#[⟨4,.data⟩],none⟩ hS0 ?_;simp only [Act.put,sA,s0,sS]
        refine tk 6 ⟨some 66,.move (.tmp 65),4, "ref.go:105",#[⟨5,.data⟩],none⟩ hS0 ?_;simp only [Act.put,sA,s0,sS]
        refine tk 7 ⟨some 67,.fieldAddr 45 (.tmp 4) 2,0, "ref.go:105",#[⟨6,.guard⟩],some (6,false)⟩ hS0 ?_;simp only [Act.put,sA,s0,sS]
        refine tk 8 ⟨some 68,.load 43 (.tmp 67),43, "ref.go:105",#[⟨7,.data⟩,⟨6,.guard⟩],some (6,false)⟩ hS0 ?_;simp only [Act.put,sA,s0,sS]
        refine tk 9 ⟨some 69,.move (.tmp 8),3, "ref.go:105",#[⟨6,.guard⟩],some (6,false)⟩ hS0 ?_;simp only [Act.put,sA,s0,sS]
        refine tk 10 ⟨some 70,.indexAddr 43 (.tmp 68) (.tmp 69),0, "ref.go:105",#[⟨8,.data⟩,⟨9,.data⟩,⟨6,.guard⟩],some (6,false)⟩ hS0 ?_;simp only [Act.put,sA,s0,sS]
        refine tk 11 ⟨some 71,.load 3 (.tmp 70),3, "ref.go:105",#[⟨10,.data⟩,⟨6,.guard⟩],some (6,false)⟩ hS0 ?_;simp only [Act.put,sA,s0,sS]
        refine tk 12 ⟨some 72,.fieldAddr 25 (.tmp 3) 2,0, "ref.go:105",#[⟨6,.guard⟩],some (6,false)⟩ hS0 ?_;simp only [Act.put,sA,s0,sS]
        refine tk 13 ⟨some 73,.load 23 (.tmp 72),23, "ref.go:105",#[⟨12,.data⟩,⟨6,.guard⟩],some (6,false)⟩ hS0 ?_;simp only [Act.put,sA,s0,sS]
        refine tk 14 ⟨some 74,.call ⟨.builtin .len,#[.tmp 73],#[23]⟩,3, "ref.go:105",#[⟨13,.data⟩,⟨6,.guard⟩],some (6,false)⟩ hS0 ?_;simp only [Act.put,sA,s0,sS]
        refine tk 15 ⟨some 75,.binOp .geq 3 (.tmp 71) (.tmp 74) 3,4, "ref.go:105",#[⟨11,.data⟩,⟨14,.data⟩,⟨6,.guard⟩],some (6,false)⟩ hS0 ?_;simp only [Act.put,sA,s0,sS]
        refine tk 16 ⟨some 76,.pick (.tmp 66) (.const (.bool true)) (.tmp 75),4, "ref.go:105",#[⟨6,.data⟩,⟨15,.data⟩],none⟩ hS0 ?_;simp only [Act.put,sA,s0,sS]
        refine tk 17 ⟨some 77,.move (.tmp 76),4, "ref.go:105",#[⟨16,.data⟩,⟨6,.chain⟩],none⟩ hS0 ?_;simp only [Act.put,sA,s0,sS]
        refine tk 18 ⟨some 78,.move (.tmp 8),3, "ref.go:105",#[⟨17,.guard⟩],some (17,false)⟩ hS0 ?_;simp only [Act.put,sA,s0,sS]
        refine tk 19 ⟨some 79,.binOp .gtr 3 (.tmp 78) (.const (.int .i64 0)) 3,4, "ref.go:105",#[⟨18,.data⟩,⟨17,.guard⟩],some (17,false)⟩ hS0 ?_;simp only [Act.put,sA,s0,sS]
        refine tk 20 ⟨some 80,.move (.tmp 79),4, "ref.go:105",#[⟨19,.data⟩,⟨17,.chain⟩,⟨17,.guard⟩],some (17,false)⟩ hS0 ?_;simp only [Act.put,sA,s0,sS]
        refine tk 21 ⟨some 81,.fieldAddr 45 (.tmp 4) 2,0, "ref.go:105",#[⟨20,.guard⟩],some (20,true)⟩ hS0 ?_;simp only [Act.put,sA,s0,sS]
        refine tk 22 ⟨some 82,.load 43 (.tmp 81),43, "ref.go:105",#[⟨21,.data⟩,⟨20,.guard⟩],some (20,true)⟩ hS0 ?_;simp only [Act.put,sA,s0,sS]
        refine tk 23 ⟨some 83,.move (.tmp 8),3, "ref.go:105",#[⟨20,.guard⟩],some (20,true)⟩ hS0 ?_;simp only [Act.put,sA,s0,sS]
        refine tk 24 ⟨some 84,.binOp .sub 3 (.tmp 83) (.const (.int .i64 1)) 3,3, "ref.go:105",#[⟨23,.data⟩,⟨20,.guard⟩],some (20,true)⟩ hS0 ?_;simp only [Act.put,sA,s0,sS]
        try simp only [hw2]
        refine tk 25 ⟨some 85,.indexAddr 43 (.tmp 82) (.tmp 84),0, "ref.go:105",#[⟨22,.data⟩,⟨24,.data⟩,⟨20,.guard⟩],some (20,true)⟩ hS0 ?_;simp only [Act.put,sA,s0,sS]
        refine tk 26 ⟨some 86,.load 3 (.tmp 85),3, "ref.go:105",#[⟨25,.data⟩,⟨20,.guard⟩],some (20,true)⟩ hS0 ?_;simp only [Act.put,sA,s0,sS]
        refine tk 27 ⟨some 87,.fieldAddr 45 (.tmp 4) 2,0, "ref.go:105",#[⟨20,.guard⟩],some (20,true)⟩ hS0 ?_;simp only [Act.put,sA,s0,sS]
        refine tk 28 ⟨some 88,.load 43 (.tmp 87),43, "ref.go:105",#[⟨27,.data⟩,⟨20,.guard⟩],some (20,true)⟩ hS0 ?_;simp only [Act.put,sA,s0,sS]
        refine tk 29 ⟨some 89,.move (.tmp 8),3, "ref.go:105",#[⟨20,.guard⟩],some (20,true)⟩ hS0 ?_;simp only [Act.put,sA,s0,sS]
        refine tk 30 ⟨some 90,.indexAddr 43 (.tmp 88) (.tmp 89),0, "ref.go:105",#[⟨28,.data⟩,⟨29,.data⟩,⟨20,.guard⟩],some (20,true)⟩ hS0 ?_;simp only [Act.put,sA,s0,sS]
        refine tk 31 ⟨some 91,.load 3 (.tmp 90),3, "ref.go:105",#[⟨30,.data⟩,⟨20,.guard⟩],some (20,true)⟩ hS0 ?_;simp only [Act.put,sA,s0,sS]
        refine tk 32 ⟨some 92,.binOp .geq 3 (.tmp 86) (.tmp 91) 3,4, "ref.go:105",#[⟨26,.data⟩,⟨31,.data⟩,⟨20,.guard⟩],some (20,true)⟩ hS0 ?_;simp only [Act.put,sA,s0,sS]
        refine tk 33 ⟨some 93,.pick (.tmp 80) (.tmp 92) (.const (.bool false)),4, "ref.go:105",#[⟨20,.data⟩,⟨32,.data⟩,⟨17,.guard⟩],some (17,false)⟩ hS0 ?_;simp only [Act.put,sA,s0,sS]
        refine tk 34 ⟨some 94,.pick (.tmp 77) (.const (.bool true)) (.tmp 93),4, "ref.go:105",#[⟨17,.data⟩,⟨33,.data⟩],none⟩ hS0 ?_;simp only [Act.put,sA,s0,sS]
        refine wpAnyL_done (by kernel_rfl) ?_ _
        go_wp2_with fail
        go_meet
        exact ⟨by rw [HE.out]; rfl,rfl⟩
      · have g4:decide (x≤p)=false:=decide_eq_false c4
        have HE:Hid (GB=true):=HGB.out.1 ⟨by omega,by omega,fun _=>by omega⟩
        clear HGN HGB hw1
        go_wp2_with fail
        refine wp_region_L (fun W=>W.cell? ⟨w.heap.size,2,none⟩=some (.slice pa f.prods.length pc)∧W.cell? ⟨w.heap.size+1,2,none⟩=some (.slice (some ⟨b2,o2,none⟩) ar.length uc)∧W.cell? ⟨b2,o2+(i - 1),none⟩=some (.int .i64 p)∧W.cell? ⟨b2,o2+i,none⟩=some (.int .i64 x)) 35 (by kernel_rfl) 35 rfl ?_
        refine tk 0 ⟨some 60,.fieldAddr 45 (.tmp 4) 2,0, "ref.go:105",#[],none⟩ hS0 ?_;simp only [Act.put,sA,s0,sS]
        refine tk 1 ⟨some 61,.load 43 (.tmp 60),43, "ref.go:105",#[⟨0,.data⟩],none⟩ hS0 ?_;simp only [Act.put,sA,s0,sS]
        refine tk 2 ⟨some 62,.move (.tmp 8),3, "ref.go:105",#[],none⟩ hS0 ?_;simp only [Act.put,sA,s0,sS]
        refine tk 3 ⟨some 63,.indexAddr 43 (.tmp 61) (.tmp 62),0, "ref.go:105",#[⟨1,.data⟩,⟨2,.data⟩],none⟩ hS0 ?_;simp only [Act.put,sA,s0,sS]
        refine tk 4 ⟨some 64,.load 3 (.tmp 63),3, "ref.go:105",#[⟨3,.data⟩],none⟩ hS0 ?_;simp only [Act.put,sA,s0,sS]
        refine tk 5 ⟨some 65,.binOp .lss 3 (.tmp 64) (.const (.int .i64 0)) 3,4, "ref.go:105",#[⟨4,.data⟩],none⟩ hS0 ?_;simp only [Act.put,sA,s0,sS]
        refine tk 6 ⟨some 66,.move (.tmp 65),4, "ref.go:105",#[⟨5,.data⟩],none⟩ hS0 ?_;simp only [Act.put,sA,s0,sS]
        refine tk 7 ⟨some 67,.fieldAddr 45 (.tmp 4) 2,0, "ref.go:105",#[⟨6,.guard⟩],some (6,false)⟩ hS0 ?_;simp only [Act.put,sA,s0,sS]
        refine tk 8 ⟨some 68,.load 43 (.tmp 67),43, "ref.go:105",#[⟨7,.data⟩,⟨6,.guard⟩],some (6,false)⟩ hS0 ?_;simp only [Act.put,sA,s0,sS]
        refine tk 9 ⟨some 69,.move (.tmp 8),3, "ref.go:105",#[⟨6,.guard⟩],some (6,false)⟩ hS0 ?_;simp only [Act.put,sA,s0,sS]
        refine tk 10 ⟨some 70,.indexAddr 43 (.tmp 68) (.tmp 69),0, "ref.go:105",#[⟨8,.data⟩,⟨9,.data⟩,⟨6,.guard⟩],some (6,false)⟩ hS0 ?_;simp only [Act.put,sA,s0,sS]
        refine tk 11 ⟨some 71,.load 3 (.tmp 70),3, "ref.go:105",#[⟨10,.data⟩,⟨6,.guard⟩],some (6,false)⟩ hS0 ?_;simp only [Act.put,sA,s0,sS]
        refine tk 12 ⟨some 72,.fieldAddr 25 (.tmp 3) 2,0, "ref.go:105",#[⟨6,.guard⟩],some (6,false)⟩ hS0 ?_;simp only [Act.put,sA,s0,sS]
        refine tk 13 ⟨some 73,.load 23 (.tmp 72),23, "ref.go:105",#[⟨12,.data⟩,⟨6,.guard⟩],some (6,false)⟩ hS0 ?_;simp only [Act.put,sA,s0,sS]
        refine tk 14 ⟨some 74,.call ⟨.builtin .len,#[.tmp 73],#[23]⟩,3, "ref.go:105",#[⟨13,.data⟩,⟨6,.guard⟩],some (6,false)⟩ hS0 ?_;simp only [Act.put,sA,s0,sS]
        refine tk 15 ⟨some 75,.binOp .geq 3 (.tmp 71) (.tmp 74) 3,4, "ref.go:105",#[⟨11,.data⟩,⟨14,.data⟩,⟨6,.guard⟩],some (6,false)⟩ hS0 ?_;simp only [Act.put,sA,s0,sS]
        refine tk 16 ⟨some 76,.pick (.tmp 66) (.const (.bool true)) (.tmp 75),4, "ref.go:105",#[⟨6,.data⟩,⟨15,.data⟩],none⟩ hS0 ?_;simp only [Act.put,sA,s0,sS]
        refine tk 17 ⟨some 77,.move (.tmp 76),4, "ref.go:105",#[⟨16,.data⟩,⟨6,.chain⟩],none⟩ hS0 ?_;simp only [Act.put,sA,s0,sS]
        refine tk 18 ⟨some 78,.move (.tmp 8),3, "ref.go:105",#[⟨17,.guard⟩],some (17,false)⟩ hS0 ?_;simp only [Act.put,sA,s0,sS]
        refine tk 19 ⟨some 79,.binOp .gtr 3 (.tmp 78) (.const (.int .i64 0)) 3,4, "ref.go:105",#[⟨18,.data⟩,⟨17,.guard⟩],some (17,false)⟩ hS0 ?_;simp only [Act.put,sA,s0,sS]
        refine tk 20 ⟨some 80,.move (.tmp 79),4, "ref.go:105",#[⟨19,.data⟩,⟨17,.chain⟩,⟨17,.guard⟩],some (17,false)⟩ hS0 ?_;simp only [Act.put,sA,s0,sS]
        refine tk 21 ⟨some 81,.fieldAddr 45 (.tmp 4) 2,0, "ref.go:105",#[⟨20,.guard⟩],some (20,true)⟩ hS0 ?_;simp only [Act.put,sA,s0,sS]
        refine tk 22 ⟨some 82,.load 43 (.tmp 81),43, "ref.go:105",#[⟨21,.data⟩,⟨20,.guard⟩],some (20,true)⟩ hS0 ?_;simp only [Act.put,sA,s0,sS]
        refine tk 23 ⟨some 83,.move (.tmp 8),3, "ref.go:105",#[⟨20,.guard⟩],some (20,true)⟩ hS0 ?_;simp only [Act.put,sA,s0,sS]
        refine tk 24 ⟨some 84,.binOp .sub 3 (.tmp 83) (.const (.int .i64 1)) 3,3, "ref.go:105",#[⟨23,.data⟩,⟨20,.guard⟩],some (20,true)⟩ hS0 ?_;simp only [Act.put,sA,s0,sS]
        try simp only [hw2]
        refine tk 25 ⟨some 85,.indexAddr 43 (.tmp 82) (.tmp 84),0, "ref.go:105",#[⟨22,.data⟩,⟨24,.data⟩,⟨20,.guard⟩],some (20,true)⟩ hS0 ?_;simp only [Act.put,sA,s0,sS]
        refine tk 26 ⟨some 86,.load 3 (.tmp 85),3, "ref.go:105",#[⟨25,.data⟩,⟨20,.guard⟩],some (20,true)⟩ hS0 ?_;simp only [Act.put,sA,s0,sS]
        refine tk 27 ⟨some 87,.fieldAddr 45 (.tmp 4) 2,0, "ref.go:105",#[⟨20,.guard⟩],some (20,true)⟩ hS0 ?_;simp only [Act.put,sA,s0,sS]
        refine tk 28 ⟨some 88,.load 43 (.tmp 87),43, "ref.go:105",#[⟨27,.data⟩,⟨20,.guard⟩],some (20,true)⟩ hS0 ?_;simp only [Act.put,sA,s0,sS]
        refine tk 29 ⟨some 89,.move (.tmp 8),3, "ref.go:105",#[⟨20,.guard⟩],some (20,true)⟩ hS0 ?_;simp only [Act.put,sA,s0,sS]
        refine tk 30 ⟨some 90,.indexAddr 43 (.tmp 88) (.tmp 89),0, "ref.go:105",#[⟨28,.data⟩,⟨29,.data⟩,⟨20,.guard⟩],some (20,true)⟩ hS0 ?_;simp only [Act.put,sA,s0,sS]
        refine tk 31 ⟨some 91,.load 3 (.tmp 90),3, "ref.go:105",#[⟨30,.data⟩,⟨20,.guard⟩],some (20,true)⟩ hS0 ?_;simp only [Act.put,sA,s0,sS]
        refine tk 32 ⟨some 92,.binOp .geq 3 (.tmp 86) (.tmp 91) 3,4, "ref.go:105",#[⟨26,.data⟩,⟨31,.data⟩,⟨20,.guard⟩],some (20,true)⟩ hS0 ?_;simp only [Act.put,sA,s0,sS]
        refine tk 33 ⟨some 93,.pick (.tmp 80) (.tmp 92) (.const (.bool false)),4, "ref.go:105",#[⟨20,.data⟩,⟨32,.data⟩,⟨17,.guard⟩],some (17,false)⟩ hS0 ?_;simp only [Act.put,sA,s0,sS]
        refine tk 34 ⟨some 94,.pick (.tmp 77) (.const (.bool true)) (.tmp 93),4, "ref.go:105",#[⟨17,.data⟩,⟨33,.data⟩],none⟩ hS0 ?_;simp only [Act.put,sA,s0,sS]
        refine wpAnyL_done (by kernel_rfl) ?_ _
        go_wp2_with fail
        go_meet
        exact ⟨by rw [HE.out]; rfl,rfl⟩
    · have g3:decide ((0:Int)<(i:Int))=false:=decide_eq_false c3
      have g5:decide (0<i)=false:=decide_eq_false (by omega)
      have g6:¬ 0<i:=by omega
      have HE:Hid (GB=true):=HGB.out.1 ⟨by omega,by omega,fun h=>by omega⟩
      clear HGN HGB hw1
      go_wp2_with fail
      refine wp_region_L (fun W=>W.cell? ⟨w.heap.size,2,none⟩=some (.slice pa f.prods.length pc)∧W.cell? ⟨w.heap.size+1,2,none⟩=some (.slice (some ⟨b2,o2,none⟩) ar.length uc)∧W.cell? ⟨b2,o2+(i - 1),none⟩=some (.int .i64 p)∧W.cell? ⟨b2,o2+i,none⟩=some (.int .i64 x)) 35 (by kernel_rfl) 35 rfl ?_
      refine tk 0 ⟨some 60,.fieldAddr 45 (.tmp 4) 2,0, "ref.go:105",#[],none⟩ hS0 ?_;simp only [Act.put,sA,s0,sS]
      refine tk 1 ⟨some 61,.load 43 (.tmp 60),43, "ref.go:105",#[⟨0,.data⟩],none⟩ hS0 ?_;simp only [Act.put,sA,s0,sS]
      refine tk 2 ⟨some 62,.move (.tmp 8),3, "ref.go:105",#[],none⟩ hS0 ?_;simp only [Act.put,sA,s0,sS]
      refine tk 3 ⟨some 63,.indexAddr 43 (.tmp 61) (.tmp 62),0, "ref.go:105",#[⟨1,.data⟩,⟨2,.data⟩],none⟩ hS0 ?_;simp only [Act.put,sA,s0,sS]
      refine tk 4 ⟨some 64,.load 3 (.tmp 63),3, "ref.go:105",#[⟨3,.data⟩],none⟩ hS0 ?_;simp only [Act.put,sA,s0,sS]
      refine tk 5 ⟨some 65,.binOp .lss 3 (.tmp 64) (.const (.int .i64 0)) 3,4, "ref.go:105",#[⟨4,.data⟩],none⟩ hS0 ?_;simp only [Act.put,sA,s0,sS]
      refine tk 6 ⟨some 66,.move (.tmp 65),4, "ref.go:105",#[⟨5,.data⟩],none⟩ hS0 ?_;simp only [Act.put,sA,s0,sS]
      refine tk 7 ⟨some 67,.fieldAddr 45 (.tmp 4) 2,0, "ref.go:105",#[⟨6,.guard⟩],some (6,false)⟩ hS0 ?_;simp only [Act.put,sA,s0,sS]
      refine tk 8 ⟨some 68,.load 43 (.tmp 67),43, "ref.go:105",#[⟨7,.data⟩,⟨6,.guard⟩],some (6,false)⟩ hS0 ?_;simp only [Act.put,sA,s0,sS]
      refine tk 9 ⟨some 69,.move (.tmp 8),3, "ref.go:105",#[⟨6,.guard⟩],some (6,false)⟩ hS0 ?_;simp only [Act.put,sA,s0,sS]
      refine tk 10 ⟨some 70,.indexAddr 43 (.tmp 68) (.tmp 69),0, "ref.go:105",#[⟨8,.data⟩,⟨9,.data⟩,⟨6,.guard⟩],some (6,false)⟩ hS0 ?_;simp only [Act.put,sA,s0,sS]
      refine tk 11 ⟨some 71,.load 3 (.tmp 70),3, "ref.go:105",#[⟨10,.data⟩,⟨6,.guard⟩],some (6,false)⟩ hS0 ?_;simp only [Act.put,sA,s0,sS]
      refine tk 12 ⟨some 72,.fieldAddr 25 (.tmp 3) 2,0, "ref.go:105",#[⟨6,.guard⟩],some (6,false)⟩ hS0 ?_;simp only [Act.put,sA,s0,sS]
      refine tk 13 ⟨some 73,.load 23 (.tmp 72),23, "ref.go:105",#[⟨12,.data⟩,⟨6,.guard⟩],some (6,false)⟩ hS0 ?_;simp only [Act.put,sA,s0,sS]
      refine tk 14 ⟨some 74,.call ⟨.builtin .len,#[.tmp 73],#[23]⟩,3, "ref.go:105",#[⟨13,.data⟩,⟨6,.guard⟩],some (6,false)⟩ hS0 ?_;simp only [Act.put,sA,s0,sS]
      refine tk 15 ⟨some 75,.binOp .geq 3 (.tmp 71) (.tmp 74) 3,4, "ref.go:105",#[⟨11,.data⟩,⟨14,.data⟩,⟨6,.guard⟩],some (6,false)⟩ hS0 ?_;simp only [Act.put,sA,s0,sS]
      refine tk 16 ⟨some 76,.pick (.tmp 66) (.const (.bool true)) (.tmp 75),4, "ref.go:105",#[⟨6,.data⟩,⟨15,.data⟩],none⟩ hS0 ?_;simp only [Act.put,sA,s0,sS]
      refine tk 17 ⟨some 77,.move (.tmp 76),4, "ref.go:105",#[⟨16,.data⟩,⟨6,.chain⟩],none⟩ hS0 ?_;simp only [Act.put,sA,s0,sS]
      refine tk 18 ⟨some 78,.move (.tmp 8),3, "ref.go:105",#[⟨17,.guard⟩],some (17,false)⟩ hS0 ?_;simp only [Act.put,sA,s0,sS]
      refine tk 19 ⟨some 79,.binOp .gtr 3 (.tmp 78) (.const (.int .i64 0)) 3,4, "ref.go:105",#[⟨18,.data⟩,⟨17,.guard⟩],some (17,false)⟩ hS0 ?_;simp only [Act.put,sA,s0,sS]
      refine tk 20 ⟨some 80,.move (.tmp 79),4, "ref.go:105",#[⟨19,.data⟩,⟨17,.chain⟩,⟨17,.guard⟩],some (17,false)⟩ hS0 ?_;simp only [Act.put,sA,s0,sS]
      refine tu 21 ⟨some 81,.fieldAddr 45 (.tmp 4) 2,0, "ref.go:105",#[⟨20,.guard⟩],some (20,true)⟩ hS0 ?_;simp only [Act.put,sA,s0,sS]
      refine tu 22 ⟨some 82,.load 43 (.tmp 81),43, "ref.go:105",#[⟨21,.data⟩,⟨20,.guard⟩],some (20,true)⟩ hS0 ?_;simp only [Act.put,sA,s0,sS]
      refine tu 23 ⟨some 83,.move (.tmp 8),3, "ref.go:105",#[⟨20,.guard⟩],some (20,true)⟩ hS0 ?_;simp only [Act.put,sA,s0,sS]
      refine tu 24 ⟨some 84,.binOp .sub 3 (.tmp 83) (.const (.int .i64 1)) 3,3, "ref.go:105",#[⟨23,.data⟩,⟨20,.guard⟩],some (20,true)⟩ hS0 ?_;simp only [Act.put,sA,s0,sS]
      refine tu 25 ⟨some 85,.indexAddr 43 (.tmp 82) (.tmp 84),0, "ref.go:105",#[⟨22,.data⟩,⟨24,.data⟩,⟨20,.guard⟩],some (20,true)⟩ hS0 ?_;simp only [Act.put,sA,s0,sS]
      refine tu 26 ⟨some 86,.load 3 (.tmp 85),3, "ref.go:105",#[⟨25,.data⟩,⟨20,.guard⟩],some (20,true)⟩ hS0 ?_;simp only [Act.put,sA,s0,sS]
      refine tu 27 ⟨some 87,.fieldAddr 45 (.tmp 4) 2,0, "ref.go:105",#[⟨20,.guard⟩],some (20,true)⟩ hS0 ?_;simp only [Act.put,sA,s0,sS]
      refine tu 28 ⟨some 88,.load 43 (.tmp 87),43, "ref.go:105",#[⟨27,.data⟩,⟨20,.guard⟩],some (20,true)⟩ hS0 ?_;simp only [Act.put,sA,s0,sS]
      refine tu 29 ⟨some 89,.move (.tmp 8),3, "ref.go:105",#[⟨20,.guard⟩],some (20,true)⟩ hS0 ?_;simp only [Act.put,sA,s0,sS]
      refine tu 30 ⟨some 90,.indexAddr 43 (.tmp 88) (.tmp 89),0, "ref.go:105",#[⟨28,.data⟩,⟨29,.data⟩,⟨20,.guard⟩],some (20,true)⟩ hS0 ?_;simp only [Act.put,sA,s0,sS]
      refine tu 31 ⟨some 91,.load 3 (.tmp 90),3, "ref.go:105",#[⟨30,.data⟩,⟨20,.guard⟩],some (20,true)⟩ hS0 ?_;simp only [Act.put,sA,s0,sS]
      refine tu 32 ⟨some 92,.binOp .geq 3 (.tmp 86) (.tmp 91) 3,4, "ref.go:105",#[⟨26,.data⟩,⟨31,.data⟩,⟨20,.guard⟩],some (20,true)⟩ hS0 ?_;simp only [Act.put,sA,s0,sS]
      refine tk 33 ⟨some 93,.pick (.tmp 80) (.tmp 92) (.const (.bool false)),4, "ref.go:105",#[⟨20,.data⟩,⟨32,.data⟩,⟨17,.guard⟩],some (17,false)⟩ hS0 ?_;simp only [Act.put,sA,s0,sS]
      refine tk 34 ⟨some 94,.pick (.tmp 77) (.const (.bool true)) (.tmp 93),4, "ref.go:105",#[⟨17,.data⟩,⟨33,.data⟩],none⟩ hS0 ?_;simp only [Act.put,sA,s0,sS]
      refine wpAnyL_done (by kernel_rfl) ?_ _
      go_wp2_with fail
      go_meet
      exact ⟨by rw [HE.out]; rfl,rfl⟩
  case rest =>
  obtain ⟨rfl,rfl⟩:=hcut
  have BD:=BR.drew
  cases GB with
  | false =>
    have HE:Hid (R=false):=HRN.out (fun h=>by have:=HGB.out.1 h; cases this)
    have QB:=(HSL.out _ BD).2
    clear HRN HRY HTO HRB HD HA1 HCL HSL HGN HGB hS0 hw1
    go_wp2_with fail
    go_ret
    exact ⟨by rw [HE.out]; rfl,QB⟩
  | true =>
    have HE:Hid (redTo f.prods.length ar (i+1)):=HRY.out (HGB.out.2 rfl)
    clear HRN HRY HTO HRB HD HA1 HCL HSL HGN HGB hS0 hw1
    go_wp2_with fail
    exact ⟨⟨i+1,by go_num,by omega,HE.out,BD⟩,by simp [intOf]; omega⟩
end Go.Proofs.YtbilbgjojdlobaaGreatDoor
