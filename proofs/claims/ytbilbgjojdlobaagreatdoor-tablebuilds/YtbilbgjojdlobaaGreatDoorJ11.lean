import Derived.Test.YtbilbgjojdlobaaGreatDoorJ04
import Derived.Test.YtbilbgjojdlobaaGreatDoorJ06
import Derived.Test.YtbilbgjojdlobaaGreatDoorJ10
import Derived.Deep.Cut
import Derived.Deep.CutRange
import Derived.Carry

namespace Go.Proofs.YtbilbgjojdlobaaGreatDoor
open Go.RowKit
def KC:Nat:=240401
def lenV:Value→Nat
  | .slice _ n _=>n
  | _=>0
def DQ (M:Nat) (s:Value) (k:Nat):Prop:=M≤k∧∀ ad n c,s=.slice (some ad) n c→k≠ad.block
theorem rows_of_sl {R:List (List Int)} {v:Value} {W:World} (h:SlR R v W) {s:Nat} (hs:s<R.length):∃ b off u cap,v=.slice (some ⟨b,off,none⟩) R.length cap∧b<W.heap.size∧W.cell? ⟨b,off+s,none⟩=some u∧SlI (rowAt R s) u W:=by
  obtain ⟨ao,cap,h0,h1,_⟩:=h
  obtain ⟨b,off,u,e,h2,h3,h4⟩:=h1.at (Below.refl _ _) hs
  subst e
  rw [rowAt_get hs]
  exact ⟨b,off,u,cap,h0,h2,h3,h4⟩
theorem bools_of_sl {L:List Bool} {v:Value} {W:World} (h:SlB L v W) {s:Nat} (hs:s<L.length):∃ b off cap,v=.slice (some ⟨b,off,none⟩) L.length cap∧b<W.heap.size∧W.cell? ⟨b,off+s,none⟩=some (.bool (onb L s)):=by
  obtain ⟨ao,cap,h0,h1,_⟩:=h
  obtain ⟨b,off,e,h2,h3⟩:=h1.at (Below.refl _ _) hs
  subst e
  refine ⟨b,off,cap,h0,h2,?_⟩
  have:onb L s=L[s]:=by unfold onb; rw [List.getD_eq_getElem?_getD,List.getElem?_eq_getElem hs]; rfl
  rw [this]; exact h3
set_option maxRecDepth 100000 in
set_option maxHeartbeats 4000000 in
theorem rclos_any (f:Fl) (a:FlA) (l:List Ir) (v:Value) (w:World) (hf:FlAt f a w) (hp:FitP f) (hl:SlL l v w) (hll:l.length≤100000000) :
    Calls Tryz.prog 68 #[a.val f,v] w fun e w'=>∃ v' L,e=.returned v'∧ClosI f (fun x=>x∈l) L∧SlL L v' w'∧Apart w.heap.size v'∧Below w.heap.size w w':=by
  have hn:f.n≤600:=hp.size
  obtain ⟨i0,hi0,hz0,hz1,hz2⟩:=info_parts infoLr
  have HRF:Hid (∀ W,Below w.heap.size w W→Calls Tryz.prog 104 #[a.val f] W fun e w'=>∃ u R,e=.returned u∧GivesR (FstP f) f.n R∧SlR R u w'∧Below W.heap.size W w'):=fun W hb=>(rfirst_any f a W (hf.next hb) hp).mono fun _ _ ⟨u,R,h1,h2,h3,h5⟩=>⟨u,R,h1,h2,h3.slR,h5⟩
  have HRE:Hid (∀ W,Below w.heap.size w W→Calls Tryz.prog 105 #[a.val f] W fun e w'=>∃ u L,e=.returned u∧GivesB (fun _=>False) f.gr f.n L∧SlB L u w'∧Below W.heap.size W w'):=fun W hb=>(rempty_any f a W (hf.next hb) hp).mono fun _ _ ⟨u,L,h1,h2,h3,_,h5⟩=>⟨u,L,h1,h2,h3,h5⟩
  have HFI:Hid (∀ (x:Ir) (W:World),Below w.heap.size w W→Calls Tryz.prog 70 #[a.val f,valR x] W fun e w'=>e=.returned (.bool (fitI f x))∧Below W.heap.size W w'):=fun x W hb=>rfit_item f a x W (hf.next hb) hn
  have HNX:Hid (∀ (x:Ir) (W:World),Below w.heap.size w W→Calls Tryz.prog 37 #[a.val f,valR x] W fun e w'=>e=.returned (.tuple #[.int .i64 ((nextI f x).getD 0),.bool (nextI f x).isSome])∧Below W.heap.size W w'):=fun x W hb=>rnext_item f a x W (hf.next hb) hn
  have HRT:Hid (∀ (p:Int) (W:World),Below w.heap.size w W→-1≤p→p<f.prods.length→Calls Tryz.prog 71 #[a.val f,.int .i64 p] W fun e w'=>∃ u,e=.returned u∧SlT (rightI f p) u w'∧Below W.heap.size W w'):=fun p W hb h1 h2=>rright_any f a p W (hf.next hb) hn h1 h2
  have HOF:Hid (∀ (s:Int) (W:World),Below w.heap.size w W→Calls Tryz.prog 108 #[a.val f,.int .i64 s] W fun e w'=>∃ u,e=.returned u∧SlI (ofA f s) u w'∧Apart W.heap.size u∧Below W.heap.size W w'):=fun s W hb=>rof_any f a s W (hf.next hb) (by have:=hp.prods; omega)
  have HFP:Hid (FitP f):=hp
  obtain ⟨la,lc,rfl,hI,hln,hlc⟩:=hl
  obtain ⟨ta,tc,na,nc,pa,pc⟩:=a
  have X0:=FBox.new f ⟨ta,tc,na,nc,pa,pc⟩ 25 w
  have B0:Below w.heap.size w (w.alloc (fobj f ⟨ta,tc,na,nc,pa,pc⟩ 25)):=(Below.refl _ _).alloc (Nat.le_refl _) _
  unfold fobj at X0 B0
  unfold FlA.val at HRF HRE HFI HNX HRT HOF ⊢
  unfold valR at HFI HNX
  simp only at *
  clear hf hp
  go_enter Tryz.func68,Tryz.ntmps68
  go_wp2_with fail
  generalize w.alloc (Obj.cells #[Value.slice ta f.terms.length tc,Value.slice na f.nons.length nc,Value.slice pa f.prods.length pc] 25)=w0 at *
  refine (HRF.out _ B0).mono ?_
  rintro e w1 ⟨u1,R,rfl,hGR,hR,hb1⟩
  have X1:=X0.next hb1
  have B1:=below_then B0 hb1 B0.size
  have hu1:∃ a n c,u1=.slice a n c:=by obtain ⟨a,c,h,_⟩:=hR; exact ⟨_,_,_,h⟩
  obtain ⟨ra,rn,rc,rfl⟩:=hu1
  obtain ⟨_,k0,k1,k2⟩:=id X1
  simp only at k0 k1 k2
  have HR1:Hid (GivesR (FstP f) f.n R∧SlR R (.slice ra rn rc) w1):=⟨hGR,hR⟩
  clear X0 B0 hb1 HRF hGR hR
  go_wp2_with fail
  refine (HRE.out _ B1).mono ?_
  rintro e w2 ⟨u2,Le,rfl,hGE,hE,hb2⟩
  have X2:=X1.next hb2
  have B2:=below_then B1 hb2 B1.size
  have hu2:∃ a n c,u2=.slice a n c:=by obtain ⟨a,c,h,_⟩:=hE; exact ⟨_,_,_,h⟩
  obtain ⟨ea,en,ec,rfl⟩:=hu2
  have HFE:Hid (FE f R Le):=⟨HR1.out.1,hGE⟩
  have HSR:Hid (∀ W,Below w2.heap.size w2 W→SlR R (.slice ra rn rc) W∧SlB Le (.slice ea en ec) W):=fun W hb=>⟨(HR1.out.2.next hb2).next hb,hE.next hb⟩
  have HXF:Hid (∀ W,Below w2.heap.size w2 W→FBox f ⟨ta,tc,na,nc,pa,pc⟩ w.heap.size W):=fun W hb=>X2.next hb
  have HBB:Hid (∀ W,Below w2.heap.size w2 W→Below w.heap.size w W):=fun W hb=>below_then B2 hb B2.size
  have hI2:=hI.next B2
  have hszw:w.heap.size<w2.heap.size:=X2.1
  clear X1 X2 B1 HRE hGE hE hb2 HR1 k0 k1 k2 B2 hI
  have HOKL:Hid (∀ x∈l,okR x):=hI2.ok
  have n1:∀ ad,la=some ad→∀ (k:Nat) (u:Value),(l.flatMap encR)[k]?=some u→w2.cell? (ad.add k)=some u:=fun ad had k u hk=>by
    rcases Nat.eq_zero_or_pos l.length with hz | hz
    · obtain rfl:l=[]:=List.eq_nil_of_length_eq_zero hz
      simp at hk
    · obtain ⟨b,off,e,_⟩:=hI2.at (Below.refl _ _) hz
      rw [e] at had
      cases had
      rw [e] at hI2
      have:=newsR hI2 0 l.length k u (by simpa using hk)
      simpa using this
  have nn:la=none→l.length=0∧lc=0:=fun e=>by
    have:=hln e
    exact ⟨by omega,this⟩
  have m1:(l.flatMap encR).length=l.length * 3:=flatR_len l
  have o1:=one_rowR l
  obtain ⟨M,hM1,hM2⟩:∃ M,M≤w2.heap.size∧w2.heap.size≤M:=⟨_,Nat.le_refl _,Nat.le_refl _⟩
  have HM:Hid (w2.heap.size=M):=Nat.le_antisymm hM2 hM1
  have HN1:Hid (∀ ad,la=some ad→∀ (k:Nat) (u:Value),(l.flatMap encR)[k]?=some u→w2.cell? (ad.add k)=some u):=n1
  have HNN:Hid (la=none→l.length=0∧lc=0):=nn
  have HO1:Hid (∀ u∈l.flatMap encR,u.oneCell'=true):=o1
  clear hI2 n1 nn o1
  go_wp2_with (at_builtin; refine wpList_append_any rfl (.tmp 24) (.tmp 25) 64 rfl M 77 i0 _ 3 24 Tryz.underlying64 hi0 hz0 hz1 hz2 rfl (by decide) _ 0 [] rfl (World.ownsRow_nil _ _ _ _) la l.length lc (l.flatMap encR) rfl HNN.out m1 HN1.out HO1.out (by unfold maxLen; omega) (by omega) hM1 ?_)
  intro q w3 hown hg
  have B3:Below M w2 w3:=(Below.refl M w2).grown hg hM1 (fun k e=>by cases e)
  have hown':w3.ownsRow M 77 3 q l.length (l.flatMap encR):=by simpa using hown
  obtain ⟨qa,qc,rfl⟩:=slice_of_ownK hown'
  rw [HM.out] at HSR HXF HBB hszw
  have HST:Hid (∃ set todo,SlL set (.slice none 0 0) w3∧Apart M (.slice none 0 0)∧QRow (DQ M (.slice none 0 0)) 3 (.slice qa l.length qc) todo.length (todo.flatMap encR) w3∧CW f (fun x=>x∈l) set todo∧(∀ x∈todo,okR x)∧todo.length≤l.length+set.length * KC∧Below M w2 w3) :=
    ⟨[],l,SlL.nil _,Apart.none _ _ _,QRow.of_own hown' (fun k hk=>⟨hk,fun _ _ _ e=>by cases e⟩),CW.start f l,HOKL.out,by simp,B3⟩
  clear hown hown' hg B3 m1 HN1 HNN HO1 hM1 hM2 HOKL
  go_wp2_with fail
  go_loopw [7,8] (fun s q wr=>∃ set todo,SlL set s wr∧Apart M s∧QRow (DQ M s) 3 q todo.length (todo.flatMap encR) wr∧CW f (fun x=>x∈l) set todo∧(∀ x∈todo,okR x)∧todo.length≤l.length+set.length * KC∧Below M w2 wr) (fun s q _=>(maxI - lenV s) * KC+lenV q)
  case atStart=>exact HST.out
  case round =>
  clear HST
  obtain ⟨set,todo,hS,hAP,hQ,hCW,hok,hlen,B1⟩:=hrel
  obtain ⟨sa,sc,rfl,_⟩:=id hS
  have HAP:Hid (Apart M (.slice sa set.length sc)):=hAP
  clear hAP
  obtain ⟨qa,qc,rfl⟩:=hQ.shape
  have hsl:=hCW.len HFP.out
  cases todo with
  | nil =>
    have HF:Hid (ClosI f (fun x=>x∈l) set∧SlL set (.slice sa set.length sc) wr):=⟨hCW.done,hS⟩
    clear hS hQ hCW
    go_wp2_with fail
    go_ret
    exact ⟨_,set,rfl,HF.out.1,HF.out.2,HAP.out.mono (by omega),HBB.out _ (by rw [← HM.out]; rw [← HM.out] at B1; exact B1)⟩
  | cons x rest =>
  obtain ⟨ao,b,off,cap,e,hc,hD⟩:=id hQ
  cases e
  have hcp:0<qc:=by have:=hc.le; simp only [List.length_cons] at this; omega
  obtain rfl:=hc.addr hcp
  have hbl:=hc.lt hcp
  obtain ⟨x0,x1,x2⟩:=x
  have c0:wr.cell? ⟨b,off,none⟩=some (.int .i64 x0):=hc.olds 0 _ rfl
  have c1:wr.cell? ⟨b,off+1,none⟩=some (.int .i64 x1):=hc.olds 1 _ rfl
  have c2:wr.cell? ⟨b,off+2,none⟩=some (.int .i64 x2):=hc.olds 2 _ rfl
  have hokx:=hok _ (List.mem_cons_self ..)
  have HOKR:Hid (∀ y∈rest,okR y):=fun y hy=>hok y (by simp [hy])
  have HCW:Hid (CW f (fun x=>x∈l) set ((x0,x1,x2) :: rest)):=hCW
  simp only [List.length_cons] at hlen hQ
  have Y1:=RBox.new (x0,x1,x2) 77 wr
  have B2:Below M w2 (wr.alloc (Obj.cells #[.int .i64 x0,.int .i64 x1,.int .i64 x2] 77)):=B1.alloc (by rw [← HM.out]; rw [← HM.out] at B1; exact B1.size) _
  have Bx:Below wr.heap.size wr (wr.alloc (Obj.cells #[.int .i64 x0,.int .i64 x1,.int .i64 x2] 77)):=(Below.refl _ _).alloc (Nat.le_refl _) _
  have hQ1:=hQ.next Bx
  have HS1:Hid (SlL set (.slice sa set.length sc) (wr.alloc (Obj.cells #[.int .i64 x0,.int .i64 x1,.int .i64 x2] 77))):=hS.next Bx
  have hszr:M≤wr.heap.size:=by have:=B1.size; have:=HM.out; omega
  rw [List.flatMap_cons] at hQ1
  have HQ1:Hid (QRow (DQ M (.slice sa set.length sc)) 3 (.slice (some ⟨b,off,none⟩) (rest.length+1) qc) (rest.length+1) (encR (x0,x1,x2)++rest.flatMap encR) (wr.alloc (Obj.cells #[.int .i64 x0,.int .i64 x1,.int .i64 x2] 77))):=hQ1
  have hqpos:(0:Int)<(rest.length:Int)+1:=by omega
  clear hS hQ hCW hok hc hD hQ1 Bx hbl
  obtain ⟨_,k0,k1,k2⟩:=HXF.out _ B2
  simp only at k0 k1 k2
  have HSZ:Hid (∀ W W',Below M w2 W→Below W.heap.size W W'→Below M w2 W'):=fun W W' h1 h2=>below_then h1 h2 (by have:=h1.size; have:=HM.out; omega)
  go_wp2_with (refine wpList_cut_q rfl (.tmp 33) rfl rfl HQ1.out rfl ?_; intro qv hq2)
  obtain ⟨qa2,qc2,rfl⟩:=hq2.shape
  have HQ2:Hid (QRow (DQ M (.slice sa set.length sc)) 3 (.slice qa2 rest.length qc2) rest.length (rest.flatMap encR) (wr.alloc (Obj.cells #[.int .i64 x0,.int .i64 x1,.int .i64 x2] 77))):=hq2
  have hF1:=HFI.out (x0,x1,x2) _ (HBB.out _ B2)
  simp only at hF1
  clear hq2 HQ1 c0 c1 c2 hcp
  have hzW:wr.heap.size<(wr.alloc (Obj.cells #[.int .i64 x0,.int .i64 x1,.int .i64 x2] 77)).heap.size:=by simp
  generalize wr.alloc (Obj.cells #[.int .i64 x0,.int .i64 x1,.int .i64 x2] 77)=W1 at *
  refine hF1.mono ?_
  rintro e W2 ⟨rfl,hb2⟩
  have Y2:=Y1.next hb2
  have B3:=HSZ.out _ _ B2 hb2
  have HQ3:Hid (QRow (DQ M (.slice sa set.length sc)) 3 (.slice qa2 rest.length qc2) rest.length (rest.flatMap encR) W2):=HQ2.out.next hb2
  have HS2:Hid (SlL set (.slice sa set.length sc) W2):=HS1.out.next hb2
  have hzW2:wr.heap.size<W2.heap.size:=Nat.lt_of_lt_of_le hzW hb2.size
  clear hF1 HQ2 HS1 hb2 B2 k0 k1 k2 Y1 hzW
  obtain ⟨_,k0,k1,k2⟩:=HXF.out _ B3
  simp only at k0 k1 k2
  obtain ⟨_,y0,y1,y2⟩:=id Y2
  simp only at y0 y1 y2
  have hN1:=fun W (h:Below M w2 W)=>HNX.out (x0,x1,x2) W (HBB.out _ h)
  simp only at hN1
  have HN1:Hid (∀ W,Below M w2 W→Calls Tryz.prog 37 #[.agg #[.slice ta f.terms.length tc,.slice na f.nons.length nc,.slice pa f.prods.length pc],.agg #[.int .i64 x0,.int .i64 x1,.int .i64 x2]] W fun e w'=>e=.returned (.tuple #[.int .i64 ((nextI f (x0,x1,x2)).getD 0),.bool (nextI f (x0,x1,x2)).isSome])∧Below W.heap.size W w'):=hN1
  clear hN1
  cases hfit:fitI f (x0,x1,x2) with
  | false =>
    have hnx:nextI f (x0,x1,x2)=none:=by unfold nextI; rw [hfit]; rfl
    rw [hnx] at HN1
    have HC2:Hid (CW f (fun x=>x∈l) set rest):=HCW.out.skip (.inl hfit)
    clear hfit hnx HCW
    have hN:=HN1.out W2 B3
    simp only [Option.getD_none,Option.isSome_none] at hN
    go_wp2_with fail
    refine hN.mono ?_
    rintro e W3 ⟨rfl,hb3⟩
    have B4:=HSZ.out _ _ B3 hb3
    have HQ4:Hid (QRow (DQ M (.slice sa set.length sc)) 3 (.slice qa2 rest.length qc2) rest.length (rest.flatMap encR) W3):=HQ3.out.next hb3
    have HS3:Hid (SlL set (.slice sa set.length sc) W3):=HS2.out.next hb3
    clear hb3 hN HQ3 HS2 k0 k1 k2 y0 y1 y2 HN1
    go_wp2_with fail
    exact ⟨⟨set,rest,HS3.out,HAP.out,HQ4.out,HC2.out,HOKR.out,by omega,B4⟩,by simp [lenV]⟩
  | true =>
  have hP:=rput_any set (x0,x1,x2) _ W2 HS2.out hokx (by unfold maxI at hsl; omega)
  unfold valR at hP
  simp only at hP
  have HP:Hid (Calls Tryz.prog 106 #[.slice sa set.length sc,.agg #[.int .i64 x0,.int .i64 x1,.int .i64 x2]] W2 fun e w'=>∃ v',e=.returned v'∧SlL (putI (x0,x1,x2) set) v' w'∧(v'=.slice sa set.length sc∨Apart W2.heap.size v')∧Below W2.heap.size W2 w'):=hP
  clear hP
  go_wp2_with fail
  refine HP.out.mono ?_
  rintro e W3 ⟨v',rfl,hS3,hap,hb3⟩
  have Y3:=Y2.next hb3
  have B4:=HSZ.out _ _ B3 hb3
  have hs3:∃ a c,v'=.slice a (putI (x0,x1,x2) set).length c:=by obtain ⟨a,c,h,_⟩:=hS3; exact ⟨_,_,h⟩
  obtain ⟨pa3,pc3,rfl⟩:=hs3
  -- the queue lies apart from the new set,too
  have HQ4:Hid (QRow (DQ M (.slice pa3 (putI (x0,x1,x2) set).length pc3)) 3 (.slice qa2 rest.length qc2) rest.length (rest.flatMap encR) W3):=by
    refine (HQ3.out.mono (E:=DQ M (.slice pa3 (putI (x0,x1,x2) set).length pc3)) (fun k hk hd=>⟨hd.1,fun ad n c e=>?_⟩)).next hb3
    rcases hap with h | h
    · rw [h] at e; exact hd.2 ad n c e
    · have:=h ad n c e; omega
  have HS3:Hid (SlL (putI (x0,x1,x2) set) (.slice pa3 (putI (x0,x1,x2) set).length pc3) W3):=hS3
  have HAP3:Hid (Apart M (.slice pa3 (putI (x0,x1,x2) set).length pc3)):=by
    rcases hap with h | h
    · rw [h]; exact HAP.out
    · exact h.mono (by omega)
  clear HAP
  have hzW3:wr.heap.size<W3.heap.size:=Nat.lt_of_lt_of_le hzW2 hb3.size
  clear hap hb3 HP HQ3 HS2 k0 k1 k2 y0 y1 y2 Y2 hS3 B3 hzW2
  obtain ⟨_,k0,k1,k2⟩:=HXF.out _ B4
  simp only at k0 k1 k2
  obtain ⟨_,y0,y1,y2⟩:=id Y3
  simp only at y0 y1 y2
  have hN:=HN1.out W3 B4
  clear HN1
  by_cases hin:(x0,x1,x2)∈set
  · have HC2:Hid (CW f (fun x=>x∈l) set rest):=HCW.out.skip (.inr hin)
    have hpe:putI (x0,x1,x2) set=set:=putI_of_mem HCW.out.rise hin
    rw [hpe] at HQ4 HS3 HAP3 ⊢
    clear hpe HCW hfit hin
    obtain ⟨nx,hnx⟩:∃ nx,nextI f (x0,x1,x2)=nx:=⟨_,rfl⟩
    rw [hnx] at hN
    clear hnx
    generalize nx.getD 0=nz at *
    generalize nx.isSome=nb at *
    go_wp2_with fail
    refine hN.mono ?_
    rintro e W4 ⟨rfl,hb4⟩
    have B5:=HSZ.out _ _ B4 hb4
    have HQ5:Hid (QRow (DQ M (.slice pa3 set.length pc3)) 3 (.slice qa2 rest.length qc2) rest.length (rest.flatMap encR) W4):=HQ4.out.next hb4
    have HS4:Hid (SlL set (.slice pa3 set.length pc3) W4):=HS3.out.next hb4
    clear hb4 hN HQ4 HS3 k0 k1 k2 y0 y1 y2
    go_wp2_with fail
    exact ⟨⟨set,rest,HS4.out,HAP3.out,HQ5.out,HC2.out,HOKR.out,by omega,B5⟩,by simp [lenV]⟩
  have hpl:(putI (x0,x1,x2) set).length=set.length+1:=length_putI_new hin
  have HNEW:Hid (∀ adds,(∀ y,y∈adds↔∃ (s t:Int) (q:Nat) (p:Pr),y=((q:Int),(0:Int),t)∧nextI f (x0,x1,x2)=some s∧f.prods[q]?=some p∧p.left=s∧LookP f (x0,x1,x2) t)→CW f (fun x=>x∈l) (putI (x0,x1,x2) set) (rest++adds)):=fun adds h=>HCW.out.new hfit h
  have hpm:set.length+1≤maxI:=by
    have:=(HNEW.out _ (fun y=>adds_iff HFE.out HFP.out)).len HFP.out
    rw [hpl] at this; exact this
  clear hin HCW hsl
  obtain ⟨set2,hset2⟩:∃ s2,putI (x0,x1,x2) set=s2:=⟨_,rfl⟩
  rw [hset2] at HQ4 HS3 HAP3 HNEW hpl ⊢
  clear hset2
  have hne:((set2.length:Int) == (set.length:Int))=false:=by
    rw [hpl]; simp; omega
  have hne2:¬ ((set.length:Int)+1=set.length):=by omega
  have hne3:(((set.length:Int)+1) == (set.length:Int))=false:=beq_eq_false_iff_ne.2 (by omega)
  rw [hpl] at HQ4 HS3 HAP3 ⊢
  have HEND:Hid (∀ (adds:List Ir) (qv:Value) (W:World),(∀ y,y∈adds↔∃ (s t:Int) (q:Nat) (p:Pr),y=((q:Int),(0:Int),t)∧nextI f (x0,x1,x2)=some s∧f.prods[q]?=some p∧p.left=s∧LookP f (x0,x1,x2) t)→adds.length≤240400→lenV qv=rest.length+adds.length→SlL set2 (.slice pa3 (set.length+1) pc3) W→QRow (DQ M (.slice pa3 (set.length+1) pc3)) 3 qv (rest++adds).length ((rest++adds).flatMap encR) W→(∀ y∈adds,okR y)→Below M w2 W →
      (∃ set todo,SlL set (.slice pa3 (set2.length) pc3) W∧Apart M (.slice pa3 (set2.length) pc3)∧QRow (DQ M (.slice pa3 (set2.length) pc3)) 3 qv todo.length (todo.flatMap encR) W∧CW f (fun x=>x∈l) set todo∧(∀ x∈todo,okR x)∧todo.length≤l.length+set.length * KC∧Below M w2 W)∧(maxI - lenV (.slice pa3 set2.length pc3)) * KC+lenV qv<(maxI - lenV (.slice sa set.length sc)) * KC+lenV (.slice (some ⟨b,off,none⟩) (rest.length+1) qc)):=by
    intro adds qv W hadd hal hqv h1 h2 h3 h4
    rw [hpl]
    refine ⟨⟨set2,rest++adds,h1,HAP3.out,h2,HNEW.out adds hadd,fun y hy=>?_,?_,h4⟩,?_⟩
    · rcases List.mem_append.1 hy with hy | hy
      · exact HOKR.out y hy
      · exact h3 y hy
    · rw [List.length_append,hpl,Nat.add_mul,Nat.one_mul]; unfold KC at *; omega
    · rw [hqv]
      simp only [lenV]
      have e:maxI - set.length=(maxI - (set.length+1))+1:=by omega
      rw [e,Nat.add_mul,Nat.one_mul]; unfold KC; omega
  clear HNEW
  cases hnx:nextI f (x0,x1,x2) with
  | none =>
    rw [hnx] at hN
    simp only [Option.getD_none,Option.isSome_none] at hN
    have HNA:Hid (∀ y,y∈([]:List Ir)↔∃ (s t:Int) (q:Nat) (p:Pr),y=((q:Int),(0:Int),t)∧nextI f (x0,x1,x2)=some s∧f.prods[q]?=some p∧p.left=s∧LookP f (x0,x1,x2) t):=no_adds HFP.out (fun s h=>by rw [hnx] at h; cases h)
    clear hnx hfit
    go_wp2_with fail
    refine hN.mono ?_
    rintro e W4 ⟨rfl,hb4⟩
    have B5:=HSZ.out _ _ B4 hb4
    have HQ5:Hid (QRow (DQ M (.slice pa3 (set.length+1) pc3)) 3 (.slice qa2 rest.length qc2) rest.length (rest.flatMap encR) W4):=HQ4.out.next hb4
    have HS4:Hid (SlL set2 (.slice pa3 (set.length+1) pc3) W4):=HS3.out.next hb4
    clear hb4 hN HQ4 HS3 k0 k1 k2 y0 y1 y2
    go_wp2_with fail
    have:=HEND.out [] (.slice qa2 rest.length qc2) W4 HNA.out (by simp) rfl HS4.out (by simpa using HQ5.out) (by simp) B5
    rw [hpl] at this
    exact this
  | some s =>
  obtain ⟨_,yy,hyy,hys⟩:=nextI_some hnx
  have hfi:=fitI_iff.1 hfit
  have hslt:=nextI_lt HFP.out hnx
  simp only at hfi hyy
  obtain ⟨p1,p2,p3,p4,p5,p6⟩:=hfi
  obtain ⟨d,rfl⟩:∃ d:Nat,x1=d:=⟨x1.toNat,by omega⟩
  rw [Int.toNat_natCast] at hyy
  have hdr:d<(rightI f x0).length:=(List.getElem?_eq_some_iff.1 hyy).1
  have hd64:d<64:=Nat.lt_of_lt_of_le hdr (rightI_le HFP.out x0)
  rw [hnx] at hN
  simp only [Option.getD_some,Option.isSome_some] at hN
  clear hyy hys p4
  by_cases hst:s<f.terms.length
  · have HNA:Hid (∀ y,y∈([]:List Ir)↔∃ (s t:Int) (q:Nat) (p:Pr),y=((q:Int),(0:Int),t)∧nextI f (x0,(d:Int),x2)=some s∧f.prods[q]?=some p∧p.left=s∧LookP f (x0,(d:Int),x2) t):=no_adds HFP.out (fun s' h=>by rw [hnx] at h; cases h; exact hst)
    clear hnx hfit
    go_wp2_with fail
    refine hN.mono ?_
    rintro e W4 ⟨rfl,hb4⟩
    have B5:=HSZ.out _ _ B4 hb4
    have HQ5:Hid (QRow (DQ M (.slice pa3 (set.length+1) pc3)) 3 (.slice qa2 rest.length qc2) rest.length (rest.flatMap encR) W4):=HQ4.out.next hb4
    have HS4:Hid (SlL set2 (.slice pa3 (set.length+1) pc3) W4):=HS3.out.next hb4
    clear hb4 hN HQ4 HS3 k0 k1 k2 y0 y1 y2
    obtain ⟨_,k0,k1,k2⟩:=HXF.out _ B5
    simp only at k0 k1 k2
    go_wp2_with fail
    have:=HEND.out [] (.slice qa2 rest.length qc2) W4 HNA.out (by simp) rfl HS4.out (by simpa using HQ5.out) (by simp) B5
    rw [hpl] at this
    exact this
  have HADD:Hid (∀ y,y∈addsL f R Le (x0,(d:Int),x2)↔∃ (s t:Int) (q:Nat) (p:Pr),y=((q:Int),(0:Int),t)∧nextI f (x0,(d:Int),x2)=some s∧f.prods[q]?=some p∧p.left=s∧LookP f (x0,(d:Int),x2) t):=fun y=>adds_iff HFE.out HFP.out
  have HADL:Hid ((addsL f R Le (x0,(d:Int),x2)).length≤240400):=adds_len HFE.out HFP.out
  have HLKL:Hid ((looksL R Le (behI f (x0,(d:Int),x2)) x2).length≤601):=HFE.out.looks_len HFP.out hfit
  have HADE:Hid (addsL f R Le (x0,(d:Int),x2)=(ofA f s).flatMap fun q=>(looksL R Le (behI f (x0,(d:Int),x2)) x2).map fun t=>(q,0,t)):=by show _=_; unfold addsL; rw [hnx]
  have HBEH:Hid (behI f (x0,(d:Int),x2)=((rightI f x0).drop (d+1)).map fun y=>y.sym.toNat):=by show _=_; unfold behI; simp only; rw [Int.toNat_natCast]
  have HSYM:Hid (∀ y∈rightI f x0,0≤y.sym∧y.sym<(f.n:Int)):=fun y hy=>rightI_sym HFP.out hy
  have HRR:Hid (∀ W,Below M w2 W→Calls Tryz.prog 71 #[.agg #[.slice ta f.terms.length tc,.slice na f.nons.length nc,.slice pa f.prods.length pc],.int .i64 x0] W fun e w'=>∃ u,e=.returned u∧SlT (rightI f x0) u w'∧Below W.heap.size W w'):=fun W h=>HRT.out x0 W (HBB.out _ h) p1 p2
  clear hnx hfit
  go_wp2_with fail
  refine hN.mono ?_
  rintro e W4 ⟨rfl,hb4⟩
  have Y4:=Y3.next hb4
  have B5:=HSZ.out _ _ B4 hb4
  have HQ5:Hid (QRow (DQ M (.slice pa3 (set.length+1) pc3)) 3 (.slice qa2 rest.length qc2) rest.length (rest.flatMap encR) W4):=HQ4.out.next hb4
  have HS4:Hid (SlL set2 (.slice pa3 (set.length+1) pc3) W4):=HS3.out.next hb4
  have hzW4:wr.heap.size<W4.heap.size:=Nat.lt_of_lt_of_le hzW3 hb4.size
  clear hb4 hN HQ4 HS3 k0 k1 k2 y0 y1 y2 Y3 hzW3
  obtain ⟨_,k0,k1,k2⟩:=HXF.out _ B5
  simp only at k0 k1 k2
  obtain ⟨r,hr⟩:∃ r,rightI f x0=r:=⟨_,rfl⟩
  have hr64:=rightI_le HFP.out x0
  rw [hr] at HRR HSYM HBEH hdr hr64
  clear hr
  have X5:=HXF.out _ B5
  have HSI:Hid (∀ W,Below W4.heap.size W4 W→(W.cell? ⟨w.heap.size,0,none⟩=some (.slice ta f.terms.length tc)∧W.cell? ⟨w.heap.size,1,none⟩=some (.slice na f.nons.length nc)∧W.cell? ⟨w.heap.size,2,none⟩=some (.slice pa f.prods.length pc)∧W.cell? ⟨wr.heap.size,0,none⟩=some (.int .i64 x0)∧W.cell? ⟨wr.heap.size,1,none⟩=some (.int .i64 d)∧W.cell? ⟨wr.heap.size,2,none⟩=some (.int .i64 x2)∧Below W4.heap.size W4 W)):=fun W hb=>by
    obtain ⟨_,k0,k1,k2⟩:=X5.next hb
    obtain ⟨_,y0,y1,y2⟩:=Y4.next hb
    exact ⟨k0,k1,k2,y0,y1,y2,hb⟩
  have HS0:Hid (W4.drew.cell? ⟨w.heap.size,0,none⟩=some (.slice ta f.terms.length tc)∧W4.drew.cell? ⟨w.heap.size,1,none⟩=some (.slice na f.nons.length nc)∧W4.drew.cell? ⟨w.heap.size,2,none⟩=some (.slice pa f.prods.length pc)∧W4.drew.cell? ⟨wr.heap.size,0,none⟩=some (.int .i64 x0)∧W4.drew.cell? ⟨wr.heap.size,1,none⟩=some (.int .i64 d)∧W4.drew.cell? ⟨wr.heap.size,2,none⟩=some (.int .i64 x2)∧Below W4.heap.size W4 W4.drew):=HSI.out _ (Below.refl _ _).drew
  have HCR:Hid (Calls Tryz.prog 71 #[.agg #[.slice ta f.terms.length tc,.slice na f.nons.length nc,.slice pa f.prods.length pc],.int .i64 x0] W4.drew fun e w'=>∃ rb ro vc,e=.returned (.slice (some ⟨rb,ro,none⟩) r.length vc)∧Hid (SlT r (.slice (some ⟨rb,ro,none⟩) r.length vc) w')∧r.length≤vc∧vc≤140737488351232∧(w'.cell? ⟨w.heap.size,0,none⟩=some (.slice ta f.terms.length tc)∧w'.cell? ⟨w.heap.size,1,none⟩=some (.slice na f.nons.length nc)∧w'.cell? ⟨w.heap.size,2,none⟩=some (.slice pa f.prods.length pc)∧w'.cell? ⟨wr.heap.size,0,none⟩=some (.int .i64 x0)∧w'.cell? ⟨wr.heap.size,1,none⟩=some (.int .i64 d)∧w'.cell? ⟨wr.heap.size,2,none⟩=some (.int .i64 x2)∧Below W4.heap.size W4 w')):=by
    refine (HRR.out _ (HSZ.out _ _ B5 (Below.refl _ _).drew)).mono ?_
    rintro e w' ⟨u,rfl,hu,hb⟩
    obtain ⟨ua,uc,rfl,hI,h2,h3,h4⟩:=id hu
    obtain ⟨rb,ro,rfl,_⟩:=hI.at (Below.refl _ _) hdr
    exact ⟨rb,ro,uc,rfl,hu,h3,h4,HSI.out _ (below_then (Below.refl _ _).drew hb (Nat.le_refl _))⟩
  clear HRR
  have hwr:IntKind.i64.wrap ((d:Int)+1)=(d:Int)+1:=IntWalk.i64_in _ (by omega)
  have hd0:0≤(d:Int)+1:=by omega
  go_wp2_with fail
  refine wp_region_L (fun W=>W.cell? ⟨w.heap.size,0,none⟩=some (.slice ta f.terms.length tc)∧W.cell? ⟨w.heap.size,1,none⟩=some (.slice na f.nons.length nc)∧W.cell? ⟨w.heap.size,2,none⟩=some (.slice pa f.prods.length pc)∧W.cell? ⟨wr.heap.size,0,none⟩=some (.int .i64 x0)∧W.cell? ⟨wr.heap.size,1,none⟩=some (.int .i64 d)∧W.cell? ⟨wr.heap.size,2,none⟩=some (.int .i64 x2)∧Below W4.heap.size W4 W) 9 (by kernel_rfl) 9 rfl ?_
  refine tk 0 ⟨some 64,.load 25 (.tmp 2),25, "ref.go:75",#[],none⟩ HS0.out ?_;simp only [Act.put,sA,s0,sS]
  refine tk 1 ⟨some 65,.fieldAddr 77 (.tmp 9) 0,0, "ref.go:75",#[],none⟩ HS0.out ?_;simp only [Act.put,sA,s0,sS]
  refine tk 2 ⟨some 66,.load 3 (.tmp 65),3, "ref.go:75",#[⟨1,.data⟩],none⟩ HS0.out ?_;simp only [Act.put,sA,s0,sS]
  refine tk 4 ⟨some 68,.fieldAddr 77 (.tmp 9) 1,0, "ref.go:75",#[],none⟩ HS0.out ?_;simp only [Act.put,sA,s0,sS]
  refine tk 5 ⟨some 69,.load 3 (.tmp 68),3, "ref.go:75",#[⟨4,.data⟩],none⟩ HS0.out ?_;simp only [Act.put,sA,s0,sS]
  refine tk 6 ⟨some 70,.binOp .add 3 (.tmp 69) (.const (.int .i64 1)) 3,3, "ref.go:75",#[⟨5,.data⟩],none⟩ HS0.out ?_;simp only [Act.put,sA,s0,sS]
  refine wpAnyL_one' (i:=3) (o:=⟨some 67,.call ⟨.value (.func 71),#[.tmp 64,.tmp 66],#[25,3]⟩,56, "ref.go:75",#[⟨0,.data⟩,⟨2,.data⟩],none⟩) (by kernel_rfl) rfl rfl (fun K hK=>?_)
  go_simp
  refine (HCR.out).mono ?_
  rintro e W5 ⟨rb,ro,vc,rfl,hSl,hvc,hvm,hS⟩
  refine hK.out _ _ (fun _=>hS) ?_
  clear hK
  have hdv:(d:Int)+1≤vc:=by omega
  have hdv2:(d:Int)+1≤r.length:=by omega
  refine tk 7 ⟨some 71,.slice 56 (.tmp 67) (some (.tmp 70)) none none,56, "ref.go:75",#[⟨3,.data⟩,⟨6,.data⟩],none⟩ hS ?_;simp only [Act.put,sA,s0,sS]
  refine tk 8 ⟨some 14,.assign (.tmp 71),56, "ref.go:75",#[⟨7,.data⟩,⟨3,.chain⟩,⟨0,.phase⟩,⟨1,.phase⟩,⟨2,.phase⟩,⟨3,.phase⟩,⟨4,.phase⟩,⟨5,.phase⟩,⟨6,.phase⟩,⟨7,.phase⟩],none⟩ hS ?_;simp only [Act.put,sA,s0,sS]
  refine wpAnyL_done (by kernel_rfl) ?_ _
  have HSL:Hid (SlT r (.slice (some ⟨rb,ro,none⟩) r.length vc) W5):=hSl
  have B6:=HSZ.out _ _ B5 hS.2.2.2.2.2.2
  have Y5:=Y4.next hS.2.2.2.2.2.2
  have HQ6:Hid (QRow (DQ M (.slice pa3 (set.length+1) pc3)) 3 (.slice qa2 rest.length qc2) rest.length (rest.flatMap encR) W4∧Below W4.heap.size W4 W5):=⟨HQ5.out,hS.2.2.2.2.2.2⟩
  have HS5:Hid (SlL set2 (.slice pa3 (set.length+1) pc3) W5):=HS4.out.next hS.2.2.2.2.2.2
  clear hSl hS HQ5 HS4 HSI HS0 HCR X5 Y4 k0 k1 k2
  clear B1 hszr
  generalize wr.heap.size=xb at *
  -- what stands behind
  obtain ⟨ba,hba⟩:∃ ba,(if vc=d+1 then some (⟨rb,ro,none⟩:Addr) else some ⟨rb,ro+(d+1) * 3,none⟩)=ba:=⟨_,rfl⟩
  have HIT:Hid (∀ W,Below W5.heap.size W5 W→ItsAt (r.drop (d+1)) ba W):=fun W hb=>by
    refine ItsAt.next ?_ hb
    obtain ⟨ao,cap,e,hI,_,hcap,_⟩:=HSL.out
    cases e
    intro i y hy
    rw [List.getElem?_drop] at hy
    have hlt:=(List.getElem?_eq_some_iff.1 hy).1
    obtain ⟨b',o',e',h1,h2,h3,h4,h5⟩:=hI (d+1+i) y hy
    cases e'
    rw [← hba,if_neg (by omega)]
    have e3:ro+(d+1) * 3+i * 3=ro+(d+1+i) * 3:=by omega
    exact ⟨_,_,rfl,h1,by rw [e3]; exact h2,by rw [e3]; exact h3,by rw [e3]; exact h4,h5⟩
  rw [hba]
  obtain ⟨bs,hbs⟩:∃ bs,r.drop (d+1)=bs:=⟨_,rfl⟩
  have hbl:bs.length=r.length - (d+1):=by rw [← hbs]; simp
  have hb64:bs.length≤64:=by omega
  have HSB:Hid (∀ y∈bs,0≤y.sym∧y.sym<(f.n:Int)):=fun y hy=>HSYM.out y (by rw [← hbs] at hy; exact List.mem_of_mem_drop hy)
  rw [hbs] at HIT HBEH
  rw [← hbl]
  obtain ⟨sy,hsy⟩:∃ sy,behI f (x0,(d:Int),x2)=sy:=⟨_,rfl⟩
  rw [hsy] at HLKL HADE HBEH
  clear hba hbs hbl HSL HSYM hsy hdr hd64 hvc hvm hdv hdv2 hwr hd0
  have hRL:R.length=f.n:=HFE.out.r.1
  have hLL:Le.length=f.n:=HFE.out.e.1
  have HRW:Hid (∀ q,(rowAt R q).length≤601):=fun q=>first_row_le hn HFE.out.r q
  have HRL:Hid (R.length=f.n∧Le.length=f.n):=⟨hRL,hLL⟩
  clear hRL hLL
  go_wp2_with fail
  go_loopw [13,15,16] (fun lv bv kv wr'=>∃ (j:Nat) (A:List Int) (bb:Bool),bv=.bool bb∧kv=.int .i64 j∧j≤bs.length∧SlI A lv wr'∧Apart W5.heap.size lv∧A.length≤601 * j∧lookF R Le sy []=(if bb=true then lookF R Le (sy.drop j) A else (A,false))∧Below W5.heap.size W5 wr') (fun _ _ kv _=>bs.length - (intOf kv).toNat)
  case atStart=>exact ⟨0,[],true,rfl,rfl,Nat.zero_le _,⟨none,0,rfl,RowAt.nil _ _ _,fun _=>rfl,Nat.le_refl _,by simp⟩,Apart.none _ _ _,by simp,by simp,Below.refl _ _⟩
  case round =>
  obtain ⟨j,A,bb,rfl,rfl,hj,hA,hap,hAl,hlk,Br⟩:=hrel
  obtain ⟨aa,ac,rfl,_⟩:=id hA
  have HA:Hid (SlI A (.slice aa A.length ac) wr∧Apart W5.heap.size (.slice aa A.length ac)):=⟨hA,hap⟩
  have HLK:Hid (lookF R Le sy []=(if bb=true then lookF R Le (sy.drop j) A else (A,false))):=hlk
  clear hA hap hlk
  by_cases hgo:j<bs.length∧bb=true
  · obtain ⟨hlt,rfl⟩:=hgo
    obtain ⟨tb,tf,rfl,htb,t0,_,_,_⟩:=(HIT.out _ Br).at (Below.refl _ _) hlt
    obtain ⟨s1,s2⟩:=HSB.out _ (List.getElem_mem hlt)
    have HSY:Hid (sy.drop j=bs[j].sym.toNat :: sy.drop (j+1)):=by
      show _=_
      rw [HBEH.out,List.drop_eq_getElem_cons (by simpa using hlt)]
      simp
    generalize bs[j]=it at *
    obtain ⟨g,hg⟩:∃ g:Nat,it.sym=g:=⟨it.sym.toNat,by omega⟩
    rw [hg] at t0 s1 s2 HSY
    rw [Int.toNat_natCast] at HSY
    have hgn:g<f.n:=by omega
    have Bm:=HSZ.out _ _ B6 Br
    obtain ⟨hSR1,hSB1⟩:=HSR.out _ Bm
    obtain ⟨fb,fo,fu,fcap,e1,_,f0,hfu⟩:=rows_of_sl hSR1 (s:=g) (by rw [HRL.out.1]; exact hgn)
    cases e1
    obtain ⟨eb,eo,ecap,e2,hebl,e0⟩:=bools_of_sl hSB1 (s:=g) (by rw [HRL.out.2]; exact hgn)
    cases e2
    have hrw:=HRW.out g
    have hfu':∃ a c,fu=.slice a (rowAt R g).length c:=by obtain ⟨a,c,h,_⟩:=hfu; exact ⟨_,_,h⟩
    obtain ⟨fua,fuc,rfl⟩:=hfu'
    have hU:=union_any A (rowAt R g) _ _ wr HA.out.1 hfu (by omega)
    have HU:Hid (Calls Tryz.prog 107 #[.slice aa A.length ac,.slice fua (rowAt R g).length fuc] wr fun e w'=>∃ v',e=.returned v'∧SlI (unionL A (rowAt R g)) v' w'∧(v'=.slice aa A.length ac∨Apart wr.heap.size v')∧Below wr.heap.size wr w'):=hU
    have hul:=(length_unionL A (rowAt R g)).2
    have hRn:(g:Int)<R.length:=by rw [HRL.out.1]; omega
    have hLn:(g:Int)<Le.length:=by rw [HRL.out.2]; omega
    have HLK2:Hid (lookF R Le sy []=(if onb Le g=true then lookF R Le (sy.drop (j+1)) (unionL A (rowAt R g)) else (unionL A (rowAt R g),false))):=by
      show _=_
      rw [HLK.out,if_pos rfl,HSY.out,lookF]
    clear hU hfu hSR1 hSB1 HLK HSY
    generalize unionL A (rowAt R g)=A2 at *
    generalize (rowAt R g).length=gl at *
    go_wp2_with fail
    refine HU.out.mono ?_
    rintro e wu ⟨v',rfl,hA2,hap2,hbu⟩
    obtain ⟨aa2,ac2,rfl,_⟩:=id hA2
    have Br2:=below_then Br hbu Br.size
    have HA2:Hid (SlI A2 (.slice aa2 A2.length ac2) wu∧Apart W5.heap.size (.slice aa2 A2.length ac2)):=by
      refine ⟨hA2,?_⟩
      rcases hap2 with h | h
      · rw [h]; exact HA.out.2
      · exact h.mono Br.size
    have t1:=(hbu.cell (p:=⟨tb,tf+j * 3,none⟩) htb).trans t0
    have e1:=(hbu.cell (p:=⟨eb,eo+g,none⟩) hebl).trans e0
    generalize onb Le g=ob at *
    clear hA2 hap2 hbu HU HA t0 e0 f0
    go_wp2_with fail
    exact ⟨⟨j+1,A2,ob,rfl,by go_num,by omega,HA2.out.1,HA2.out.2,by omega,HLK2.out,Br2⟩,by simp [intOf]; omega⟩
  obtain ⟨LK,hLK⟩:∃ LK,looksL R Le sy x2=LK:=⟨_,rfl⟩
  rw [hLK] at HLKL HADE
  have HLE:Hid (LK=if bb=true then unionL A [x2] else A):=by
    show _=_
    rw [← hLK]
    unfold looksL
    rw [HLK.out]
    cases bb with
    | false=>rfl
    | true =>
      have hje:j=bs.length:=by
        rcases Nat.lt_or_ge j bs.length with h | h
        · exact absurd ⟨h,rfl⟩ hgo
        · omega
      have hdn:sy.drop j=[]:=by
        rw [HBEH.out,hje]
        simp
      rw [hdn]
      simp [lookF]
  have hjb:decide ((j:Int)<bs.length)=(decide ((j:Int)<bs.length)):=rfl
  clear HLK hLK hjb
  have Y6:=Y5.next Br
  have B7:=HSZ.out _ _ B6 Br
  have hx2:i64B x2:=hokx.2.2
  have HXE:Hid ((decide ((j:Int)<bs.length) && bb)=false):=by
    show _=_
    cases bb with
    | false=>simp
    | true =>
      rw [decide_eq_false (fun h=>hgo ⟨by omega,rfl⟩)]; rfl
  have hexit:j<bs.length→bb=false:=fun h=>by
    cases bb with
    | false=>rfl
    | true=>exact absurd ⟨h,rfl⟩ hgo
  have HEX:Hid (j<bs.length→bb=false):=hexit
  clear hexit hgo HIT HSB HBEH
  have hexits:(j<bs.length∧bb=false)∨¬ j<bs.length:=by
    by_cases h:j<bs.length
    · exact .inl ⟨h,HEX.out h⟩
    · exact .inr h
  go_upto_region 18 with fail
  go_cut [78] from 72 to 98 (fun t78 wx=>t78=.bool false∧wx=wr)
  case first =>
    rcases hexits with ⟨h1,rfl⟩ | h1
    · go_wp2_with fail
      go_meet
      exact ⟨rfl,rfl⟩
    · have h1':¬ (j:Int)<bs.length:=by omega
      go_wp2_with fail
      go_meet
      exact ⟨rfl,rfl⟩
  case rest =>
  obtain ⟨rfl,rfl⟩:=hcut
  go_upto_if 99 with fail
  obtain ⟨_,y0,y1,y2⟩:=id Y6
  simp only at y0 y1 y2
  have HUN:Hid (∀ W,Below wc.heap.size wc W→W.cell? ⟨W.heap.size - 1,0,none⟩=some (.int .i64 x2)→True):=fun _ _ _=>trivial
  clear HUN
  go_cut [13] from 100 to 104 (fun t13 wx=>∃ la lc,t13=.slice la LK.length lc∧SlI LK t13 wx∧Apart W5.heap.size t13∧Below wc.heap.size wc wx)
  case first =>
    cases bb with
    | false =>
      have hle:=HLE.out
      rw [if_neg (by simp)] at hle
      go_wp2_with fail
      go_meet
      rw [hle]
      exact ⟨aa,ac,rfl,HA.out.1,HA.out.2,Below.refl _ _⟩
    | true =>
      have hle:=HLE.out
      rw [if_pos rfl] at hle
      have hX:SlI [x2] (.slice (some ⟨wc.heap.size,0,none⟩) 1 1) (wc.alloc (Obj.cells #[.int .i64 x2] 3)):=by
        refine ⟨_,1,rfl,fun i y hi=>?_,(fun h=>by cases h),by simp,by simpa using hx2⟩
        rcases i with _ | i
        · simp at hi; subst hi
          exact ⟨_,_,rfl,by simp,by simp [encI]⟩
        · simp at hi
      have Bn:Below wc.heap.size wc (wc.alloc (Obj.cells #[.int .i64 x2] 3)):=(Below.refl _ _).alloc (Nat.le_refl _) _
      have hU:=union_any A [x2] _ _ _ (HA.out.1.next Bn) hX (by simp; omega)
      rw [← hle] at hU
      have HU:Hid (Calls Tryz.prog 107 #[.slice aa A.length ac,.slice (some ⟨wc.heap.size,0,none⟩) 1 1] (wc.alloc (Obj.cells #[.int .i64 x2] 3)) fun e w'=>∃ v',e=.returned v'∧SlI LK v' w'∧(v'=.slice aa A.length ac∨Apart (wc.alloc (Obj.cells #[.int .i64 x2] 3)).heap.size v')∧Below (wc.alloc (Obj.cells #[.int .i64 x2] 3)).heap.size (wc.alloc (Obj.cells #[.int .i64 x2] 3)) w'):=hU
      clear hU hX hle
      go_wp2_with fail
      refine HU.out.mono ?_
      rintro e wu ⟨v',rfl,hA2,hap2,hbu⟩
      obtain ⟨aa2,ac2,rfl,_⟩:=id hA2
      have HAP:Hid (Apart W5.heap.size (.slice aa2 LK.length ac2)):=by
        rcases hap2 with h | h
        · rw [h]; exact HA.out.2
        · exact h.mono (by have:=Br.size; simp; omega)
      have HBU:Hid (Below wc.heap.size wc wu):=below_then Bn hbu Bn.size
      clear hap2 hbu HU Bn
      go_wp2_with fail
      go_meet
      exact ⟨aa2,ac2,rfl,hA2,HAP.out,HBU.out⟩
  case rest =>
  obtain ⟨lka,lkc,rfl,hLKs,hLKa,hBc⟩:=hcut
  have B8:=HSZ.out _ _ B7 hBc
  have Bc5:Below W5.heap.size W5 wc:=below_then Br hBc Br.size
  obtain ⟨_,k0,k1,k2⟩:=HXF.out _ B8
  simp only at k0 k1 k2
  have HOFC:Hid (Calls Tryz.prog 108 #[.agg #[.slice ta f.terms.length tc,.slice na f.nons.length nc,.slice pa f.prods.length pc],.int .i64 s] wc fun e w'=>∃ u,e=.returned u∧SlI (ofA f s) u w'∧Apart wc.heap.size u∧Below wc.heap.size wc w'):=HOF.out s wc (HBB.out _ B8)
  have HLS:Hid (SlI LK (.slice lka LK.length lkc) wc∧Apart W5.heap.size (.slice lka LK.length lkc)):=⟨hLKs,hLKa⟩
  have hofl:=ofA_len HFP.out s
  clear hLKs hLKa hBc HA HLE y0 y1 y2 Y6 Y5 B7 HEX hexits HXE
  go_wp2_with fail
  refine HOFC.out.mono ?_
  rintro e W7 ⟨ou,rfl,hOs,hOa,hb7⟩
  have hou:∃ a c,ou=.slice a (ofA f s).length c:=by obtain ⟨a,c,h,_⟩:=hOs; exact ⟨_,_,h⟩
  obtain ⟨oa,oc,rfl⟩:=hou
  have B9:=HSZ.out _ _ B8 hb7
  have Bc7:=below_then Bc5 hb7 Bc5.size
  have HL7:Hid (SlI LK (.slice lka LK.length lkc) W7):=HLS.out.1.next hb7
  have HS7:Hid (SlL set2 (.slice pa3 (set.length+1) pc3) W7):=HS5.out.next Bc7
  have hs45:W4.heap.size≤W5.heap.size:=HQ6.out.2.size
  have hs57:W5.heap.size≤W7.heap.size:=Bc7.size
  obtain ⟨DR,hDR⟩:∃ DR:Nat→Prop,DR=fun k=>DQ M (.slice pa3 (set.length+1) pc3) k∧(k<W5.heap.size∨W7.heap.size≤k):=⟨_,rfl⟩
  have HQ7:Hid (QRow DR 3 (.slice qa2 rest.length qc2) rest.length (rest.flatMap encR) W7):=by
    rw [hDR]
    exact ((HQ6.out.1.mono (E:=fun k=>DQ M (.slice pa3 (set.length+1) pc3) k∧(k<W5.heap.size∨W7.heap.size≤k)) (fun k hk hd=>⟨hd,.inl (by omega)⟩)).next HQ6.out.2).next Bc7
  have HNL:Hid (∀ ad n c,Value.slice lka LK.length lkc=.slice (some ad) n c→LK≠[]→¬ DR ad.block):=fun ad n c e hne hd=>by
    rw [hDR] at hd
    have h1:=HLS.out.2 ad n c e
    obtain ⟨ao,cap,e',hI,_⟩:=HL7.out
    rw [e] at e'
    cases e'
    obtain ⟨b',o',e2,h2,_⟩:=hI.at (Below.refl _ _) (j:=0) (List.length_pos_iff.2 hne)
    cases e2
    simp only at hd h1
    omega
  obtain ⟨OF,hOFE⟩:∃ OF,ofA f s=OF:=⟨_,rfl⟩
  rw [hOFE] at hOs HADE hofl ⊢
  have HOA:Hid (Apart wc.heap.size (.slice oa OF.length oc)):=by rw [hOFE] at hOa; exact hOa
  have HO7:Hid (SlI OF (.slice oa OF.length oc) W7):=hOs
  have HNO:Hid (∀ ad n c,Value.slice oa OF.length oc=.slice (some ad) n c→OF≠[]→¬ DR ad.block):=fun ad n c e hne hd=>by
    rw [hDR] at hd
    have h1:=HOA.out ad n c e
    have h5:=Bc5.size
    obtain ⟨ao,cap,e',hI,_⟩:=HO7.out
    rw [e] at e'
    cases e'
    obtain ⟨b',o',e2,h2,_⟩:=hI.at (Below.refl _ _) (j:=0) (List.length_pos_iff.2 hne)
    cases e2
    simp only at hd h1
    omega
  have HDN:Hid (∀ W:World,W7.heap.size≤W.heap.size→∀ k,W.heap.size≤k→DR k):=fun W hW k hk=>by
    rw [hDR]
    refine ⟨⟨by have:=B9.size; have:=HM.out; omega,fun ad n c e=>?_⟩,.inr (by omega)⟩
    obtain ⟨ao,cap,e',hI,_⟩:=HS7.out
    have hne:0<set2.length:=by omega
    obtain ⟨b',o',e2,h2,_⟩:=hI.at (Below.refl _ _) hne
    rw [e2] at e'
    rw [e] at e'
    cases e'
    simp only
    omega
  have HDM:Hid (∀ k,DR k→M≤k):=fun k hk=>by rw [hDR] at hk; exact hk.1.1
  have HSD:Hid (∀ W,But DR W7 W→SlL set2 (.slice pa3 (set.length+1) pc3) W∧QRow DR 3 (.slice none 0 0) 0 [] W):=fun W hb=>⟨HS7.out.but hb (fun ad n c e _ hd=>by rw [hDR] at hd; exact hd.1.2 ad n c e rfl),QRow.nil _ _ _⟩
  have HDQ:Hid (∀ k,DR k→DQ M (.slice pa3 (set.length+1) pc3) k):=fun k hk=>by rw [hDR] at hk; exact hk.1
  have hMW:M≤W7.heap.size:=by have:=B9.size; have:=HM.out; omega
  have HBW:Hid (∀ W,But DR W7 W→Below M w2 W):=fun W hb=>B9.trans (hb.below hMW HDM.out)
  clear hDR hOs hOa hOFE hb7 HLS HS5 HQ6 HS7 Bc5 HOA k0 k1 k2 HOFC Br B8 Bc7 B6 hs45 hs57
  have hsk:set.length * KC≤16000000 * 240401:=Nat.mul_le_mul (by unfold maxI at hpm; omega) (Nat.le_refl _)
  have hlkl:=HLKL.out
  obtain ⟨gA,hgA⟩:∃ g:Int→List Ir,g=fun q=>LK.map fun t=>((q,0,t):Ir):=⟨_,rfl⟩
  have HGA:Hid (∀ q,gA q=LK.map fun t=>((q,0,t):Ir)):=fun q=>by rw [hgA]
  have HADE2:Hid (addsL f R Le (x0,(d:Int),x2)=OF.flatMap gA):=by show _=_; rw [hgA]; exact HADE.out
  clear hgA HADE HLKL
  have HFL:Hid (∀ j,((OF.take j).flatMap gA).length≤j * 601):=fun j=>by
    have:=flatMap_const_len gA (k:=601) (l:=OF.take j) (fun q _=>by rw [HGA.out,List.length_map]; omega)
    refine Nat.le_trans this (Nat.mul_le_mul_right _ (by simp; omega))
  go_wp2_with fail
  go_loopw [8,18] (fun qv iv wr=>∃ (j:Nat),iv=.int .i64 j∧j≤OF.length∧QRow DR 3 qv (rest++(OF.take j).flatMap gA).length ((rest++(OF.take j).flatMap gA).flatMap encR) wr∧But DR W7 wr) (fun _ iv _=>OF.length - (intOf iv).toNat)
  case atStart=>exact ⟨0,rfl,Nat.zero_le _,by simpa using HQ7.out,But.refl _ _⟩
  case round =>
  clear HQ7
  obtain ⟨j3,rfl,hj3,hQ3,hB3⟩:=hrel
  obtain ⟨qa3,qc3,rfl⟩:=hQ3.shape
  have HQ:Hid (QRow DR 3 (.slice qa3 (rest++(OF.take j3).flatMap gA).length qc3) (rest++(OF.take j3).flatMap gA).length ((rest++(OF.take j3).flatMap gA).flatMap encR) wr):=hQ3
  clear hQ3
  by_cases hlt3:j3<OF.length
  · have HTK:Hid ((OF.take (j3+1)).flatMap gA=(OF.take j3).flatMap gA++gA OF[j3]):=by
      show _=_
      rw [List.take_succ_eq_append_getElem hlt3,List.flatMap_append]
      simp
    have hfl:=HFL.out j3
    have HOC:Hid (∀ W,But DR W7 W→∃ ob oo,oa=some ⟨ob,oo,none⟩∧ob<W.heap.size∧¬ DR ob∧W.cell? ⟨ob,oo+j3,none⟩=some (.int .i64 OF[j3])):=fun W hb=>by
      have h1:=HO7.out.but hb HNO.out
      obtain ⟨ao,cap,e',hI,_⟩:=h1
      cases e'
      obtain ⟨b',o',e2,h2,h3⟩:=hI.at (Below.refl _ _) hlt3
      subst e2
      exact ⟨b',o',rfl,h2,HNO.out _ _ _ rfl (fun e=>by rw [e] at hlt3; simp at hlt3),h3⟩
    generalize hoq:OF[j3]=oq at *
    clear hoq
    obtain ⟨L3,hL3⟩:∃ L3,rest++(OF.take j3).flatMap gA=L3:=⟨_,rfl⟩
    have hL3l:L3.length≤rest.length+240400:=by rw [← hL3,List.length_append]; omega
    have HL3:Hid (rest++(OF.take (j3+1)).flatMap gA=L3++gA oq):=by show _=_; rw [HTK.out,← List.append_assoc,hL3]
    rw [hL3] at HQ ⊢
    clear hL3 HTK
    go_wp2_with fail
    go_loopw [8,19] (fun qv kv wr=>∃ (k:Nat),kv=.int .i64 k∧k≤LK.length∧QRow DR 3 qv (L3++(LK.take k).map (fun t=>((oq,0,t):Ir))).length ((L3++(LK.take k).map (fun t=>((oq,0,t):Ir))).flatMap encR) wr∧But DR W7 wr) (fun _ kv _=>LK.length - (intOf kv).toNat)
    case atStart=>exact ⟨0,rfl,Nat.zero_le _,by simpa using HQ.out,hB3⟩
    case round =>
    clear HQ hB3
    obtain ⟨k4,rfl,hk4,hQ4,hB4⟩:=hrel
    obtain ⟨qa4,qc4,rfl⟩:=hQ4.shape
    have HQ:Hid (QRow DR 3 (.slice qa4 (L3++(LK.take k4).map (fun t=>((oq,0,t):Ir))).length qc4) (L3++(LK.take k4).map (fun t=>((oq,0,t):Ir))).length ((L3++(LK.take k4).map (fun t=>((oq,0,t):Ir))).flatMap encR) wr):=hQ4
    clear hQ4
    by_cases hlt4:k4<LK.length
    · have HTK4:Hid ((LK.take (k4+1)).map (fun t=>((oq,0,t):Ir))=(LK.take k4).map (fun t=>((oq,0,t):Ir))++[((oq,0,LK[k4]):Ir)]):=by
        show _=_
        rw [List.take_succ_eq_append_getElem hlt4,List.map_append]
        rfl
      obtain ⟨ob,oo,rfl,hobl,hobD,oc0⟩:=HOC.out _ hB4
      have hLc:∃ lb lo,lka=some ⟨lb,lo,none⟩∧lb<wr.heap.size∧¬ DR lb∧wr.cell? ⟨lb,lo+k4,none⟩=some (.int .i64 LK[k4]):=by
        have h1:=HL7.out.but hB4 HNL.out
        obtain ⟨ao,cap,e',hI,_⟩:=h1
        cases e'
        obtain ⟨b',o',e2,h2,h3⟩:=hI.at (Below.refl _ _) hlt4
        subst e2
        exact ⟨b',o',rfl,h2,HNL.out _ _ _ rfl (fun e=>by rw [e] at hlt4; simp at hlt4),h3⟩
      obtain ⟨lb,lo,rfl,hlbl,hlbD,lc0⟩:=hLc
      generalize LK[k4]=tt at *
      obtain ⟨L4,hL4⟩:∃ L4,L3++(LK.take k4).map (fun t=>((oq,0,t):Ir))=L4:=⟨_,rfl⟩
      have hL4l:L4.length≤rest.length+241001:=by rw [← hL4]; simp; omega
      have HL4:Hid (L3++(LK.take (k4+1)).map (fun t=>((oq,0,t):Ir))=L4++[(oq,0,tt)]):=by show _=_; rw [HTK4.out,← List.append_assoc,hL4]
      rw [hL4] at HQ ⊢
      clear hL4 HTK4
      have HS0:Hid (wr.drew.cell? ⟨ob,oo+j3,none⟩=some (.int .i64 oq)∧wr.drew.cell? ⟨lb,lo+k4,none⟩=some (.int .i64 tt)):=⟨oc0,lc0⟩
      have Bn:Below wr.drew.heap.size wr.drew (wr.drew.alloc (Obj.cells #[.int .i64 oq,.int .i64 0,.int .i64 tt] 77)):=(Below.refl _ _).alloc (Nat.le_refl _) _
      have HSA:Hid ((wr.drew.alloc (Obj.cells #[.int .i64 oq,.int .i64 0,.int .i64 tt] 77)).cell? ⟨ob,oo+j3,none⟩=some (.int .i64 oq)∧(wr.drew.alloc (Obj.cells #[.int .i64 oq,.int .i64 0,.int .i64 tt] 77)).cell? ⟨lb,lo+k4,none⟩=some (.int .i64 tt)) :=
        ⟨(Bn.cell (p:=⟨ob,oo+j3,none⟩) hobl).trans HS0.out.1,(Bn.cell (p:=⟨lb,lo+k4,none⟩) hlbl).trans HS0.out.2⟩
      have HQA:Hid (QRow DR 3 (.slice qa4 L4.length qc4) L4.length (L4.flatMap encR) (wr.drew.alloc (Obj.cells #[.int .i64 oq,.int .i64 0,.int .i64 tt] 77))):=(show QRow DR 3 (.slice qa4 L4.length qc4) L4.length (L4.flatMap encR) wr.drew from HQ.out.but (E:=fun _=>False) (But.refl _ wr).drew (fun _ _ h=>h)).next Bn
      have HDA:Hid (∀ k,(wr.drew.alloc (Obj.cells #[.int .i64 oq,.int .i64 0,.int .i64 tt] 77)).heap.size≤k→DR k):=HDN.out _ (Nat.le_trans hB4.size Bn.size)
      have HBA:Hid (But DR W7 (wr.drew.alloc (Obj.cells #[.int .i64 oq,.int .i64 0,.int .i64 tt] 77))):=hB4.drew.trans (But.of_next Bn)
      have hoT:(j3:Int)<OF.length:=by omega
      have hlT:(k4:Int)<LK.length:=by omega
      go_wp2_with fail
      refine wp_region_L (fun W=>W.cell? ⟨ob,oo+j3,none⟩=some (.int .i64 oq)∧W.cell? ⟨lb,lo+k4,none⟩=some (.int .i64 tt)) 13 (by kernel_rfl) 13 rfl ?_
      refine tk 0 ⟨some 120,.move (.tmp 8),64, "ref.go:87",#[],none⟩ HS0.out ?_;simp only [Act.put,sA,s0,sS]
      refine tk 1 ⟨some 121,.move (.tmp 17),43, "ref.go:87",#[],none⟩ HS0.out ?_;simp only [Act.put,sA,s0,sS]
      refine tk 2 ⟨some 122,.move (.tmp 18),3, "ref.go:87",#[],none⟩ HS0.out ?_;simp only [Act.put,sA,s0,sS]
      refine tk 3 ⟨some 123,.indexAddr 43 (.tmp 121) (.tmp 122),0, "ref.go:87",#[⟨1,.data⟩,⟨2,.data⟩],none⟩ HS0.out ?_;simp only [Act.put,sA,s0,sS]
      refine tk 4 ⟨some 124,.load 3 (.tmp 123),3, "ref.go:87",#[⟨3,.data⟩],none⟩ HS0.out ?_;simp only [Act.put,sA,s0,sS]
      refine tk 5 ⟨some 125,.move (.tmp 13),43, "ref.go:87",#[],none⟩ HS0.out ?_;simp only [Act.put,sA,s0,sS]
      refine tk 6 ⟨some 126,.move (.tmp 19),3, "ref.go:87",#[],none⟩ HS0.out ?_;simp only [Act.put,sA,s0,sS]
      refine tk 7 ⟨some 127,.indexAddr 43 (.tmp 125) (.tmp 126),0, "ref.go:87",#[⟨5,.data⟩,⟨6,.data⟩],none⟩ HS0.out ?_;simp only [Act.put,sA,s0,sS]
      refine tk 8 ⟨some 128,.load 3 (.tmp 127),3, "ref.go:87",#[⟨7,.data⟩],none⟩ HS0.out ?_;simp only [Act.put,sA,s0,sS]
      refine tk 9 ⟨some 129,.build 77 #[(0,.tmp 124),(2,.tmp 128)],77, "ref.go:87",#[⟨4,.data⟩,⟨8,.data⟩],none⟩ HS0.out ?_;simp only [Act.put,sA,s0,sS]
      refine wpAnyL_one' (i:=10) (o:=⟨some 130,.buildSlice 64 1 #[(0,.tmp 129)],64, "ref.go:87",#[⟨9,.data⟩],none⟩) (by kernel_rfl) rfl rfl (fun K hK=>?_)
      go_simp
      refine hK.out _ _ (fun _=>HSA.out) ?_
      clear hK
      refine wpAnyL_one' (i:=11) (o:=⟨some 131,.call ⟨.builtin .append,#[.tmp 120,.tmp 130],#[64,64]⟩,64, "ref.go:87",#[⟨0,.data⟩,⟨10,.data⟩],none⟩) (by kernel_rfl) rfl rfl (fun K hK=>?_)
      rw [if_pos (by rfl)]
      refine wp_append_q (.tmp 120) (.tmp 130) 64 rfl 77 i0 _ 3 24 Tryz.underlying64 hi0 hz0 hz1 hz2 rfl (by decide) rfl HQA.out HDA.out ⟨wr.heap.size,0,none⟩ 1 (encR (oq,0,tt)) rfl rfl (new_cellR wr.drew (oq,0,tt) _) (one_encR _) (by unfold maxLen; omega) (by omega) ?_
      intro v5 w5 hQ5 hB5
      obtain ⟨qa5,qc5,rfl⟩:=hQ5.shape
      have hS5:w5.cell? ⟨ob,oo+j3,none⟩=some (.int .i64 oq)∧w5.cell? ⟨lb,lo+k4,none⟩=some (.int .i64 tt):=⟨(hB5.cell (p:=⟨ob,oo+j3,none⟩) (Nat.lt_of_lt_of_le hobl Bn.size) hobD).trans HSA.out.1,(hB5.cell (p:=⟨lb,lo+k4,none⟩) (Nat.lt_of_lt_of_le hlbl Bn.size) hlbD).trans HSA.out.2⟩
      refine hK.out _ _ (fun _=>hS5) ?_
      clear hK
      simp only [Act.put,sA,s0,sS]
      refine tk 12 ⟨some 8,.assign (.tmp 131),64, "ref.go:87",#[⟨11,.data⟩,⟨11,.chain⟩,⟨0,.phase⟩,⟨1,.phase⟩,⟨2,.phase⟩,⟨3,.phase⟩,⟨4,.phase⟩,⟨5,.phase⟩,⟨6,.phase⟩,⟨7,.phase⟩,⟨8,.phase⟩,⟨9,.phase⟩,⟨10,.phase⟩,⟨11,.phase⟩],none⟩ hS5 ?_;simp only [Act.put,sA,s0,sS]
      refine wpAnyL_done (by kernel_rfl) ?_ _
      have HQ6:Hid (QRow DR 3 (.slice qa5 (L4.length+1) qc5) (L4.length+1) ((L4++[((oq,0,tt):Ir)]).flatMap encR) w5):=by
        have:=hQ5
        show QRow _ _ _ _ _ _
        rw [List.flatMap_append]
        simpa using this
      have HB5:Hid (But DR W7 w5):=HBA.out.trans hB5
      clear hQ5 hB5 hS5 HSA HQA HDA HBA Bn HS0 HQ
      go_wp2_with fail
      exact ⟨⟨k4+1,by go_num,by omega,by rw [HL4.out]; simpa using HQ6.out,HB5.out⟩,by simp [intOf]; omega⟩
    · obtain rfl:k4=LK.length:=by omega
      have HQF:Hid (QRow DR 3 (.slice qa4 (L3++gA oq).length qc4) (L3++gA oq).length ((L3++gA oq).flatMap encR) wr):=by
        have:=HQ.out
        rw [List.take_of_length_le (Nat.le_refl _),← HGA.out] at this
        exact this
      rw [List.take_of_length_le (Nat.le_refl _),← HGA.out] at *
      go_wp2_with fail
      exact ⟨⟨j3+1,by go_num,by omega,by rw [HL3.out]; exact HQF.out,hB4⟩,by simp [intOf]; omega⟩
  · obtain rfl:j3=OF.length:=by omega
    have HQF:Hid (QRow DR 3 (.slice qa3 (rest++OF.flatMap gA).length qc3) (rest++OF.flatMap gA).length ((rest++OF.flatMap gA).flatMap encR) wr):=by
      have:=HQ.out
      rw [List.take_of_length_le (Nat.le_refl _)] at this
      exact this
    rw [List.take_of_length_le (Nat.le_refl _)] at *
    clear HQ
    go_wp2_with fail
    have hfin:=HEND.out (addsL f R Le (x0,(d:Int),x2)) (.slice qa3 (rest++OF.flatMap gA).length qc3) wr HADD.out HADL.out (by rw [HADE2.out]; simp [lenV]) (HSD.out _ hB3).1 (by rw [HADE2.out]; exact HQF.out.mono (fun k _ hk=>HDQ.out k hk)) (fun y hy=>by
      obtain ⟨s',t',q',p',rfl,h1,h2,h3,h4⟩:=(HADD.out y).1 hy
      have h5:=look_le (nextI_fit h1) h4
      have h6:=(List.getElem?_eq_some_iff.1 h2).1
      have h7:=HFP.out.prods
      have h8:=HFP.out.size
      unfold okR i64B
      simp only
      omega) (HBW.out _ hB3)
    rw [hpl] at hfin
    first
      | exact hfin
      | (go_roundw
         case rel=>(repeat apply Exists.intro); exact ⟨hfin.1,rfl⟩
         case measure=>exact hfin.2)
set_option maxRecDepth 100000 in
set_option maxHeartbeats 800000 in
theorem rfirst11_any (f:Fl) (a:FlA) (w:World) (hf:FlAt f a w) (hp:FitP f) :
    Calls Tryz.prog 67 #[a.val f] w fun e w'=>∃ v' L,e=.returned v'∧ClosI f (fun x=>x∈begL f) L∧SlL L v' w'∧Apart w.heap.size v'∧Below w.heap.size w w':=by
  have hn:f.n≤600:=hp.size
  have HC:Hid (∀ v W,Below w.heap.size w W→SlL (begL f) v W→Calls Tryz.prog 68 #[a.val f,v] W fun e w'=>∃ v' L,e=.returned v'∧ClosI f (fun x=>x∈begL f) L∧SlL L v' w'∧Apart W.heap.size v'∧Below W.heap.size W w'):=fun v W hb hv=>rclos_any f a (begL f) v W (hf.next hb) hp hv (by simp [begL])
  obtain ⟨ta,tc,na,nc,pa,pc⟩:=a
  have B0:Below w.heap.size w (w.alloc (Obj.cells #[Value.slice ta f.terms.length tc,Value.slice na f.nons.length nc,Value.slice pa f.prods.length pc] 25)):=(Below.refl _ _).alloc (Nat.le_refl _) _
  have B1:Below w.heap.size w ((w.alloc (Obj.cells #[Value.slice ta f.terms.length tc,Value.slice na f.nons.length nc,Value.slice pa f.prods.length pc] 25)).alloc (Obj.cells #[.int .i64 (-1),.int .i64 0,.int .i64 f.terms.length] 77)):=B0.alloc B0.size _
  have HX:=RBox.new (-1,0,(f.terms.length:Int)) 77 (w.alloc (Obj.cells #[Value.slice ta f.terms.length tc,Value.slice na f.nons.length nc,Value.slice pa f.prods.length pc] 25))
  have hz:(w.alloc (Obj.cells #[Value.slice ta f.terms.length tc,Value.slice na f.nons.length nc,Value.slice pa f.prods.length pc] 25)).heap.size=w.heap.size+1:=by simp
  rw [hz] at HX
  have hS:SlL (begL f) (.slice (some ⟨w.heap.size+1,0,none⟩) 1 1) ((w.alloc (Obj.cells #[Value.slice ta f.terms.length tc,Value.slice na f.nons.length nc,Value.slice pa f.prods.length pc] 25)).alloc (Obj.cells #[.int .i64 (-1),.int .i64 0,.int .i64 f.terms.length] 77)):=by
    refine SlL.of (l:=begL f) (fun i x hi=>?_) (fun h=>by cases h) (by simp [begL])
    rcases i with _ | i
    · simp [begL] at hi; subst hi
      obtain ⟨h0,h1,h2,h3⟩:=HX
      exact ⟨_,_,rfl,h0,h1,h2,h3,by unfold okR i64B; unfold Fl.n at hn; simp only; omega⟩
    · simp [begL] at hi
  have HCC:=HC.out _ _ B1 hS
  unfold FlA.val at HCC ⊢
  simp only at *
  clear hf hp HX hS HC hz
  have HCD:Hid (Calls Tryz.prog 68 #[.agg #[.slice ta f.terms.length tc,.slice na f.nons.length nc,.slice pa f.prods.length pc],.slice (some ⟨w.heap.size+1,0,none⟩) 1 1] ((w.alloc (Obj.cells #[Value.slice ta f.terms.length tc,Value.slice na f.nons.length nc,Value.slice pa f.prods.length pc] 25)).alloc (Obj.cells #[.int .i64 (-1),.int .i64 0,.int .i64 f.terms.length] 77)) fun e w'=>∃ v' L,e=.returned v'∧ClosI f (fun x=>x∈begL f) L∧SlL L v' w'∧Apart ((w.alloc (Obj.cells #[Value.slice ta f.terms.length tc,Value.slice na f.nons.length nc,Value.slice pa f.prods.length pc] 25)).alloc (Obj.cells #[.int .i64 (-1),.int .i64 0,.int .i64 f.terms.length] 77)).heap.size v'∧Below ((w.alloc (Obj.cells #[Value.slice ta f.terms.length tc,Value.slice na f.nons.length nc,Value.slice pa f.prods.length pc] 25)).alloc (Obj.cells #[.int .i64 (-1),.int .i64 0,.int .i64 f.terms.length] 77)).heap.size ((w.alloc (Obj.cells #[Value.slice ta f.terms.length tc,Value.slice na f.nons.length nc,Value.slice pa f.prods.length pc] 25)).alloc (Obj.cells #[.int .i64 (-1),.int .i64 0,.int .i64 f.terms.length] 77)) w'):=HCC
  clear HCC
  go_enter Tryz.func67,Tryz.ntmps67
  go_wp2_with fail
  refine HCD.out.mono ?_
  rintro e w1 ⟨v',L,rfl,h1,h2,hA,h3⟩
  obtain ⟨va,vc,rfl,_⟩:=id h2
  have HF:Hid (ClosI f (fun x=>x∈begL f) L∧SlL L (.slice va L.length vc) w1∧Apart w.heap.size (.slice va L.length vc)∧Below w.heap.size w w1):=⟨h1,h2,hA.mono B1.size,below_then B1 h3 B1.size⟩
  clear h1 h2 hA h3 HCD B0 B1
  go_wp2_with fail
  go_ret
  exact ⟨_,L,rfl,HF.out.1,HF.out.2.1,HF.out.2.2⟩
set_option maxRecDepth 100000 in
set_option maxHeartbeats 2000000 in
theorem rgoto_any (f:Fl) (a:FlA) (l:List Ir) (v:Value) (s:Int) (w:World) (hf:FlAt f a w) (hp:FitP f) (hl:SlL l v w) (hll:l.length≤100000000) :
    Calls Tryz.prog 35 #[a.val f,v,.int .i64 s] w fun e w'=>∃ v' L,e=.returned v'∧ClosI f (fun x=>x∈movedL f l s) L∧SlL L v' w'∧Apart w.heap.size v'∧Below w.heap.size w w':=by
  have hn:f.n≤600:=hp.size
  obtain ⟨i0,hi0,hz0,hz1,hz2⟩:=info_parts infoLr
  have hF:=fun x W (hb:Below w.heap.size w W)=>rnext_item f a x W (hf.next hb) hn
  have HC:Hid (∀ v W,Below w.heap.size w W→SlL (movedL f l s) v W→Calls Tryz.prog 68 #[a.val f,v] W fun e w'=>∃ v' L,e=.returned v'∧ClosI f (fun x=>x∈movedL f l s) L∧SlL L v' w'∧Apart W.heap.size v'∧Below W.heap.size W w'):=fun v W hb hv=>rclos_any f a (movedL f l s) v W (hf.next hb) hp hv (Nat.le_trans (movedL_len _ _ _) hll)
  obtain ⟨la,lc,rfl,hI,_,_⟩:=hl
  obtain ⟨ta,tc,na,nc,pa,pc⟩:=a
  have X0:=FBox.new f ⟨ta,tc,na,nc,pa,pc⟩ 25 w
  have B0:Below w.heap.size w (w.alloc (fobj f ⟨ta,tc,na,nc,pa,pc⟩ 25)):=(Below.refl _ _).alloc (Nat.le_refl _) _
  unfold fobj at X0 B0
  unfold FlA.val at hF HC ⊢
  unfold valR at hF
  simp only at *
  have HF:Hid (∀ (x:Ir) (W:World),Below w.heap.size w W→Calls Tryz.prog 37 #[.agg #[.slice ta f.terms.length tc,.slice na f.nons.length nc,.slice pa f.prods.length pc],.agg #[.int .i64 x.1,.int .i64 x.2.1,.int .i64 x.2.2]] W fun e w'=>e=.returned (.tuple #[.int .i64 ((nextI f x).getD 0),.bool (nextI f x).isSome])∧Below W.heap.size W w'):=hF
  have HOK:Hid (∀ j,∀ x∈movedL f (l.take j) s,okR x):=fun j=>movedL_ok hp
  have HDT:Hid (∀ (x:Ir) (z:Int),nextI f x=some z→0≤x.2.1∧x.2.1≤64):=fun x z hz=>by
    have h1:=fitI_iff.1 (nextI_fit hz)
    have h2:=rightI_le hp x.1
    omega
  clear hF hf
  go_enter Tryz.func35,Tryz.ntmps35
  go_wp2_with fail
  generalize w.alloc (Obj.cells #[Value.slice ta f.terms.length tc,Value.slice na f.nons.length nc,Value.slice pa f.prods.length pc] 25)=w0 at *
  have HX:Hid (∀ W,Below w0.heap.size w0 W→FBox f ⟨ta,tc,na,nc,pa,pc⟩ w.heap.size W):=fun W hb=>X0.next hb
  have HI:Hid (∀ W,Below w0.heap.size w0 W→IrsAt l la W):=fun W hb=>(hI.next B0).next hb
  have HB:Hid (∀ W,Below w0.heap.size w0 W→Below w.heap.size w W):=fun W hb=>below_then B0 hb B0.size
  clear X0 B0 hI hp
  go_loopw [7,8] (fun o i wr=>∃ (j:Nat),i=.int .i64 j∧j≤l.length∧OwnL w0.heap.size (movedL f (l.take j) s) o wr∧Below w0.heap.size w0 wr) (fun _ i _=>l.length - (intOf i).toNat)
  case atStart=>exact ⟨0,rfl,Nat.zero_le _,OwnL.nil _ _,Below.refl _ _⟩
  case round =>
    obtain ⟨j,rfl,hj,hown,B1⟩:=hrel
    have hsz:=B1.size
    have hLj:(movedL f (l.take j) s).length≤j:=Nat.le_trans (movedL_len _ _ _) (by simp; omega)
    obtain ⟨oa,oc,rfl⟩:=slice_of_ownK hown
    by_cases hlt:j<l.length
    · obtain ⟨b,off,rfl,hbl0,d0,d1,d2,hok⟩:=(HI.out _ (Below.refl _ _)).at (Below.refl _ _) hlt
      have hbl:b<wr.heap.size:=Nat.lt_of_lt_of_le hbl0 hsz
      have c0:=(B1.cell (p:=⟨b,off+j * 3,none⟩) hbl0).trans d0
      have c1:=(B1.cell (p:=⟨b,off+j * 3+1,none⟩) hbl0).trans d1
      have c2:=(B1.cell (p:=⟨b,off+j * 3+2,none⟩) hbl0).trans d2
      have HT:Hid (movedL f (l.take (j+1)) s=movedL f (l.take j) s++(if nextI f l[j]=some s then [(l[j].1,l[j].2.1+1,l[j].2.2)] else [])):=movedL_take hlt
      generalize l[j]=x at *
      generalize movedL f (l.take j) s=L at *
      have HD:Hid (∀ z,nextI f x=some z→0≤x.2.1∧x.2.1≤64):=HDT.out x
      obtain ⟨x0,x1,x2⟩:=x
      simp only at c0 c1 c2 d0 d1 d2
      have HI7:Hid (∀ W,Below w0.heap.size w0 W→(W.cell? ⟨b,off+j * 3,none⟩=some (.int .i64 x0)∧W.cell? ⟨b,off+j * 3+1,none⟩=some (.int .i64 x1)∧W.cell? ⟨b,off+j * 3+2,none⟩=some (.int .i64 x2)∧Below w0.heap.size w0 W)):=fun W hb=>by
        obtain ⟨_,k0,k1,k2⟩:=HX.out _ hb
        exact ⟨(hb.cell (p:=⟨b,off+j * 3,none⟩) hbl0).trans d0,(hb.cell (p:=⟨b,off+j * 3+1,none⟩) hbl0).trans d1,(hb.cell (p:=⟨b,off+j * 3+2,none⟩) hbl0).trans d2,hb⟩
      clear d0 d1 d2
      have X1:=HX.out _ B1
      have hF1:=HF.out (x0,x1,x2) wr.drew (HB.out _ B1.drew)
      obtain ⟨nx,hnx⟩:∃ nx,nextI f (x0,x1,x2)=nx:=⟨_,rfl⟩
      rw [hnx] at hF1 HT HD
      clear hnx
      have HSI:Hid (∀ W,Below wr.heap.size wr W→(W.cell? ⟨w.heap.size,0,none⟩=some (.slice ta f.terms.length tc)∧W.cell? ⟨w.heap.size,1,none⟩=some (.slice na f.nons.length nc)∧W.cell? ⟨w.heap.size,2,none⟩=some (.slice pa f.prods.length pc)∧W.cell? ⟨b,off+j * 3,none⟩=some (.int .i64 x0)∧W.cell? ⟨b,off+j * 3+1,none⟩=some (.int .i64 x1)∧W.cell? ⟨b,off+j * 3+2,none⟩=some (.int .i64 x2)∧Below wr.heap.size wr W)):=fun W hb=>by
        obtain ⟨_,k0,k1,k2⟩:=X1.next hb
        exact ⟨k0,k1,k2,(hb.cell (p:=⟨b,off+j * 3,none⟩) hbl).trans c0,(hb.cell (p:=⟨b,off+j * 3+1,none⟩) hbl).trans c1,(hb.cell (p:=⟨b,off+j * 3+2,none⟩) hbl).trans c2,hb⟩
      have HS0:Hid (wr.drew.cell? ⟨w.heap.size,0,none⟩=some (.slice ta f.terms.length tc)∧wr.drew.cell? ⟨w.heap.size,1,none⟩=some (.slice na f.nons.length nc)∧wr.drew.cell? ⟨w.heap.size,2,none⟩=some (.slice pa f.prods.length pc)∧wr.drew.cell? ⟨b,off+j * 3,none⟩=some (.int .i64 x0)∧wr.drew.cell? ⟨b,off+j * 3+1,none⟩=some (.int .i64 x1)∧wr.drew.cell? ⟨b,off+j * 3+2,none⟩=some (.int .i64 x2)∧Below wr.heap.size wr wr.drew):=HSI.out _ (Below.refl _ _).drew
      have HCN:Hid (Calls Tryz.prog 37 #[.agg #[.slice ta f.terms.length tc,.slice na f.nons.length nc,.slice pa f.prods.length pc],.agg #[.int .i64 x0,.int .i64 x1,.int .i64 x2]] wr.drew fun e w'=>e=.returned (.tuple #[.int .i64 (nx.getD 0),.bool nx.isSome])∧(w'.cell? ⟨w.heap.size,0,none⟩=some (.slice ta f.terms.length tc)∧w'.cell? ⟨w.heap.size,1,none⟩=some (.slice na f.nons.length nc)∧w'.cell? ⟨w.heap.size,2,none⟩=some (.slice pa f.prods.length pc)∧w'.cell? ⟨b,off+j * 3,none⟩=some (.int .i64 x0)∧w'.cell? ⟨b,off+j * 3+1,none⟩=some (.int .i64 x1)∧w'.cell? ⟨b,off+j * 3+2,none⟩=some (.int .i64 x2)∧Below wr.heap.size wr w')):=by
        refine hF1.mono ?_
        rintro e w' ⟨rfl,hb⟩
        exact ⟨rfl,HSI.out _ (below_then (Below.refl _ _).drew hb (Nat.le_refl _))⟩
      have HOW:Hid (OwnL w0.heap.size L (.slice oa L.length oc) wr):=hown
      clear hF1 hown X1
      obtain ⟨nz,hnz⟩:∃ nz,nx.getD 0=nz:=⟨_,rfl⟩
      obtain ⟨nb,hnb⟩:∃ nb,nx.isSome=nb:=⟨_,rfl⟩
      have HNZ:Hid (nx.getD 0=nz∧nx.isSome=nb):=⟨hnz,hnb⟩
      rw [hnz,hnb] at HCN
      clear hnz hnb
      go_wp2_with fail
      refine wp_region_L (fun W=>W.cell? ⟨w.heap.size,0,none⟩=some (.slice ta f.terms.length tc)∧W.cell? ⟨w.heap.size,1,none⟩=some (.slice na f.nons.length nc)∧W.cell? ⟨w.heap.size,2,none⟩=some (.slice pa f.prods.length pc)∧W.cell? ⟨b,off+j * 3,none⟩=some (.int .i64 x0)∧W.cell? ⟨b,off+j * 3+1,none⟩=some (.int .i64 x1)∧W.cell? ⟨b,off+j * 3+2,none⟩=some (.int .i64 x2)∧Below wr.heap.size wr W) 11 (by kernel_rfl) 11 rfl ?_
      refine tk 0 ⟨some 18,.load 25 (.tmp 3),25, "ref.go:98",#[],none⟩ HS0.out ?_;simp only [Act.put,sA,s0,sS]
      refine tk 1 ⟨some 19,.move (.tmp 1),64, "ref.go:98",#[],none⟩ HS0.out ?_;simp only [Act.put,sA,s0,sS]
      refine tk 2 ⟨some 20,.move (.tmp 8),3, "ref.go:98",#[],none⟩ HS0.out ?_;simp only [Act.put,sA,s0,sS]
      refine tk 3 ⟨some 21,.indexAddr 64 (.tmp 19) (.tmp 20),0, "ref.go:98",#[⟨1,.data⟩,⟨2,.data⟩],none⟩ HS0.out ?_;simp only [Act.put,sA,s0,sS]
      refine tk 4 ⟨some 22,.load 77 (.tmp 21),77, "ref.go:98",#[⟨3,.data⟩],none⟩ HS0.out ?_;simp only [Act.put,sA,s0,sS]
      refine wpAnyL_one' (i:=5) (o:=⟨some 23,.call ⟨.value (.func 37),#[.tmp 18,.tmp 22],#[25,77]⟩,78, "ref.go:98",#[⟨0,.data⟩,⟨4,.data⟩],none⟩) (by kernel_rfl) rfl rfl (fun K hK=>?_)
      go_simp
      refine (HCN.out).mono ?_
      rintro e W2 ⟨rfl,hS⟩
      refine hK.out _ _ (fun _=>hS) ?_
      clear hK
      refine tk 6 ⟨some 17,.move (.tmp 23),78, "ref.go:98",#[⟨5,.data⟩],none⟩ hS ?_;simp only [Act.put,sA,s0,sS]
      refine tk 7 ⟨some 24,.extract (.tmp 17) 0,3, "ref.go:98",#[⟨6,.data⟩],none⟩ hS ?_;simp only [Act.put,sA,s0,sS]
      refine tk 8 ⟨some 25,.extract (.tmp 17) 1,4, "ref.go:98",#[⟨6,.data⟩,⟨9,.gcOnly .lateStores⟩],none⟩ hS ?_;simp only [Act.put,sA,s0,sS]
      refine tk 9 ⟨some 9,.assign (.tmp 24),3, "ref.go:98",#[⟨7,.data⟩,⟨5,.chain⟩,⟨0,.phase⟩,⟨1,.phase⟩,⟨2,.phase⟩,⟨3,.phase⟩,⟨4,.phase⟩,⟨5,.phase⟩,⟨6,.phase⟩,⟨7,.phase⟩,⟨8,.textOnly .lateStores⟩],none⟩ hS ?_;simp only [Act.put,sA,s0,sS]
      refine tk 10 ⟨some 10,.assign (.tmp 25),4, "ref.go:98",#[⟨8,.data⟩,⟨9,.chain⟩,⟨0,.phase⟩,⟨1,.phase⟩,⟨2,.phase⟩,⟨3,.phase⟩,⟨4,.phase⟩,⟨5,.phase⟩,⟨6,.phase⟩,⟨7,.phase⟩,⟨8,.phase⟩,⟨9,.phase⟩],none⟩ hS ?_;simp only [Act.put,sA,s0,sS]
      refine wpAnyL_done (by kernel_rfl) ?_ _
      have B3:=below_then B1 hS.2.2.2.2.2.2 B1.size
      have HO2:Hid (OwnL w0.heap.size L (.slice oa L.length oc) W2):=HOW.out.next hS.2.2.2.2.2.2
      have hsz3:=B3.size
      have hS2:(W2.drew.cell? ⟨w.heap.size,0,none⟩=some (.slice ta f.terms.length tc)∧W2.drew.cell? ⟨w.heap.size,1,none⟩=some (.slice na f.nons.length nc)∧W2.drew.cell? ⟨w.heap.size,2,none⟩=some (.slice pa f.prods.length pc)∧W2.drew.cell? ⟨b,off+j * 3,none⟩=some (.int .i64 x0)∧W2.drew.cell? ⟨b,off+j * 3+1,none⟩=some (.int .i64 x1)∧W2.drew.cell? ⟨b,off+j * 3+2,none⟩=some (.int .i64 x2)∧Below wr.heap.size wr W2.drew):=HSI.out _ hS.2.2.2.2.2.2.drew
      clear HOW HS0 HCN HSI hS
      cases nx with
      | none =>
        obtain ⟨h1,h2⟩:=HNZ.out
        simp only [Option.getD_none,Option.isSome_none] at h1 h2
        subst h1 h2
        go_wp2_with fail
        exact ⟨⟨j+1,by go_num,by omega,by rw [HT.out]; simpa using HO2.out,B3⟩,by simp [intOf]; omega⟩
      | some z =>
        obtain ⟨h1,h2⟩:=HNZ.out
        simp only [Option.getD_some,Option.isSome_some] at h1 h2
        subst h1 h2
        by_cases hz:z=s
        · subst hz
          obtain ⟨hd0,hd1⟩:=HD.out z rfl
          try simp only at hd0 hd1
          have hz':(z == z)=true:=by simp
          have hwr:IntKind.i64.wrap (x1+1)=x1+1:=IntWalk.i64_in _ (by omega)
          have Bn:Below W2.drew.heap.size W2.drew (W2.drew.alloc (Obj.cells #[.int .i64 x0,.int .i64 (x1+1),.int .i64 x2] 77)):=(Below.refl _ _).alloc (Nat.le_refl _) _
          have HOn:Hid ((W2.drew.alloc (Obj.cells #[.int .i64 x0,.int .i64 (x1+1),.int .i64 x2] 77)).ownsRow w0.heap.size 77 3 (.slice oa L.length oc) L.length (L.flatMap encR)):=ownsRow_next (show W2.drew.ownsRow w0.heap.size 77 3 (.slice oa L.length oc) L.length (L.flatMap encR) from HO2.out) Bn
          have B4:Below w0.heap.size w0 (W2.drew.alloc (Obj.cells #[.int .i64 x0,.int .i64 (x1+1),.int .i64 x2] 77)):=below_then B3.drew Bn hsz3
          have hSn:=HI7.out _ B4
          have hS7:=HI7.out _ B3.drew
          go_wp2_with fail
          refine wp_region_L (fun W=>W.cell? ⟨b,off+j * 3,none⟩=some (.int .i64 x0)∧W.cell? ⟨b,off+j * 3+1,none⟩=some (.int .i64 x1)∧W.cell? ⟨b,off+j * 3+2,none⟩=some (.int .i64 x2)∧Below w0.heap.size w0 W) 20 (by kernel_rfl) 21 rfl ?_
          refine tk 0 ⟨some 32,.move (.tmp 7),64, "ref.go:100",#[],none⟩ hS7 ?_;simp only [Act.put,sA,s0,sS]
          refine tk 1 ⟨some 33,.move (.tmp 1),64, "ref.go:100",#[],none⟩ hS7 ?_;simp only [Act.put,sA,s0,sS]
          refine tk 2 ⟨some 34,.move (.tmp 8),3, "ref.go:100",#[],none⟩ hS7 ?_;simp only [Act.put,sA,s0,sS]
          refine tk 3 ⟨some 35,.indexAddr 64 (.tmp 33) (.tmp 34),0, "ref.go:100",#[⟨1,.data⟩,⟨2,.data⟩],none⟩ hS7 ?_;simp only [Act.put,sA,s0,sS]
          refine tk 4 ⟨some 36,.fieldAddr 77 (.tmp 35) 0,0, "ref.go:100",#[⟨3,.data⟩],none⟩ hS7 ?_;simp only [Act.put,sA,s0,sS]
          refine tk 5 ⟨some 37,.load 3 (.tmp 36),3, "ref.go:100",#[⟨4,.data⟩],none⟩ hS7 ?_;simp only [Act.put,sA,s0,sS]
          refine tk 6 ⟨some 38,.move (.tmp 1),64, "ref.go:100",#[],none⟩ hS7 ?_;simp only [Act.put,sA,s0,sS]
          refine tk 7 ⟨some 39,.move (.tmp 8),3, "ref.go:100",#[],none⟩ hS7 ?_;simp only [Act.put,sA,s0,sS]
          refine tk 8 ⟨some 40,.indexAddr 64 (.tmp 38) (.tmp 39),0, "ref.go:100",#[⟨6,.data⟩,⟨7,.data⟩],none⟩ hS7 ?_;simp only [Act.put,sA,s0,sS]
          refine tk 9 ⟨some 41,.fieldAddr 77 (.tmp 40) 1,0, "ref.go:100",#[⟨8,.data⟩],none⟩ hS7 ?_;simp only [Act.put,sA,s0,sS]
          refine tk 10 ⟨some 42,.load 3 (.tmp 41),3, "ref.go:100",#[⟨9,.data⟩],none⟩ hS7 ?_;simp only [Act.put,sA,s0,sS]
          refine tk 11 ⟨some 43,.binOp .add 3 (.tmp 42) (.const (.int .i64 1)) 3,3, "ref.go:100",#[⟨10,.data⟩],none⟩ hS7 ?_;simp only [Act.put,sA,s0,sS]
          refine tk 12 ⟨some 44,.move (.tmp 1),64, "ref.go:100",#[],none⟩ hS7 ?_;simp only [Act.put,sA,s0,sS]
          refine tk 13 ⟨some 45,.move (.tmp 8),3, "ref.go:100",#[],none⟩ hS7 ?_;simp only [Act.put,sA,s0,sS]
          refine tk 14 ⟨some 46,.indexAddr 64 (.tmp 44) (.tmp 45),0, "ref.go:100",#[⟨12,.data⟩,⟨13,.data⟩],none⟩ hS7 ?_;simp only [Act.put,sA,s0,sS]
          refine tk 15 ⟨some 47,.fieldAddr 77 (.tmp 46) 2,0, "ref.go:100",#[⟨14,.data⟩],none⟩ hS7 ?_;simp only [Act.put,sA,s0,sS]
          refine tk 16 ⟨some 48,.load 3 (.tmp 47),3, "ref.go:100",#[⟨15,.data⟩],none⟩ hS7 ?_;simp only [Act.put,sA,s0,sS]
          refine tk 17 ⟨some 49,.build 77 #[(0,.tmp 37),(1,.tmp 43),(2,.tmp 48)],77, "ref.go:100",#[⟨5,.data⟩,⟨11,.data⟩,⟨16,.data⟩],none⟩ hS7 ?_;simp only [Act.put,sA,s0,sS]
          refine wpAnyL_one' (i:=18) (o:=⟨some 50,.buildSlice 64 1 #[(0,.tmp 49)],64, "ref.go:100",#[⟨17,.data⟩],none⟩) (by kernel_rfl) rfl rfl (fun K hK=>?_)
          go_simp
          refine hK.out _ _ (fun _=>hSn) ?_
          clear hK
          refine wpAnyL_one' (i:=19) (o:=⟨some 51,.call ⟨.builtin .append,#[.tmp 32,.tmp 50],#[64,64]⟩,64, "ref.go:100",#[⟨0,.data⟩,⟨18,.data⟩],none⟩) (by kernel_rfl) rfl rfl (fun K hK=>?_)
          rw [if_pos (by rfl)]
          refine wp_append_own _ (.tmp 32) (.tmp 50) 64 rfl w0.heap.size 77 i0 _ 3 24 Tryz.underlying64 hi0 hz0 hz1 hz2 rfl (by decide) _ L.length _ rfl HOn.out ⟨W2.heap.size,0,none⟩ 1 1 (encR (x0,x1+1,x2)) rfl rfl (new_cellR W2.drew (x0,x1+1,x2) _) (one_encR _) (by unfold maxLen; omega) (by omega) B4.size ?_
          intro v5 w5 hown5 hg5 _
          obtain ⟨a5,c5,rfl⟩:=slice_of_ownK hown5
          have B5:Below w0.heap.size w0 w5:=B4.grown hg5 B4.size (fun k e=>(World.ownsRow.lt HOn.out k e).1)
          refine hK.out _ _ (fun _=>HI7.out _ B5) ?_
          clear hK
          simp only [Act.put,sA,s0,sS]
          refine wpAnyL_one' (i:=20) (o:=⟨some 7,.assign (.tmp 51),64, "ref.go:100",#[⟨19,.data⟩,⟨19,.chain⟩,⟨0,.phase⟩,⟨1,.phase⟩,⟨2,.phase⟩,⟨3,.phase⟩,⟨4,.phase⟩,⟨5,.phase⟩,⟨6,.phase⟩,⟨7,.phase⟩,⟨8,.phase⟩,⟨9,.phase⟩,⟨10,.phase⟩,⟨11,.phase⟩,⟨12,.phase⟩,⟨13,.phase⟩,⟨14,.phase⟩,⟨15,.phase⟩,⟨16,.phase⟩,⟨17,.phase⟩,⟨18,.phase⟩,⟨19,.phase⟩],none⟩) (by kernel_rfl) rfl rfl (fun K hK=>?_)
          go_simp
          refine hK.out _ _ (fun h=>absurd h (by decide)) ?_
          clear hK
          refine wpAnyL_done (by kernel_rfl) ?_ _
          have HO5:Hid (OwnL w0.heap.size (L++[(x0,x1+1,x2)]) (.slice a5 (L.length+1) c5) w5):=OwnL.more hown5
          clear hown5 hg5 HOn hSn Bn B4 hS2 HO2 HI7 hS7
          go_wp2_with fail
          exact ⟨⟨j+1,by go_num,by omega,by rw [HT.out,if_pos trivial]; exact HO5.out,B5⟩,by simp [intOf]; omega⟩
        · have hz':(z == s)=false:=by simpa using hz
          have hz2:¬ (some z=some s):=fun h=>hz (Option.some.inj h)
          go_wp2_with fail
          exact ⟨⟨j+1,by go_num,by omega,by rw [HT.out,if_neg hz2]; simpa using HO2.out,B3⟩,by simp [intOf]; omega⟩
    · obtain rfl:j=l.length:=by omega
      rw [List.take_of_length_le (Nat.le_refl _)] at *
      have hk:=HOK.out l.length
      rw [List.take_of_length_le (Nat.le_refl _)] at hk
      have HCC:Hid (Calls Tryz.prog 68 #[.agg #[.slice ta f.terms.length tc,.slice na f.nons.length nc,.slice pa f.prods.length pc],.slice oa (movedL f l s).length oc] wr fun e w'=>∃ v' L,e=.returned v'∧ClosI f (fun x=>x∈movedL f l s) L∧SlL L v' w'∧Apart wr.heap.size v'∧Below wr.heap.size wr w'):=HC.out _ wr (HB.out _ B1) (hown.sl hk)
      obtain ⟨_,k0,k1,k2⟩:=HX.out _ B1
      simp only at k0 k1 k2
      clear hown hk HC
      go_wp2_with fail
      refine HCC.out.mono ?_
      rintro e w1 ⟨v',L,rfl,h1,h2,hA,h3⟩
      obtain ⟨va,vc,rfl,_⟩:=id h2
      have HG:Hid (ClosI f (fun x=>x∈movedL f l s) L∧SlL L (.slice va L.length vc) w1∧Apart w.heap.size (.slice va L.length vc)∧Below w.heap.size w w1):=⟨h1,h2,hA.mono (HB.out _ B1).size,HB.out _ (below_then B1 h3 hsz)⟩
      clear h1 h2 hA h3 HCC k0 k1 k2
      go_wp2_with fail
      go_ret
      exact ⟨_,L,rfl,HG.out.1,HG.out.2.1,HG.out.2.2⟩
theorem infoSL:(Tryz.prog.info? 64).map (fun i=>(i.zero,i.size,i.bytes))=some (some (.slice none 0 0),1,24):=by kernel_rfl
set_option maxRecDepth 100000 in
set_option maxHeartbeats 2000000 in
theorem rall_any (f:Fl) (a:FlA) (w:World) (hf:FlAt f a w) (hp:FitP f) :
    Calls Tryz.prog 34 #[a.val f] w fun e w'=>((∃ v' R,allF f=some R∧e=.returned (.tuple #[v',.int .i64 0])∧SlLL R v' w'∧R.length≤600∧∀ x∈R,x.length≤maxI)∨(allF f=none∧e=.returned (.tuple #[.slice none 0 0,.int .i64 15])))∧Below w.heap.size w w':=by
  have hn:f.n≤600:=hp.size
  obtain ⟨i0,hi0,hz0,hz1,hz2⟩:=info_parts infoSL
  have HFST:Hid (∀ W,Below w.heap.size w W→Calls Tryz.prog 67 #[a.val f] W fun e w'=>∃ v' L,e=.returned v'∧ClosI f (fun x=>x∈begL f) L∧SlL L v' w'∧Apart W.heap.size v'∧Below W.heap.size W w'):=fun W hb=>rfirst11_any f a W (hf.next hb) hp
  have HGT:Hid (∀ l v s W,Below w.heap.size w W→SlL l v W→l.length≤maxI→Calls Tryz.prog 35 #[a.val f,v,.int .i64 s] W fun e w'=>∃ v' L,e=.returned v'∧ClosI f (fun x=>x∈movedL f l s) L∧SlL L v' w'∧Apart W.heap.size v'∧Below W.heap.size W w'):=fun l v s W hb hl hle=>rgoto_any f a l v s W (hf.next hb) hp hl (by unfold maxI at hle; omega)
  have HMX:Hid (∀ S,(closF f S).length≤maxI):=closF_len hp
  obtain ⟨ta,tc,na,nc,pa,pc⟩:=a
  have X0:=FBox.new f ⟨ta,tc,na,nc,pa,pc⟩ 25 w
  have B0:Below w.heap.size w (w.alloc (fobj f ⟨ta,tc,na,nc,pa,pc⟩ 25)):=(Below.refl _ _).alloc (Nat.le_refl _) _
  unfold fobj at X0 B0
  unfold FlA.val at HFST HGT ⊢
  have hn2:f.terms.length+f.nons.length≤600:=hn
  have HN:Hid (f.n=f.terms.length+f.nons.length):=rfl
  simp only at *
  clear hf hp hn
  go_enter Tryz.func34,Tryz.ntmps34
  go_wp2_with fail
  generalize w.alloc (Obj.cells #[Value.slice ta f.terms.length tc,Value.slice na f.nons.length nc,Value.slice pa f.prods.length pc] 25)=w0 at *
  have HX:Hid (∀ W,Below w0.heap.size w0 W→FBox f ⟨ta,tc,na,nc,pa,pc⟩ w.heap.size W):=fun W hb=>X0.next hb
  have HB:Hid (∀ W,Below w0.heap.size w0 W→Below w.heap.size w W):=fun W hb=>below_then B0 hb B0.size
  clear X0 B0
  refine (HFST.out w0 (HB.out _ (Below.refl _ _))).mono ?_
  rintro e w1 ⟨v1,L1,rfl,h1,h2,hA,h3⟩
  obtain ⟨fa,fc,rfl,_⟩:=id h2
  have HR0:Hid (runA f 601 0 [L1]=allF f):=by unfold allF; rw [closF_eq h1]; exact rfl
  have hL1:L1.length≤maxI:=by rw [← closF_eq h1]; exact HMX.out _
  have HO:Hid (OwnLL w0.heap.size [L1] (.slice (some ⟨w1.heap.size,0,none⟩) 1 1) (w1.alloc (Obj.cells #[.slice fa L1.length fc] 64))):=OwnLL.one h3.size h2
  have B1:Below w0.heap.size w0 (w1.alloc (Obj.cells #[.slice fa L1.length fc] 64)):=h3.alloc h3.size _
  clear h1 h2 hA h3 HFST
  go_wp2_with fail
  go_loopw [4,5] (fun v i wr=>∃ (j:Nat) (A:List (List Ir)),i=.int .i64 j∧j≤A.length∧A.length≤600∧OwnLL w0.heap.size A v wr∧(∀ x∈A,x.length≤maxI)∧runA f (601 - j) j A=allF f∧Below w0.heap.size w0 wr) (fun _ i _=>601 - (intOf i).toNat)
  case atStart=>exact ⟨0,[L1],rfl,Nat.zero_le _,by simp,HO.out,by simpa using hL1,HR0.out,B1⟩
  case round =>
  clear HO HR0 B1 hL1
  obtain ⟨j,A,rfl,hj,hA6,hO,hAm,hR,B1⟩:=hrel
  obtain ⟨va,vc,rfl⟩:=hO.shape
  have HO:Hid (OwnLL w0.heap.size A (.slice va A.length vc) wr):=hO
  have HAM:Hid (∀ x∈A,x.length≤maxI):=hAm
  have HR:Hid (runA f (601 - j) j A=allF f):=hR
  clear hO hAm hR
  by_cases hlt:j<A.length
  case neg =>
    obtain rfl:j=A.length:=by omega
    have HF:Hid (((∃ v' R,allF f=some R∧Ending.returned (.tuple #[.slice va A.length vc,.int .i64 0])=Ending.returned (.tuple #[v',.int .i64 0])∧SlLL R v' wr∧R.length≤600∧∀ x∈R,x.length≤maxI)∨(allF f=none∧Ending.returned (.tuple #[.slice va A.length vc,.int .i64 0])=Ending.returned (.tuple #[.slice none 0 0,.int .i64 15])))∧Below w.heap.size w wr) :=
      ⟨.inl ⟨_,A,by rw [← HR.out,runA_end rfl hA6],rfl,HO.out.sl,hA6,HAM.out⟩,HB.out _ B1⟩
    clear HO HAM HR
    go_wp2_with fail
    go_ret2
    exact HF.out
  obtain ⟨l,hl⟩:∃ l,A[j]?=some l:=⟨A[j],by simp [hlt]⟩
  have HRR:Hid (restA f l j 0 A=allF f):=by rw [← runA_at hl (by omega)]; exact HR.out
  have HAL:Hid (A[j]?=some l):=hl
  have hll:l.length≤maxI:=HAM.out l (List.mem_of_getElem? hl)
  clear HR hl
  have hji:(j:Int)<A.length:=by omega
  go_wp2_with fail
  go_loopw [4,6] (fun v s wr'=>∃ (k:Nat) (A:List (List Ir)),s=.int .i64 k∧k≤f.n∧A[j]?=some l∧A.length≤600∧OwnLL w0.heap.size A v wr'∧(∀ x∈A,x.length≤maxI)∧restA f l j k A=allF f∧Below w0.heap.size w0 wr') (fun _ s _=>f.n - (intOf s).toNat)
  case atStart=>exact ⟨0,A,rfl,Nat.zero_le _,HAL.out,hA6,HO.out,HAM.out,HRR.out,B1⟩
  case round =>
  clear HO HAM HAL HRR B1 hlt hji hj hA6
  obtain ⟨k,A,rfl,hk,hl,hA6,hO,hAm,hR,B1⟩:=hrel
  obtain ⟨va,vc,rfl⟩:=hO.shape
  have hjA:j<A.length:=(List.getElem?_eq_some_iff.1 hl).1
  have HAL:Hid (A[j]?=some l):=hl
  have HAM:Hid (∀ x∈A,x.length≤maxI):=hAm
  have HR:Hid (restA f l j k A=allF f):=hR
  have HO:Hid (OwnLL w0.heap.size A (.slice va A.length vc) wr):=hO
  obtain ⟨ao',cap',e0,hIr,_,hcap⟩:=hO.sl
  cases e0
  obtain ⟨ab,ao,lv,e1,hab,hcell,hlv⟩:=hIr j l hl
  subst e1
  obtain ⟨la,lc,rfl,_⟩:=id hlv
  obtain ⟨hx0,k0,k1,k2⟩:=HX.out _ B1
  simp only at k0 k1 k2 hx0
  have hsz:=B1.size
  by_cases hlt:k<f.n
  case neg =>
    have hke:k=f.n:=by omega
    have hnk:¬ ((k:Int)<(f.terms.length:Int)+f.nons.length):=by have:=HN.out; omega
    have HF:Hid (runA f (601 - (j+1)) (j+1) A=allF f):=by
      show runA f (601 - (j+1)) (j+1) A=allF f
      rw [← HR.out,restA_end (by omega),show 601 - (j+1)=600 - j by omega]
    clear HR hl hAm hR hO hlv hIr
    go_wp2_with fail
    exact ⟨⟨j+1,A,by go_num,by omega,hA6,HO.out,HAM.out,HF.out,B1⟩,by simp [intOf]; omega⟩
  have hkn:(k:Int)<(f.terms.length:Int)+f.nons.length:=by have:=HN.out; omega
  have HG1:=HGT.out l (.slice la l.length lc) (k:Int) wr.drew (HB.out _ B1.drew) hlv hll
  have HSI:Hid (∀ W,Below wr.heap.size wr W→(W.cell? ⟨w.heap.size,0,none⟩=some (.slice ta f.terms.length tc)∧W.cell? ⟨w.heap.size,1,none⟩=some (.slice na f.nons.length nc)∧W.cell? ⟨w.heap.size,2,none⟩=some (.slice pa f.prods.length pc)∧W.cell? ⟨ab,ao+j,none⟩=some (.slice la l.length lc)∧Below wr.heap.size wr W)):=fun W hb=>⟨(hb.cell (p:=⟨w.heap.size,0,none⟩) hx0).trans k0,(hb.cell (p:=⟨w.heap.size,1,none⟩) hx0).trans k1,(hb.cell (p:=⟨w.heap.size,2,none⟩) hx0).trans k2,(hb.cell (p:=⟨ab,ao+j,none⟩) hab).trans hcell,hb⟩
  have HS0:Hid (wr.drew.cell? ⟨w.heap.size,0,none⟩=some (.slice ta f.terms.length tc)∧wr.drew.cell? ⟨w.heap.size,1,none⟩=some (.slice na f.nons.length nc)∧wr.drew.cell? ⟨w.heap.size,2,none⟩=some (.slice pa f.prods.length pc)∧wr.drew.cell? ⟨ab,ao+j,none⟩=some (.slice la l.length lc)∧Below wr.heap.size wr wr.drew):=HSI.out _ (Below.refl _ _).drew
  have HCN:Hid (Calls Tryz.prog 35 #[.agg #[.slice ta f.terms.length tc,.slice na f.nons.length nc,.slice pa f.prods.length pc],.slice la l.length lc,.int .i64 k] wr.drew fun e w'=>∃ va L,e=.returned va∧(ClosI f (fun x=>x∈movedL f l k) L∧SlL L va w'∧Apart wr.heap.size va)∧(w'.cell? ⟨w.heap.size,0,none⟩=some (.slice ta f.terms.length tc)∧w'.cell? ⟨w.heap.size,1,none⟩=some (.slice na f.nons.length nc)∧w'.cell? ⟨w.heap.size,2,none⟩=some (.slice pa f.prods.length pc)∧w'.cell? ⟨ab,ao+j,none⟩=some (.slice la l.length lc)∧Below wr.heap.size wr w')):=by
    refine HG1.mono ?_
    rintro e w' ⟨v',L,rfl,h1,h2,h3,hb⟩
    exact ⟨v',L,rfl,⟨h1,h2,h3⟩,HSI.out _ (below_then (Below.refl _ _).drew hb (Nat.le_refl _))⟩
  clear HG1 hl hAm hR hO hlv hIr
  go_wp2_with fail
  refine wp_region_L (fun W=>W.cell? ⟨w.heap.size,0,none⟩=some (.slice ta f.terms.length tc)∧W.cell? ⟨w.heap.size,1,none⟩=some (.slice na f.nons.length nc)∧W.cell? ⟨w.heap.size,2,none⟩=some (.slice pa f.prods.length pc)∧W.cell? ⟨ab,ao+j,none⟩=some (.slice la l.length lc)∧Below wr.heap.size wr W) 8 (by kernel_rfl) 8 rfl ?_
  refine tk 0 ⟨some 28,.load 25 (.tmp 1),25, "ref.go:138",#[],none⟩ HS0.out ?_;simp only [Act.put,sA,s0,sS]
  refine tk 1 ⟨some 29,.move (.tmp 4),59, "ref.go:138",#[],none⟩ HS0.out ?_;simp only [Act.put,sA,s0,sS]
  refine tk 2 ⟨some 30,.move (.tmp 5),3, "ref.go:138",#[],none⟩ HS0.out ?_;simp only [Act.put,sA,s0,sS]
  refine tk 3 ⟨some 31,.indexAddr 59 (.tmp 29) (.tmp 30),0, "ref.go:138",#[⟨1,.data⟩,⟨2,.data⟩],none⟩ HS0.out ?_;simp only [Act.put,sA,s0,sS]
  refine tk 4 ⟨some 32,.load 64 (.tmp 31),64, "ref.go:138",#[⟨3,.data⟩],none⟩ HS0.out ?_;simp only [Act.put,sA,s0,sS]
  refine tk 5 ⟨some 33,.move (.tmp 6),3, "ref.go:138",#[],none⟩ HS0.out ?_;simp only [Act.put,sA,s0,sS]
  refine wpAnyL_one' (i:=6) (o:=⟨some 34,.call ⟨.value (.func 35),#[.tmp 28,.tmp 32,.tmp 33],#[25,64,3]⟩,64, "ref.go:138",#[⟨0,.data⟩,⟨4,.data⟩,⟨5,.data⟩],none⟩) (by kernel_rfl) rfl rfl (fun K hK=>?_)
  go_simp
  refine (HCN.out).mono ?_
  rintro e W2 ⟨gv,G,rfl,hG,hS⟩
  refine hK.out _ _ (fun _=>hS) ?_
  clear hK
  obtain ⟨ga,gc,rfl,_⟩:=id hG.2.1
  refine tk 7 ⟨some 7,.assign (.tmp 34),64, "ref.go:138",#[⟨6,.data⟩,⟨6,.chain⟩,⟨0,.phase⟩,⟨1,.phase⟩,⟨2,.phase⟩,⟨3,.phase⟩,⟨4,.phase⟩,⟨5,.phase⟩,⟨6,.phase⟩],none⟩ hS ?_;simp only [Act.put,sA,s0,sS]
  refine wpAnyL_done (by kernel_rfl) ?_ _
  have Bw:=hS.2.2.2.2
  have B3:=below_then B1 Bw B1.size
  have HO2:Hid (OwnLL w0.heap.size A (.slice (some ⟨ab,ao,none⟩) A.length vc) W2):=HO.out.next Bw
  have HGF:Hid (gotoF f l k=G):=closF_eq hG.1
  have hGm:G.length≤maxI:=by rw [← HGF.out]; exact HMX.out _
  have HSG:Hid (SlL G (.slice ga G.length gc) W2):=hG.2.1
  have HNB:Hid (∀ ad n c,Value.slice ga G.length gc=.slice (some ad) n c→G≠[]→¬ inB (.slice (some ⟨ab,ao,none⟩) A.length vc) ad.block):=fun ad n c e _ hin=>by
    have h1:=hG.2.2 ad n c e
    have h2:=HO.out.inLt hin
    omega
  have hsz3:=B3.size
  clear HO HS0 HCN HSI hS hG k0 k1 k2 hcell
  cases hGe:G with
  | nil =>
    subst hGe
    have HNX:Hid (restA f l j (k+1) A=allF f):=by
      show restA f l j (k+1) A=allF f
      rw [← HR.out,restA_next (s:=k) (by omega) (by rw [HGF.out,addA_nil]; omega),HGF.out,addA_nil]
    clear HR HGF HSG HNB
    have hno:¬ ((600:Int)<A.length):=by omega
    simp only [List.length_nil] at *
    go_wp2_with fail
    exact ⟨⟨k+1,A,by go_num,by omega,HAL.out,hA6,HO2.out,HAM.out,HNX.out,B3⟩,by simp [intOf]; omega⟩
  | cons g0 G0 =>
  rw [← hGe]
  have hGne:G≠[]:=by rw [hGe]; simp
  have hGl:(0:Int)<G.length:=by rw [hGe,List.length_cons]; omega
  clear hGe
  have HFD:=rfind_any A G _ _ W2 HO2.out.sl HSG.out (by omega) (fun x hx=>by have:=HAM.out x hx; unfold maxI at this; omega) (by unfold maxI at hGm; omega)
  have HFDH:Hid (Calls Tryz.prog 36 #[.slice (some ⟨ab,ao,none⟩) A.length vc,.slice ga G.length gc] W2 fun e w'=>e=.returned (.int .i64 (findI A G))∧Below W2.heap.size W2 w'):=HFD
  clear HFD
  obtain ⟨fi,hfi⟩:∃ fi,findI A G=fi:=⟨_,rfl⟩
  rw [hfi] at HFDH
  have HFI:Hid (fi=A.length↔G ∉ A):=by rw [← hfi]; exact findI_eq_len
  clear hfi
  go_wp2_with fail
  refine HFDH.out.mono ?_
  rintro e W3 ⟨rfl,hb3⟩
  have B4:=below_then B3 hb3 hsz3
  have HO3:Hid (OwnLL w0.heap.size A (.slice (some ⟨ab,ao,none⟩) A.length vc) W3):=HO2.out.next hb3
  have HSG3:Hid (SlL G (.slice ga G.length gc) W3):=HSG.out.next hb3
  have hsz4:=B4.size
  clear hb3 HFDH HO2 HSG
  by_cases hfe:fi=A.length
  case neg =>
    have hin:G∈A:=Classical.byContradiction (fun h=>hfe (HFI.out.2 h))
    have hfe2:(((fi:Int)) == (A.length:Int))=false:=beq_eq_false_iff_ne.2 (by omega)
    have HNX:Hid (restA f l j (k+1) A=allF f):=by
      show restA f l j (k+1) A=allF f
      rw [← HR.out,restA_next (s:=k) (by omega) (by rw [HGF.out,addA_old hin]; omega),HGF.out,addA_old hin]
    clear HR HGF HNB hin HFI
    have hno:¬ ((600:Int)<A.length):=by omega
    go_wp2_with fail
    exact ⟨⟨k+1,A,by go_num,by omega,HAL.out,hA6,HO3.out,HAM.out,HNX.out,B4⟩,by simp [intOf]; omega⟩
  subst hfe
  have hnin:G ∉ A:=HFI.out.1 rfl
  have Bn:Below W3.heap.size W3 (W3.alloc (Obj.cells #[.slice ga G.length gc] 64)):=(Below.refl _ _).alloc (Nat.le_refl _) _
  have hsz5:w0.heap.size≤(W3.alloc (Obj.cells #[.slice ga G.length gc] 64)).heap.size:=Nat.le_trans hsz4 Bn.size
  obtain ⟨hv,D,hQ,hD,hgrow⟩:=(HO3.out.next Bn).grow hsz5 (HSG3.out.next Bn) HNB.out
  have HQ:Hid (QRow D 1 (.slice (some ⟨ab,ao,none⟩) A.length vc) A.length hv (W3.alloc (Obj.cells #[.slice ga G.length gc] 64))):=hQ
  have HDD:Hid (∀ k,(W3.alloc (Obj.cells #[.slice ga G.length gc] 64)).heap.size≤k→D k):=hD
  have HNW:Hid (∀ (q:Nat) (u:Value),[Value.slice ga G.length gc][q]?=some u→(W3.alloc (Obj.cells #[.slice ga G.length gc] 64)).cell? ((⟨W3.heap.size,0,none⟩:Addr).add q)=some u):=by
    intro q u hq
    rcases q with _ | q
    · simp at hq; subst hq; simp [Addr.add]
    · simp at hq
  have HGR:Hid (∀ v' W',QRow D 1 v' (A.length+1) (hv++[.slice ga G.length gc]) W'→But D (W3.alloc (Obj.cells #[.slice ga G.length gc] 64)) W'→OwnLL w0.heap.size (A++[G]) v' W'∧Below w0.heap.size w0 W'):=fun v' W' h1 h2=>⟨(hgrow v' W' h1 h2).1,(below_then B4 Bn hsz4).trans (hgrow v' W' h1 h2).2⟩
  clear hQ hD hgrow HO3 HSG3 HNB Bn hsz5 HFI
  go_wp2_with (at_builtin; refine wpList_append_q rfl (.tmp 46) (.tmp 48) 59 rfl 64 i0 _ 1 24 Tryz.underlying59 hi0 hz0 hz1 hz2 rfl (by decide) rfl HQ.out HDD.out ⟨W3.heap.size,0,none⟩ 1 [.slice ga G.length gc] rfl rfl HNW.out (by simp [Value.oneCell']) (by unfold maxLen; omega) (by omega) ?_)
  intro v5 w5 hq5 hb5
  obtain ⟨qa5,qc5,rfl⟩:=hq5.shape
  obtain ⟨hO5,B5⟩:=HGR.out _ _ hq5 hb5
  have HO5:Hid (OwnLL w0.heap.size (A++[G]) (.slice qa5 (A.length+1) qc5) w5):=hO5
  clear hq5 hb5 hO5 HGR HQ HDD HNW
  by_cases hmany:A.length=600
  · have HF:Hid (allF f=none∧Below w.heap.size w w5):=⟨by rw [← HR.out,restA_many (by omega) (by rw [HGF.out,addA_new hGne hnin]; simp; omega)],HB.out _ B5⟩
    clear HR HGF HO5
    have hyes:(600:Int)<(A.length:Int)+1:=by omega
    go_wp2_with fail
    go_ret2
    exact ⟨.inr ⟨HF.out.1,rfl⟩,HF.out.2⟩
  · have HNX:Hid (restA f l j (k+1) (A++[G])=allF f):=by
      show restA f l j (k+1) (A++[G])=allF f
      rw [← HR.out,restA_next (s:=k) (by omega) (by rw [HGF.out,addA_new hGne hnin]; simp; omega),HGF.out,addA_new hGne hnin]
    have HAM2:Hid (∀ x∈A++[G],x.length≤maxI):=fun x hx=>by
      rcases List.mem_append.1 hx with h | h
      · exact HAM.out x h
      · simp at h; subst h; exact hGm
    have HAL2:Hid ((A++[G])[j]?=some l):=by show (A++[G])[j]?=some l; rw [List.getElem?_append_left hjA]; exact HAL.out
    clear HR HGF
    have hno:¬ ((600:Int)<(A.length:Int)+1):=by omega
    go_wp2_with fail
    exact ⟨⟨k+1,A++[G],by go_num,by omega,HAL2.out,by simp; omega,by simpa using HO5.out,HAM2.out,HNX.out,B5⟩,by simp [intOf]; omega⟩
theorem inB_own {v:Value} {k:Nat} (h:inB v k):v.ownBlock=some k:=by
  obtain ⟨off,n,c,rfl,_⟩:=h
  rfl
theorem run_append_ownq {P:Program} {w:World} (base:Nat) (t ty e:TypeId) (i:TypeInfo) (z:Value) (size bytes:Nat) (ht:P.underlying t=some (.slice e)) (hi:P.info? e=some i) (hz:i.zero=some z)
    (hsize:i.size=size) (hby:i.bytes=bytes) (hzs:z.cells.size=size) (hsz:0<size)
    (v:Value) (n:Nat) (xs:List Value) (hown:w.ownsRow base e size v n xs)
    (a:Addr) (c:Nat) (news:List Value) (hl:news.length=size) (hnews:∀ j u,news[j]?=some u→w.cell? (a.add j)=some u) (h1:∀ u∈news,u.oneCell'=true)
    (h63:n+1≤maxLen) (hbytes:(n+1) * bytes≤140737488355328) (hbase:base≤w.heap.size) :
    ∃ v' w',(Builtin.append_ #[t,t] ty #[v,.slice (some a) 1 c]).run P w=.ok v' w'∧w'.ownsRow base e size v' (n+1) (xs++news)∧w.grownBy w' v.ownBlock ∧
      ∀ k,v'.ownBlock=some k→v.ownBlock=some k∨w.heap.size≤k:=by
  obtain ⟨v',w',r1,o1,g1,_⟩:=run_append_own (P:=P) w base t ty e i z size bytes ht hi hz hsize hby hzs hsz v n xs hown a 1 c news (by omega) hnews h1 h63 hbytes hbase
  have hq:QRow (fun k=>v.ownBlock=some k∨w.heap.size≤k) size v n xs w:=((QRow.of_own (D:=fun k=>base≤k) hown (fun _ h=>h)).exact).mono (fun k _ h=>.inl (inB_own h.2.1))
  obtain ⟨v2,w2,r2,q2,_⟩:=run_append_q (P:=P) (w:=w) t ty e i z size bytes ht hi hz hsize hby hzs hsz hq (fun k hk=>.inr hk) a c news hl hnews h1 h63 hbytes
  rw [r1] at r2
  cases r2
  refine ⟨v',w',r1,o1,g1,fun k hk=>?_⟩
  obtain ⟨ao,b,off,cap,rfl,hc,hD⟩:=q2
  have hcp:0<cap:=by have:=hc.le; omega
  obtain rfl:=hc.addr hcp
  cases hk
  exact hD hcp
theorem wp_append_ownq {P:Program} {w:World} {o:Oper} {a:Act} {K:Act→World→Prop} {Q:Exit→Act→World→Prop} (s x:Operand) (t:TypeId)
    (ho:o.op=.call { callee:=.builtin .append,args:=#[s,x],argTypes:=#[t,t] })
    (base:Nat) (e:TypeId) (i:TypeInfo) (z:Value) (size bytes:Nat) (ht:P.underlying t=some (.slice e)) (hi:P.info? e=some i) (hz:i.zero=some z)
    (hsize:i.size=size) (hby:i.bytes=bytes) (hzs:z.cells.size=size) (hsz:0<size)
    (v:Value) (n:Nat) (xs:List Value) (hs:a.eval s=v) (hown:w.ownsRow base e size v n xs)
    (ad:Addr) (c:Nat) (news:List Value) (hx:a.eval x=.slice (some ad) 1 c) (hl:news.length=size) (hnews:∀ j u,news[j]?=some u→w.cell? (ad.add j)=some u) (h1:∀ u∈news,u.oneCell'=true)
    (h63:n+1≤maxLen) (hbytes:(n+1) * bytes≤140737488355328) (hbase:base≤w.heap.size)
    (h:∀ v' w',w'.ownsRow base e size v' (n+1) (xs++news)→w.grownBy w' v.ownBlock→(∀ k,v'.ownBlock=some k→v.ownBlock=some k∨w.heap.size≤k)→K (a.put o.dst v') w'):o.wp P a w K Q:=by
  obtain ⟨v',w',hr,h2,h3,h4⟩:=run_append_ownq (P:=P) (w:=w) base t o.type e i z size bytes ht hi hz hsize hby hzs hsz v n xs hown ad c news hl hnews h1 h63 hbytes hbase
  unfold Oper.wp execOp
  simp only [ho,resolve,invoke,builtin,Sem.run_bind,Sem.run_pure,Result.andThen_ok,List.map_toArray,List.map_cons,List.map_nil,hs,hx,hr]
  exact h v' w' h2 h3 h4
structure GS (Bi Bc Bb G V:Nat) (lv:Value) (L:List Ir) (C S:List (Int × Int)) (W:World):Prop where
  o1:Bi<Bc
  o2:Bc<Bb
  o3:Bb<G
  lt:G<W.heap.size
  g0:W.cell? ⟨G,0,none⟩=some (.pointer (some ⟨V,0,none⟩))
  g1:W.cell? ⟨G,1,none⟩=some (.map (some Bi))
  g2:W.cell? ⟨G,2,none⟩=some lv
  g3:W.cell? ⟨G,3,none⟩=some (.map (some Bc))
  g4:W.cell? ⟨G,4,none⟩=some (.map (some Bb))
  fz:W.frozen? ⟨G,2,none⟩=false
  mi:MapSet 77 valR Bi L W
  mc:MapSet 239 val2 Bc C W
  mb:MapSet 219 val2 Bb S W
  own:OwnL (G+1) L lv W
theorem ownsRow_but {W W':World} {B n k:Nat} {e:TypeId} {v:Value} {xs:List Value} {D:Nat→Prop} (h:W.ownsRow B e k v n xs) (hb:But D W W') (hd:∀ j,D j→j<W.heap.size→j<B):W'.ownsRow B e k v n xs:=by
  obtain ⟨h1,h2⟩:=h
  refine ⟨h1,?_⟩
  rcases h2 with ⟨rfl,hn⟩ | ⟨g,cap,cur,rfl,hB,hg,h3⟩
  · exact .inl ⟨rfl,hn⟩
  · have hlt:g<W.heap.size:=(Array.getElem?_eq_some_iff.1 hg).1
    exact .inr ⟨g,cap,cur,rfl,hB,(hb.block g hlt (fun h=>by have:=hd g h hlt; omega)).trans hg,h3⟩
theorem GS.but {Bi Bc Bb G V:Nat} {lv:Value} {L:List Ir} {C S:List (Int × Int)} {W W':World} {D:Nat→Prop} (h:GS Bi Bc Bb G V lv L C S W) (hb:But D W W') (hd:∀ k,D k→k<W.heap.size→k<Bi):GS Bi Bc Bb G V lv L C S W':=by
  have hl:=h.lt
  have h1:=h.o1
  have h2:=h.o2
  have h3:=h.o3
  have nd:∀ k,Bi≤k→k<W.heap.size→¬ D k:=fun k hk hlt hdk=>by have:=hd k hdk hlt; omega
  have c:∀ {o v},W.cell? ⟨G,o,none⟩=some v→W'.cell? ⟨G,o,none⟩=some v:=fun {o v} hv=>(hb.cell (p:=⟨G,o,none⟩) hl (nd G (by omega) hl)).trans hv
  exact ⟨h.o1,h.o2,h.o3,Nat.lt_of_lt_of_le hl hb.size,c h.g0,c h.g1,c h.g2,c h.g3,c h.g4,(hb.frozen (p:=⟨G,2,none⟩) hl (nd G (by omega) hl)).trans h.fz,h.mi.but hb (nd _ (by omega) (by omega)),h.mc.but hb (nd _ (by omega) (by omega)),h.mb.but hb (nd _ (by omega) (by omega)),ownsRow_but h.own hb (fun j hj hlt=>by have:=hd j hj hlt; omega)⟩
theorem GS.next {Bi Bc Bb G V:Nat} {lv:Value} {L:List Ir} {C S:List (Int × Int)} {W W':World} (h:GS Bi Bc Bb G V lv L C S W) (hb:Below W.heap.size W W'):GS Bi Bc Bb G V lv L C S W' :=
  h.but (D:=fun _=>False) (But.of_next hb) (fun _ h=>h.elim)
def addI (L:List Ir) (x:Ir):List Ir:=if x∈L then L else L++[x]
def Apt (P:Nat→Prop) (Bi Bc Bb G:Nat) (lv:Value) (w:World):Prop:=(∀ k,P k→k<w.heap.size∧k≠Bi∧k≠Bc∧k≠Bb∧k≠G)∧∀ k,lv.ownBlock=some k→¬ P k
def Grown (P:Nat→Prop) (Bi Bc Bb G V:Nat) (L:List Ir) (C S:List (Int × Int)) (w:World) (e:Ending) (w':World):Prop:=e=.returned (.tuple #[])∧∃ lv',GS Bi Bc Bb G V lv' L C S w'∧Apt P Bi Bc Bb G lv' w'∧But (fun k=>¬ P k) w w'
theorem Apt.next {P:Nat→Prop} {Bi Bc Bb G:Nat} {lv:Value} {w w':World} (h:Apt P Bi Bc Bb G lv w) (hs:w.heap.size≤w'.heap.size):Apt P Bi Bc Bb G lv w':=⟨fun k hk=>⟨Nat.lt_of_lt_of_le (h.1 k hk).1 hs,(h.1 k hk).2⟩,h.2⟩
set_option maxRecDepth 100000 in
set_option maxHeartbeats 2000000 in
theorem gput_any (P:Nat→Prop) (Bi Bc Bb G V:Nat) (lv:Value) (L:List Ir) (C S:List (Int × Int)) (x:Ir) (w:World) (h:GS Bi Bc Bb G V lv L C S w) (hx:okR x) (hP:Apt P Bi Bc Bb G lv w) (hl:L.length<100000000) :
    Calls Tryz.prog 129 #[.pointer (some ⟨G,0,none⟩),valR x] w fun e w'=>Grown P Bi Bc Bb G V (addI L x) C S w e w':=by
  obtain ⟨i0,hi0,hz0,hz1,hz2⟩:=info_parts infoLr
  obtain ⟨la,lc,rfl⟩:=slice_of_ownK h.own
  have Bx:Below w.heap.size w (w.alloc (Obj.cells #[.int .i64 x.1,.int .i64 x.2.1,.int .i64 x.2.2] 77)):=(Below.refl _ _).alloc (Nat.le_refl _) _
  have X0:=RBox.new x 77 w
  have hG:=h.lt
  have hBi:Bi<G:=by have:=h.o1; have:=h.o2; have:=h.o3; omega
  have hdst:=And.intro h.o1 (And.intro h.o2 h.o3)
  have HH:Hid (GS Bi Bc Bb G V (.slice la L.length lc) L C S (w.alloc (Obj.cells #[.int .i64 x.1,.int .i64 x.2.1,.int .i64 x.2.2] 77))):=h.next Bx
  have HX:Hid (okR x):=hx
  have HOL:Hid (∀ k,(Value.slice la L.length lc).ownBlock=some k→G+1≤k∧k<w.heap.size):=fun k e=>World.ownsRow.lt h.own k e
  have HAP:Hid (Apt P Bi Bc Bb G (.slice la L.length lc) w):=hP
  clear h hx hP
  obtain ⟨x0,x1,x2⟩:=x
  unfold valR
  simp only at *
  go_enter Tryz.func129,Tryz.ntmps129
  go_wp2_with fail
  generalize w.alloc (Obj.cells #[.int .i64 x0,.int .i64 x1,.int .i64 x2] 77)=w0 at *
  obtain ⟨hwl,y0,y1,y2⟩:=X0
  simp only at y0 y1 y2
  have HS0:(w0.drew.cell? ⟨G,1,none⟩=some (.map (some Bi))∧w0.drew.cell? ⟨w.heap.size,0,none⟩=some (.int .i64 x0)∧w0.drew.cell? ⟨w.heap.size,1,none⟩=some (.int .i64 x1)∧w0.drew.cell? ⟨w.heap.size,2,none⟩=some (.int .i64 x2)):=⟨HH.out.g1,y0,y1,y2⟩
  have hg2:=HH.out.g2
  have hfz:=HH.out.fz
  have HN:=isNewR_any Bi L (x0,x1,x2) w0.drew (HH.out.next (Below.refl _ _).drew).mi HX.out hl
  unfold valR at HN
  simp only at HN
  have hsz:=Bx.size
  refine wp_region_L (fun W=>W.cell? ⟨G,1,none⟩=some (.map (some Bi))∧W.cell? ⟨w.heap.size,0,none⟩=some (.int .i64 x0)∧W.cell? ⟨w.heap.size,1,none⟩=some (.int .i64 x1)∧W.cell? ⟨w.heap.size,2,none⟩=some (.int .i64 x2)) 6 (by kernel_rfl) 6 rfl ?_
  refine tk 0 ⟨some 4,.move (.tmp 0),186, "grower.go:37",#[],none⟩ HS0 ?_;simp only [Act.put,sA,s0,sS]
  refine tk 1 ⟨some 5,.nilCheck (.tmp 4),0, "grower.go:37",#[⟨0,.data⟩],none⟩ HS0 ?_;simp only [Act.put,sA,s0,sS]
  refine tk 2 ⟨some 6,.fieldAddr 214 (.tmp 5) 1,0, "grower.go:37",#[⟨1,.data⟩],none⟩ HS0 ?_;simp only [Act.put,sA,s0,sS]
  refine tk 3 ⟨some 7,.load 210 (.tmp 6),210, "grower.go:37",#[⟨2,.data⟩],none⟩ HS0 ?_;simp only [Act.put,sA,s0,sS]
  refine tk 4 ⟨some 8,.load 77 (.tmp 3),77, "grower.go:37",#[],none⟩ HS0 ?_;simp only [Act.put,sA,s0,sS]
  refine wpAnyL_one' (i:=5) (o:=⟨some 9,.call ⟨.value (.func 156),#[.tmp 7,.tmp 8],#[210,77]⟩,4, "grower.go:37",#[⟨3,.data⟩,⟨4,.data⟩],none⟩) (by kernel_rfl) rfl rfl (fun K hK=>?_)
  go_simp
  refine HN.mono ?_
  rintro e W1 ⟨rfl,hM1,hb1⟩
  have hb1':But (fun k=>k=Bi) w0 W1:=(But.refl _ _).drew.trans hb1
  have cw:∀ {b o:Nat} {v:Value},b≠Bi→w0.cell? ⟨b,o,none⟩=some v→W1.cell? ⟨b,o,none⟩=some v:=fun {b o v} hbn hv=>(hb1'.cell (p:=⟨b,o,none⟩) (World.block_lt_of_cell? _ _ hv) hbn).trans hv
  have hS1:(W1.cell? ⟨G,1,none⟩=some (.map (some Bi))∧W1.cell? ⟨w.heap.size,0,none⟩=some (.int .i64 x0)∧W1.cell? ⟨w.heap.size,1,none⟩=some (.int .i64 x1)∧W1.cell? ⟨w.heap.size,2,none⟩=some (.int .i64 x2)):=⟨cw (by omega) HH.out.g1,cw (by omega) y0,cw (by omega) y1,cw (by omega) y2⟩
  refine hK.out _ _ (fun _=>hS1) ?_
  clear hK HN
  refine wpAnyL_done (by kernel_rfl) ?_ _
  have GS1:∀ L',MapSet 77 valR Bi L' W1→OwnL (G+1) L (.slice la L.length lc) W1∧(OwnL (G+1) L' (.slice la L.length lc) W1→GS Bi Bc Bb G V (.slice la L.length lc) L' C S W1):=fun L' hm=>by
    have h:=HH.out
    have nd:∀ k,k≠Bi→¬ (fun k=>k=Bi) k:=fun k hk e=>hk e
    refine ⟨?_,fun ho=>⟨h.o1,h.o2,h.o3,Nat.lt_of_lt_of_le h.lt hb1'.size,cw (by omega) h.g0,cw (by omega) h.g1,cw (by omega) h.g2,cw (by omega) h.g3,cw (by omega) h.g4,(hb1'.frozen (p:=⟨G,2,none⟩) h.lt (by simp only; omega)).trans h.fz,hm,h.mc.but hb1' (by omega),h.mb.but hb1' (by omega),ho⟩⟩
    exact ownsRow_but h.own hb1' (fun j hj _=>by omega)
  have HB1:Hid (But (fun k=>¬ P k) w W1):=(But.of_next Bx).trans (hb1'.mono (fun k _ hk hp=>(HAP.out.1 k hp).2.1 hk))
  by_cases hin:(x0,x1,x2)∈L
  · rw [if_pos hin] at hM1
    have hadd:addI L (x0,x1,x2)=L:=by unfold addI; rw [if_pos hin]
    have HF:Hid (GS Bi Bc Bb G V (.slice la L.length lc) L C S W1):=(GS1 L hM1).2 (GS1 L hM1).1
    have hdc:decide ((x0,x1,x2)∈L)=true:=by simpa using hin
    rw [hdc]
    clear GS1 hS1 cw hM1 HH HS0 hdc hin hb1 hb1' hg2 hfz
    go_wp2_with fail
    go_end0
    exact ⟨rfl,_,by rw [hadd]; exact HF.out,HAP.out.next HB1.out.size,HB1.out⟩
  rw [if_neg hin] at hM1
  have hadd:addI L (x0,x1,x2)=L++[(x0,x1,x2)]:=by unfold addI; rw [if_neg hin]
  have hdc:decide ((x0,x1,x2)∈L)=false:=by simpa using hin
  rw [hdc]
  have HM1:Hid (MapSet 77 valR Bi (L++[(x0,x1,x2)]) W1):=hM1
  have HO1:Hid (OwnL (G+1) L (.slice la L.length lc) W1):=(GS1 _ hM1).1
  have HG1:Hid (∀ {o:Nat} {v:Value},w0.cell? ⟨G,o,none⟩=some v→W1.cell? ⟨G,o,none⟩=some v):=fun {o v} hv=>cw (by omega) hv
  have hfz1:W1.frozen? ⟨G,2,none⟩=false:=(hb1'.frozen (p:=⟨G,2,none⟩) HH.out.lt (by simp only; omega)).trans hfz
  have hg21:W1.cell? ⟨G,2,none⟩=some (.slice la L.length lc):=cw (by omega) hg2
  have HMC:Hid (MapSet 239 val2 Bc C W1):=HH.out.mc.but hb1' (by omega)
  have HMB:Hid (MapSet 219 val2 Bb S W1):=HH.out.mb.but hb1' (by omega)
  have hG1:G<W1.heap.size:=Nat.lt_of_lt_of_le HH.out.lt hb1'.size
  have hw1:w.heap.size<W1.heap.size:=Nat.lt_of_lt_of_le hwl hb1'.size
  have z0:=hS1.2.1
  have z1:=hS1.2.2.1
  have z2:=hS1.2.2.2
  have HS2:Hid (∀ W,But (fun k=>(Value.slice la L.length lc).ownBlock=some k) W1 W→(W.cell? ⟨G,2,none⟩=some (.slice la L.length lc)∧W.cell? ⟨w.heap.size,0,none⟩=some (.int .i64 x0)∧W.cell? ⟨w.heap.size,1,none⟩=some (.int .i64 x1)∧W.cell? ⟨w.heap.size,2,none⟩=some (.int .i64 x2))):=fun W hb=>⟨(hb.cell (p:=⟨G,2,none⟩) hG1 (fun e=>by have:=HOL.out _ e; simp only at this; omega)).trans hg21,(hb.cell (p:=⟨w.heap.size,0,none⟩) hw1 (fun e=>by have:=HOL.out _ e; simp only at this; omega)).trans z0,(hb.cell (p:=⟨w.heap.size,1,none⟩) hw1 (fun e=>by have:=HOL.out _ e; simp only at this; omega)).trans z1,(hb.cell (p:=⟨w.heap.size,2,none⟩) hw1 (fun e=>by have:=HOL.out _ e; simp only at this; omega)).trans z2⟩
  have HSD:=HS2.out W1.drew (But.refl _ _).drew
  have Bn:Below W1.heap.size W1 (W1.drew.alloc (Obj.cells #[.int .i64 x0,.int .i64 x1,.int .i64 x2] 77)):=(Below.refl _ _).drew.alloc (Nat.le_refl _) _
  have HSN:=HS2.out (W1.drew.alloc (Obj.cells #[.int .i64 x0,.int .i64 x1,.int .i64 x2] 77)) (But.of_next Bn)
  have HON:Hid ((W1.drew.alloc (Obj.cells #[.int .i64 x0,.int .i64 x1,.int .i64 x2] 77)).ownsRow (G+1) 77 3 (.slice la L.length lc) L.length (L.flatMap encR)):=ownsRow_next (show W1.ownsRow (G+1) 77 3 (.slice la L.length lc) L.length (L.flatMap encR) from HO1.out) Bn
  have hszn:G+1≤(W1.drew.alloc (Obj.cells #[.int .i64 x0,.int .i64 x1,.int .i64 x2] 77)).heap.size:=Nat.le_trans hG1 Bn.size
  have HGG:Hid (w0.cell? ⟨G,0,none⟩=some (.pointer (some ⟨V,0,none⟩))∧w0.cell? ⟨G,1,none⟩=some (.map (some Bi))∧w0.cell? ⟨G,3,none⟩=some (.map (some Bc))∧w0.cell? ⟨G,4,none⟩=some (.map (some Bb))):=⟨HH.out.g0,HH.out.g1,HH.out.g3,HH.out.g4⟩
  clear GS1 hM1 HS0 hdc hb1 hg2 hfz hS1 cw HH hin hb1'
  go_wp2_with fail
  refine wp_region_L (fun W=>W.cell? ⟨G,2,none⟩=some (.slice la L.length lc)∧W.cell? ⟨w.heap.size,0,none⟩=some (.int .i64 x0)∧W.cell? ⟨w.heap.size,1,none⟩=some (.int .i64 x1)∧W.cell? ⟨w.heap.size,2,none⟩=some (.int .i64 x2)) 10 (by kernel_rfl) 11 rfl ?_
  refine tk 0 ⟨some 10,.move (.tmp 0),186, "grower.go:38",#[],none⟩ HSD ?_;simp only [Act.put,sA,s0,sS]
  refine tk 1 ⟨some 11,.move (.tmp 0),186, "grower.go:38",#[],none⟩ HSD ?_;simp only [Act.put,sA,s0,sS]
  refine tk 2 ⟨some 12,.nilCheck (.tmp 11),0, "grower.go:38",#[⟨1,.data⟩],none⟩ HSD ?_;simp only [Act.put,sA,s0,sS]
  refine tk 3 ⟨some 13,.fieldAddr 214 (.tmp 12) 2,0, "grower.go:38",#[⟨2,.data⟩],none⟩ HSD ?_;simp only [Act.put,sA,s0,sS]
  refine tk 4 ⟨some 14,.load 64 (.tmp 13),64, "grower.go:38",#[⟨3,.data⟩],none⟩ HSD ?_;simp only [Act.put,sA,s0,sS]
  refine tk 5 ⟨some 15,.load 77 (.tmp 3),77, "grower.go:38",#[],none⟩ HSD ?_;simp only [Act.put,sA,s0,sS]
  refine wpAnyL_one' (i:=6) (o:=⟨some 16,.buildSlice 64 1 #[(0,.tmp 15)],64, "grower.go:38",#[⟨5,.data⟩],none⟩) (by kernel_rfl) rfl rfl (fun K hK=>?_)
  go_simp
  refine hK.out _ _ (fun _=>HSN) ?_
  clear hK
  refine wpAnyL_one' (i:=7) (o:=⟨some 17,.call ⟨.builtin .append,#[.tmp 14,.tmp 16],#[64,64]⟩,64, "grower.go:38",#[⟨4,.data⟩,⟨6,.data⟩],none⟩) (by kernel_rfl) rfl rfl (fun K hK=>?_)
  rw [if_pos (by rfl)]
  refine wp_append_ownq (.tmp 14) (.tmp 16) 64 rfl (G+1) 77 i0 _ 3 24 Tryz.underlying64 hi0 hz0 hz1 hz2 rfl (by decide) _ L.length _ rfl HON.out ⟨W1.heap.size,0,none⟩ 1 (encR (x0,x1,x2)) rfl rfl (new_cellR W1.drew (x0,x1,x2) _) (one_encR _) (by unfold maxLen; omega) (by omega) hszn ?_
  intro v5 w5 hown5 hg5 hv5
  obtain ⟨a5,c5,rfl⟩:=slice_of_ownK hown5
  have hg5':(W1.drew.alloc (Obj.cells #[.int .i64 x0,.int .i64 x1,.int .i64 x2] 77)).grownBy w5 (Value.slice la L.length lc).ownBlock:=hg5
  have BT:But (fun k=>(Value.slice la L.length lc).ownBlock=some k) W1 w5:=(But.of_next Bn).trans ⟨hg5'.os,hg5'.tape,hg5'.output,hg5'.size,fun k hk hd=>hg5'.block k hk (fun e=>hd e.symm)⟩
  have HV5:Hid (∀ k,(Value.slice a5 (L.length+1) c5).ownBlock=some k→(Value.slice la L.length lc).ownBlock=some k∨W1.heap.size≤k):=fun k e=>(hv5 k e).imp id (fun h=>Nat.le_trans (Bn.size) h)
  clear hv5
  have HO5:Hid (OwnL (G+1) (L++[(x0,x1,x2)]) (.slice a5 (L.length+1) c5) w5):=OwnL.more hown5
  have hS5:=HS2.out _ BT
  have fz5:w5.frozen? ⟨G,2,none⟩=false:=(BT.frozen (p:=⟨G,2,none⟩) hG1 (fun e=>by have:=HOL.out _ e; simp only at this; omega)).trans hfz1
  refine hK.out _ _ (fun _=>hS5) ?_
  clear hK hown5 hg5
  simp only [Act.put,sA,s0,sS]
  refine wpAnyL_one' (i:=8) (o:=⟨some 18,.nilCheck (.tmp 10),0, "grower.go:38",#[⟨0,.data⟩,⟨0,.phase⟩,⟨1,.phase⟩,⟨2,.phase⟩,⟨3,.phase⟩,⟨4,.phase⟩,⟨5,.phase⟩,⟨6,.phase⟩,⟨7,.phase⟩],none⟩) (by kernel_rfl) rfl rfl (fun K hK=>?_)
  go_simp
  refine hK.out _ _ (fun _=>hS5) ?_
  clear hK
  refine wpAnyL_one' (i:=9) (o:=⟨some 19,.fieldAddr 214 (.tmp 18) 2,0, "grower.go:38",#[⟨8,.data⟩,⟨0,.phase⟩,⟨1,.phase⟩,⟨2,.phase⟩,⟨3,.phase⟩,⟨4,.phase⟩,⟨5,.phase⟩,⟨6,.phase⟩,⟨7,.phase⟩],none⟩) (by kernel_rfl) rfl rfl (fun K hK=>?_)
  go_simp
  refine hK.out _ _ (fun _=>hS5) ?_
  clear hK
  refine wpAnyL_one' (i:=10) (o:=⟨none,.store 64 (.tmp 19) (.tmp 17),0, "grower.go:38",#[⟨9,.data⟩,⟨7,.data⟩,⟨7,.chain⟩,⟨0,.phase⟩,⟨1,.phase⟩,⟨2,.phase⟩,⟨3,.phase⟩,⟨4,.phase⟩,⟨5,.phase⟩,⟨6,.phase⟩,⟨7,.phase⟩],none⟩) (by kernel_rfl) rfl rfl (fun K hK=>?_)
  go_simp
  refine hK.out _ _ (fun h=>absurd h (by decide)) ?_
  clear hK
  refine wpAnyL_done (by kernel_rfl) ?_ _
  have hw5:w5.heap.size≤(w5.setCell ⟨G,2,none⟩ (.slice a5 (L.length+1) c5)).heap.size:=by simp [World.setCell]
  have BS:But (fun k=>k=G) w5 (w5.setCell ⟨G,2,none⟩ (.slice a5 (L.length+1) c5)):=(But.refl _ _).setCell _ _ (.inr rfl)
  have HF:Hid (GS Bi Bc Bb G V (.slice a5 (L.length+1) c5) (L++[(x0,x1,x2)]) C S (w5.setCell ⟨G,2,none⟩ (.slice a5 (L.length+1) c5))∧Apt P Bi Bc Bb G (.slice a5 (L.length+1) c5) (w5.setCell ⟨G,2,none⟩ (.slice a5 (L.length+1) c5))∧But (fun k=>¬ P k) w (w5.setCell ⟨G,2,none⟩ (.slice a5 (L.length+1) c5))):=by
    have oc:∀ {o:Nat} {v:Value},o≠2→w0.cell? ⟨G,o,none⟩=some v→(w5.setCell ⟨G,2,none⟩ (.slice a5 (L.length+1) c5)).cell? ⟨G,o,none⟩=some v:=fun {o v} ho hv=>by
      rw [World.cell?_setCell_other _ _ _ _ (fun e=>ho (by cases e; rfl)),BT.cell (p:=⟨G,o,none⟩) hG1 (fun e=>by have:=HOL.out _ e; simp only at this; omega)]
      exact HG1.out hv
    have hg:=HGG.out
    exact ⟨⟨hdst.1,hdst.2.1,hdst.2.2,Nat.lt_of_lt_of_le (Nat.lt_of_lt_of_le hG1 BT.size) hw5,oc (by omega) hg.1,oc (by omega) hg.2.1,World.cell?_setCell_same _ _ _ hS5.1,oc (by omega) hg.2.2.1,oc (by omega) hg.2.2.2,by rw [World.frozen?_setCell]; exact fz5,(HM1.out.but BT (fun e=>by have:=HOL.out _ e; omega)).but BS (by omega),(HMC.out.but BT (fun e=>by have:=HOL.out _ e; omega)).but BS (by omega),(HMB.out.but BT (fun e=>by have:=HOL.out _ e; omega)).but BS (by omega),ownsRow_but HO5.out BS (fun j hj _=>by omega)⟩,⟨fun k hk=>⟨Nat.lt_of_lt_of_le (HAP.out.1 k hk).1 (Nat.le_trans HB1.out.size (Nat.le_trans BT.size hw5)),(HAP.out.1 k hk).2⟩,fun k e hp=>(HV5.out k e).elim (fun h=>HAP.out.2 k h hp) (fun h=>by have:=(HAP.out.1 k hp).1; have:=HB1.out.size; omega)⟩,(HB1.out.trans (BT.mono (fun k _ hk hp=>HAP.out.2 k hk hp))).trans (BS.mono (fun k _ hk hp=>(HAP.out.1 k hp).2.2.2.2 hk))⟩
  clear HS2 HON HGG HMC HMB HM1 HO1 HG1 HO5 BT BS hS5 fz5 HSN HSD hg5' hg21 hfz1 z0 z1 z2 Bn
  go_wp2_with fail
  go_end0
  exact ⟨rfl,_,by rw [hadd]; exact HF.out.1,HF.out.2⟩
def NewG (V:Nat) (w:World) (e:Ending) (w':World):Prop:=∃ Bi Bc Bb G,e=.returned (.pointer (some ⟨G,0,none⟩))∧w.heap.size≤Bi∧GS Bi Bc Bb G V (.slice none 0 0) [] [] [] w'∧Below w.heap.size w w'
theorem cells5 (W:World) (n:Nat) (a0 a1 a2 a3 a4:Value) (ty:TypeId) (h:W.heap.size=n) :
    (W.alloc (Obj.cells #[a0,a1,a2,a3,a4] ty)).cell? ⟨n,0,none⟩=some a0∧(W.alloc (Obj.cells #[a0,a1,a2,a3,a4] ty)).cell? ⟨n,1,none⟩=some a1∧(W.alloc (Obj.cells #[a0,a1,a2,a3,a4] ty)).cell? ⟨n,2,none⟩=some a2∧(W.alloc (Obj.cells #[a0,a1,a2,a3,a4] ty)).cell? ⟨n,3,none⟩=some a3∧(W.alloc (Obj.cells #[a0,a1,a2,a3,a4] ty)).cell? ⟨n,4,none⟩=some a4∧(W.alloc (Obj.cells #[a0,a1,a2,a3,a4] ty)).frozen? ⟨n,2,none⟩=false:=by
  subst h
  refine ⟨?_,?_,?_,?_,?_,?_⟩ <;> simp
set_option maxRecDepth 100000 in
set_option maxHeartbeats 1000000 in
theorem newGrower_any (V:Nat) (w:World):Calls Tryz.prog 128 #[.pointer (some ⟨V,0,none⟩)] w fun e w'=>NewG V w e w':=by
  go_enter Tryz.func128,Tryz.ntmps128
  go_wp2_with fail
  simp only [run_makeMap,Result.andThen]
  go_wp2_with fail
  simp only [run_makeMap,Result.andThen]
  go_wp2_with fail
  simp only [run_makeMap,Result.andThen]
  go_wp2_with fail
  go_ret
  have hs1:(w.alloc (Obj.map #[] 0)).heap.size=w.heap.size+1:=by simp
  have hs2:((w.alloc (Obj.map #[] 0)).alloc (Obj.map #[] 0)).heap.size=w.heap.size+1+1:=by simp
  have hs3:(((w.alloc (Obj.map #[] 0)).alloc (Obj.map #[] 0)).alloc (Obj.map #[] 0)).heap.size=w.heap.size+1+1+1:=by simp
  have m1:=MapSet.made 77 valR w
  have m2:=MapSet.made 239 val2 (w.alloc (Obj.map #[] 0))
  have m3:=MapSet.made 219 val2 ((w.alloc (Obj.map #[] 0)).alloc (Obj.map #[] 0))
  rw [hs1] at m2
  rw [hs2] at m3
  have al:∀ (W:World) (o:Obj),But (fun _=>False) W (W.alloc o):=fun W o=>But.of_next ((Below.refl _ _).alloc (Nat.le_refl _) _)
  have bl:∀ (W:World) (o:Obj),w.heap.size≤W.heap.size→Below w.heap.size w W→Below w.heap.size w (W.alloc o):=fun W o hs hb=>hb.alloc hs _
  have hc:=cells5 (((w.alloc (Obj.map #[] 0)).alloc (Obj.map #[] 0)).alloc (Obj.map #[] 0)) _ (.pointer (some ⟨V,0,none⟩)) (.map (some w.heap.size)) (.slice none 0 0) (.map (some (w.heap.size+1))) (.map (some (w.heap.size+1+1))) 214 hs3
  refine ⟨w.heap.size,w.heap.size+1,w.heap.size+1+1,w.heap.size+1+1+1,rfl,Nat.le_refl _,⟨by omega,by omega,by omega,by simp,hc.1,hc.2.1,hc.2.2.1,hc.2.2.2.1,hc.2.2.2.2.1,hc.2.2.2.2.2,((m1.but (al _ _) id).but (al _ _) id).but (al _ _) id,(m2.but (al _ _) id).but (al _ _) id,m3.but (al _ _) id,OwnL.nil _ _⟩,?_⟩
  exact bl _ _ (by simp; omega) (bl _ _ (by simp; omega) (bl _ _ (by simp) (bl _ _ (Nat.le_refl _) (Below.refl _ _))))
end Go.Proofs.YtbilbgjojdlobaaGreatDoor
