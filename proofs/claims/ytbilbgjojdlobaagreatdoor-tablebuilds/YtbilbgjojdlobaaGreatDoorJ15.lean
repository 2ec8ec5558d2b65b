import Derived.Test.YtbilbgjojdlobaaGreatDoorRows
import Derived.Test.YtbilbgjojdlobaaGreatDoorTie
import Derived.Test.YtbilbgjojdlobaaGreatDoorCards
import Derived.Test.YtbilbgjojdlobaaGreatDoorJ01
import Derived.Test.YtbilbgjojdlobaaGreatDoorJ02
import Derived.Test.YtbilbgjojdlobaaGreatDoorJ03
import Derived.Test.YtbilbgjojdlobaaGreatDoorJ04
import Derived.Test.YtbilbgjojdlobaaGreatDoorJ05
import Derived.Test.YtbilbgjojdlobaaGreatDoorJ06
import Derived.Test.YtbilbgjojdlobaaGreatDoorJ07
import Derived.Test.YtbilbgjojdlobaaGreatDoorJ09
import Derived.Test.YtbilbgjojdlobaaGreatDoorJ11
import Derived.Test.YtbilbgjojdlobaaGreatDoorJ14
import Derived.ChangeKeysEq
import Derived.ProofKit
import Derived.OpenShut
import Derived.SizedLaws
import Derived.Lib.SmallJoins
import Derived.Deep.Slices
import Derived.Deep.Strs
import Derived.LaidMore
import Derived.LaidHandle
import Derived.Stop.Joined
import Derived.Stop.LaidErr
import Derived.Lib.LaidTab
import Derived.SevenTiedAt

namespace Go.Proofs.YtbilbgjojdlobaaGreatDoor
open Go.RowKit
set_option maxRecDepth 100000 in
set_option maxHeartbeats 800000 in
theorem items_any (f:Fl) (a:FlA) (w:World) (hf:FlAt f a w) (hl:f.prods.length≤1000) :
    Calls Tryz.prog 30 #[a.val f] w fun e w'=>∃ z,e=.returned (.int .i64 z)∧Below w.heap.size w w':=by
  obtain ⟨ta,tc,na,nc,pa,pc⟩:=a
  have X0:=FBox.new f ⟨ta,tc,na,nc,pa,pc⟩ 25 w
  have B0:Below w.heap.size w (w.alloc (fobj f ⟨ta,tc,na,nc,pa,pc⟩ 25)):=(Below.refl _ _).alloc (Nat.le_refl _) _
  obtain ⟨h0,h1,h2,h3,h4,h5,h6,h7⟩:=hf
  unfold fobj at X0 B0
  unfold FlA.val
  simp only at *
  clear h0 h1
  go_enter Tryz.func30,Tryz.ntmps30
  go_wp2_with fail
  generalize w.alloc (Obj.cells #[Value.slice ta f.terms.length tc,Value.slice na f.nons.length nc,Value.slice pa f.prods.length pc] 25)=w0 at *
  have HP:Hid (∀ W,Below w0.heap.size w0 W→PrsAt f.prods pa W):=fun W hb=>(h2.next B0).next hb
  have HB:Hid (∀ W,Below w0.heap.size w0 W→Below w.heap.size w W):=fun W hb=>below_then B0 hb B0.size
  obtain ⟨x1,d0,d1,d2⟩:=id X0
  simp only at d0 d1 d2
  clear X0 B0 h2
  go_wp2_with fail
  go_loopw [3,9] (fun nv i wr=>∃ (j:Nat) (z:Int),nv=.int .i64 z∧i=.int .i64 j∧j≤f.prods.length∧Below w0.heap.size w0 wr) (fun _ i _=>f.prods.length - (intOf i).toNat)
  case atStart=>exact ⟨0,0,rfl,rfl,Nat.zero_le _,Below.refl _ _⟩
  case round =>
    obtain ⟨j,z,rfl,rfl,hj,B1⟩:=hrel
    have hsz:=B1.size
    by_cases hlt:j<f.prods.length
    · obtain ⟨b,off,v,rfl,_,c0,c1,c2,hv,_⟩:=(HP.out _ B1).at (Below.refl _ _) hlt
      generalize f.prods[j]=p at *
      obtain ⟨va,vc,rfl,_⟩:=hv
      have B2:Below w0.heap.size w0 (wr.alloc (Obj.cells #[.int .i64 p.left,.slice va p.right.length vc,.int .i64 p.prec] 58)):=B1.alloc hsz _
      obtain ⟨z2,hz2⟩:∃ z2,wrap64 (z+(p.right.length:Int))=z2:=⟨_,rfl⟩
      go_wp2_with fail
      exact ⟨⟨j+1,_,rfl,by go_num,by omega,B2⟩,by simp [intOf]; omega⟩
    · go_wp2_with fail
      go_ret
      exact ⟨_,rfl,HB.out _ B1⟩
def Few1 (f:Fl) (w:World) (e:Ending) (w':World):Prop:=∃ b,e=.returned (.bool b)∧(b=true→fitB f=true∧f.n≤16∧f.prods.length≤16)∧Below w.heap.size w w'
set_option maxRecDepth 100000 in
set_option maxHeartbeats 1600000 in
theorem few11_any (f:Fl) (a:FlA) (w:World) (hf:FlAt f a w) :
    Calls Tryz.prog 8 #[a.val f] w fun e w'=>Few1 f w e w':=by
  have hL:=fun W (hb:Below w.heap.size w W)=>light_any f a W (hf.next hb)
  have hF:=fun W (hb:Below w.heap.size w W)=>fit_any f a W (hf.next hb)
  have hI:=fun W (hb:Below w.heap.size w W)=>items_any f a W (hf.next hb)
  obtain ⟨ta,tc,na,nc,pa,pc⟩:=a
  have X0:=FBox.new f ⟨ta,tc,na,nc,pa,pc⟩ 25 w
  obtain ⟨h0,h1,h2,h3,h4,h5,h6,h7⟩:=hf
  clear h0 h1 h2
  have B0:Below w.heap.size w (w.alloc (fobj f ⟨ta,tc,na,nc,pa,pc⟩ 25)):=(Below.refl _ _).alloc (Nat.le_refl _) _
  unfold fobj at X0 B0
  unfold FlA.val at hL hF hI ⊢
  simp only at *
  have HL:Hid (∀ W,Below w.heap.size w W→Calls Tryz.prog 28 #[.agg #[.slice ta f.terms.length tc,.slice na f.nons.length nc,.slice pa f.prods.length pc]] W fun e w'=>e=.returned (.bool (lightB f))∧Below W.heap.size W w'):=hL
  have HF:Hid (∀ W,Below w.heap.size w W→Calls Tryz.prog 29 #[.agg #[.slice ta f.terms.length tc,.slice na f.nons.length nc,.slice pa f.prods.length pc]] W fun e w'=>e=.returned (.bool (fitB f))∧Below W.heap.size W w'):=hF
  have HI:Hid (∀ W,Below w.heap.size w W→f.prods.length≤1000→Calls Tryz.prog 30 #[.agg #[.slice ta f.terms.length tc,.slice na f.nons.length nc,.slice pa f.prods.length pc]] W fun e w'=>∃ z,e=.returned (.int .i64 z)∧Below W.heap.size W w'):=hI
  clear hL hF hI
  go_enter Tryz.func8,Tryz.ntmps8
  go_wp2_with fail
  refine (HL.out _ B0).mono ?_
  rintro e w1 ⟨rfl,hb1⟩
  have X1:=X0.next hb1
  have B1:=below_then B0 hb1 B0.size
  clear X0 B0 HL hb1
  obtain ⟨x1,d0,d1,d2⟩:=id X1
  simp only at d0 d1 d2
  cases hl:lightB f with
  | false =>
    clear hl HF HI
    go_wp2_with fail
    go_ret
    exact ⟨false,rfl,(fun h=>by cases h),B1⟩
  | true =>
  go_wp2_with fail
  refine (HF.out _ B1).mono ?_
  rintro e w2 ⟨rfl,hb2⟩
  have X2:=X1.next hb2
  have B2:=below_then B1 hb2 B1.size
  clear X1 B1 HF hb2 x1 d0 d1 d2
  obtain ⟨x1,d0,d1,d2⟩:=id X2
  simp only at d0 d1 d2
  cases ht:fitB f with
  | false =>
    clear hl ht HI
    go_wp2_with fail
    go_ret
    exact ⟨false,rfl,(fun h=>by cases h),B2⟩
  | true =>
  have HFT:Hid (fitB f=true):=ht
  clear hl ht
  by_cases z1:f.terms.length+f.nons.length≤16
  · by_cases z2:f.prods.length≤16
    · have HCI:=HI.out _ B2 (by omega)
      have y1:decide ((f.terms.length:Int)+f.nons.length≤16)=true:=decide_eq_true (by omega)
      have y2:decide ((f.prods.length:Int)≤16)=true:=decide_eq_true (by omega)
      have y3:(f.terms.length:Int)+f.nons.length≤16:=by omega
      clear HI
      go_wp2_with fail
      refine HCI.mono ?_
      rintro e w3 ⟨z,rfl,hb3⟩
      have B3:=below_then B2 hb3 B2.size
      clear HCI hb3
      go_wp2_with fail
      go_ret
      exact ⟨_,rfl,fun _=>⟨HFT.out,z1,z2⟩,B3⟩
    · have y2:decide ((f.prods.length:Int)≤16)=false:=decide_eq_false (by omega)
      have y1:decide ((f.terms.length:Int)+f.nons.length≤16)=true:=decide_eq_true (by omega)
      have y3:(f.terms.length:Int)+f.nons.length≤16:=by omega
      have y4:¬ (f.prods.length:Int)≤16:=by omega
      clear HI
      go_wp2_with fail
      go_ret
      exact ⟨false,rfl,(fun h=>by cases h),B2⟩
  · have y1:decide ((f.terms.length:Int)+f.nons.length≤16)=false:=decide_eq_false (by omega)
    have y3:¬ (f.terms.length:Int)+f.nons.length≤16:=by omega
    clear HI
    go_wp2_with fail
    go_ret
    exact ⟨false,rfl,(fun h=>by cases h),B2⟩
theorem neqA2 (a b:Int) (w:World):(binOp .neq 38 (.agg #[.int .i64 a,.int .i64 b]) (.agg #[.int .i64 a,.int .i64 b])).run Tryz.prog w=.ok (.bool false) w:=by
  have u3:=Tryz.underlying3
  have a3:=Tryz.isAgg3
  have z3:=Tryz.sizeOf3
  have hS:Tryz.prog.underlying 38=some (.array 2 3):=by kernel_rfl
  obtain ⟨i,hi⟩:=info_of_underlying u3
  have hc:Tryz.prog.cellsOf 3=1:=by kernel_rfl
  have hk:Tryz.prog.plainKey 3=true:=by kernel_rfl
  rw [run_neq_struct,show (10000:Nat)=9998+1+1 from rfl,run_equalIn_array w (9998+1) _ _ hS hi]
  have e2:List.range 2=[0,1]:=rfl
  rw [e2,hc]
  simp [Op.eqItems,Sem.run_bind,run_part_plain w hk,run_equalIn_int w 9998 3 .i64 .i64 _ _ u3]
noncomputable def tabL (f:Fl):List Rw:=(tabF f).getD []
noncomputable def tabK (f:Fl):Nat:=if (tabF f).isSome then 0 else 15
theorem built_l {f:Fl} {w W':World} {e:Ending} (h:Built f w e W') :
    ∃ va vc,e=.returned (.tuple #[.agg #[.slice va (tabL f).length vc],.int .i64 (tabK f)])∧SlW (tabL f) (.slice va (tabL f).length vc) W'∧Below w.heap.size w W':=by
  obtain ⟨h,hb⟩:=h
  rcases h with ⟨v',T,k1,rfl,k2,k3⟩ | ⟨k1,rfl⟩
  · have e1:tabL f=T:=by simp [tabL,k1]
    have e2:tabK f=0:=by simp [tabK,k1]
    rw [e1,e2]
    have k2':=k2
    obtain ⟨va,vc,rfl,_⟩:=k2
    exact ⟨va,vc,rfl,k2',hb⟩
  · have e1:tabL f=[]:=by simp [tabL,k1]
    have e2:tabK f=15:=by simp [tabK,k1]
    rw [e1,e2]
    exact ⟨none,0,rfl,SlW.nil _,hb⟩
theorem size_tabL {f:Fl} (hp:FitP f) (h1:f.n≤16) (h2:f.prods.length≤16):sizeTb (tabL f)≤240000:=by
  unfold tabL
  cases h:tabF f with
  | none=>simp [sizeTb]
  | some T=>exact size_tab hp h1 h2 h
end Go.Proofs.YtbilbgjojdlobaaGreatDoor
namespace Go.Proofs.YtbilbgjojdlobaaGreatDoor
open Go.RowKit Go.Maps
def KeepU (lo hi:Nat) (l:List Int) (u:Value) (W:World):Prop:=∀ (W':World) (D:Nat→Prop),But D W W'→(∀ k,D k→k<lo∨hi≤k)→SlI l u W'
theorem KeepU.keep {lo hi:Nat} {l:List Int} {u:Value} {W W1:World} {D:Nat→Prop} (h:KeepU lo hi l u W) (hb:But D W W1) (hd:∀ k,D k→k<lo∨hi≤k):KeepU lo hi l u W1:=fun W' D' hb' hd' =>
  h W' (fun k=>D k∨D' k) ((hb.mono (fun _ _ h=>.inl h)).trans (hb'.mono (fun _ _ h=>.inr h))) (fun k hk=>hk.elim (hd k) (hd' k))
theorem KeepU.of {B lo hi:Nat} {l:List Int} {u:Value} {W:World} (h:OwnI B l u W) (hB:lo≤B) (hi':W.heap.size≤hi) (hok:∀ x∈l,i64B x):KeepU lo hi l u W:=fun W' D hb hd =>
  sli_own (ownsRow_keep (D:=fun k=>D k∧k<W.heap.size) h (hb.mono (fun k hk h=>⟨h,hk⟩)) (fun k hk e=>by
    have h1:=World.ownsRow.lt h k hk
    rcases hd k e.1 with h2 | h2 <;> omega)) hok
def encAu (p:Ac × Value):List Value:=[.int .i64 p.1.look,.int .i64 p.1.to,p.2,.bool p.1.acc]
def okAc (a:Ac):Prop:=i64B a.look∧i64B a.to∧a.red.length≤140737488351232
structure OwnA (B L:Nat) (P:List (Ac × Value)) (v:Value) (W:World):Prop where
  own:W.ownsRow B 45 4 v P.length (P.flatMap encAu)
  rows:∀ (i:Nat) (p:Ac × Value),P[i]?=some p→okAc p.1∧∃ lo hi,KeepU lo hi p.1.red p.2 W∧L≤lo∧hi≤W.heap.size∧∀ k,v.ownBlock=some k→k<lo∨hi≤k
theorem OwnA.nil (B L:Nat) (W:World):OwnA B L [] (.slice none 0 0) W:=⟨World.ownsRow_nil _ _ _ _,fun i p h=>by simp at h⟩
theorem OwnA.keep {B L:Nat} {P:List (Ac × Value)} {v:Value} {W W':World} {D:Nat→Prop} (h:OwnA B L P v W) (hb:But D W W') (hd:∀ k,D k→k<L) (hv:∀ k,v.ownBlock=some k→¬ D k):OwnA B L P v W' :=
  ⟨ownsRow_keep h.own hb hv,fun i p hp=>by
    obtain ⟨h0,lo,hi,h1,h2,h3,h4⟩:=h.rows i p hp
    exact ⟨h0,lo,hi,h1.keep hb (fun k hk=>.inl (Nat.lt_of_lt_of_le (hd k hk) h2)),h2,Nat.le_trans h3 hb.size,h4⟩⟩
theorem OwnA.next {B L:Nat} {P:List (Ac × Value)} {v:Value} {W W':World} (h:OwnA B L P v W) (hb:Below W.heap.size W W'):OwnA B L P v W' :=
  h.keep (D:=fun _=>False) (But.of_next hb) (fun _ h=>h.elim) (fun _ _ h=>h)
theorem OwnA.more {B L:Nat} {P:List (Ac × Value)} {v v':Value} {p:Ac × Value} {lo hi:Nat} {W W1:World} (h:OwnA B L P v W) (hk:KeepU lo hi p.1.red p.2 W) (hok:okAc p.1) (hL:L≤lo) (hh:hi≤W.heap.size) (hvl:∀ k,v.ownBlock=some k→k<lo) (hg:W.grownBy W1 v.ownBlock)
    (ho:W1.ownsRow B 45 4 v' (P.length+1) (P.flatMap encAu++encAu p)) (hat:v'.ownBlock=v.ownBlock∨v'.ownBlock=some W.heap.size):OwnA B L (P++[p]) v' W1:=by
  have hb:But (fun k=>v.ownBlock=some k) W W1:=⟨hg.os,hg.tape,hg.output,hg.size,fun k hk hd=>hg.block k hk (fun e=>hd e.symm)⟩
  refine ⟨by rw [List.length_append,List.flatMap_append]; simpa using ho,fun i u hu=>?_⟩
  by_cases hi':i<P.length
  · rw [List.getElem?_append_left hi'] at hu
    obtain ⟨h0,lo',hi'',h1,h2,h3,h4⟩:=h.rows i u hu
    refine ⟨h0,lo',hi'',h1.keep hb h4,h2,Nat.le_trans h3 hb.size,fun k hk=>?_⟩
    rcases hat with e | e
    · rw [e] at hk; exact h4 k hk
    · rw [e] at hk; cases hk; exact .inr h3
  · have e1:i=P.length:=by
      have:=(List.getElem?_eq_some_iff.1 hu).1
      simp at this; omega
    subst e1
    rw [List.getElem?_append_right (Nat.le_refl _)] at hu
    simp at hu
    subst hu
    refine ⟨hok,lo,hi,hk.keep hb (fun k hk=>.inl (hvl k hk)),hL,Nat.le_trans hh hb.size,fun k hk=>?_⟩
    rcases hat with e | e
    · rw [e] at hk; exact .inl (hvl k hk)
    · rw [e] at hk; cases hk; exact .inr hh
theorem OwnA.sl {B L:Nat} {P:List (Ac × Value)} {v:Value} {W:World} (h:OwnA B L P v W) (hl:P.length≤140737488351232):SlA (P.map Prod.fst) v W:=by
  rcases Nat.eq_zero_or_pos P.length with h0 | h0
  · have h1:P=[]:=List.eq_nil_of_length_eq_zero h0
    subst h1
    rcases h.own.2 with ⟨rfl,_⟩ | ⟨g,cap,cur,rfl,_⟩
    · exact SlA.nil _
    · exact ⟨_,_,rfl,fun i x hx=>(by simp at hx),fun e=>(by cases e),Nat.zero_le _,Nat.zero_le _⟩
  · obtain ⟨g,cap,rfl,hg,hle,hcell⟩:=own_cells (enc:=encAu) (c:=4) (fun _=>rfl) h.own h0
    refine ⟨some ⟨g,0,none⟩,cap,by rw [List.length_map],fun i x hx=>?_,fun e=>(by cases e),by rw [List.length_map]; exact hle,by rw [List.length_map]; exact hl⟩
    rw [List.getElem?_map] at hx
    obtain ⟨p,hp,rfl⟩:=Option.map_eq_some_iff.1 hx
    obtain ⟨h0,lo,hi',h1,_⟩:=h.rows i p hp
    have k1:=h1 W (fun _=>False) (But.refl _ _) (fun _ h=>h.elim)
    refine ⟨g,0,p.2,rfl,hg,?_,?_,?_,?_,k1,h0.1,h0.2.1,h0.2.2⟩
    · have:=hcell i 0 p _ hp (by omega) rfl; simpa using this
    · have:=hcell i 1 p _ hp (by omega) rfl; simpa using this
    · have:=hcell i 2 p _ hp (by omega) rfl; simpa using this
    · have:=hcell i 3 p _ hp (by omega) rfl; simpa using this
theorem OwnA.keepR {B B' L L':Nat} {P:List (Ac × Value)} {gs:List (Int × Int)} {va vg:Value} {W:World} (h:OwnA B L P va W) (hg:OwnP 75 B' gs vg W) (hl:P.length≤1000) (hgl:gs.length≤1000) (hok:∀ x∈gs,okP x) (h1:L'≤B) (h2:L'≤B') (h3:L'≤L):KeepR L' W.heap.size ⟨P.map Prod.fst,gs⟩ va vg W:=fun W' D hb hd=>by
  have hb':But (fun k=>D k∧k<W.heap.size) W W':=hb.mono (fun k hk h=>⟨h,hk⟩)
  have hD:∀ k,L'≤k→¬ (D k∧k<W.heap.size):=fun k hk e=>by rcases hd k e.1 with e' | e' <;> omega
  refine ⟨?_,OwnP.sl (ownsRow_keep hg hb' (fun k hk=>hD k (Nat.le_trans h2 (World.ownsRow.lt hg k hk).1))) hok (by show gs.length≤_; omega)⟩
  refine OwnA.sl (B:=B) (L:=L') ⟨ownsRow_keep h.own hb' (fun k hk=>hD k (Nat.le_trans h1 (World.ownsRow.lt h.own k hk).1)),fun i p hp=>?_⟩ (by omega)
  obtain ⟨k0,lo,hi,k1,k2,k3,k4⟩:=h.rows i p hp
  exact ⟨k0,lo,hi,k1.keep hb' (fun k e=>by rcases hd k e.1 with e' | e' <;> omega),by omega,Nat.le_trans k3 hb'.size,k4⟩
def lastTo (g:List (Int × Int)) (t:Int):Int:=g.foldl (fun y g=>if g.1=t then g.2 else y) (-1)
theorem lastTo_take {g:List (Int × Int)} {k:Nat} (h:k<g.length) (t:Int):lastTo (g.take (k+1)) t=if g[k].1=t then g[k].2 else lastTo (g.take k) t:=by
  unfold lastTo
  rw [List.take_succ_eq_append_getElem h,List.foldl_append]
  rfl
theorem lastTo_go (f:Fl) (R:List (List Ir)) (l:List Ir) (t:Nat):∀ s:Nat,lastTo (goUp f R l s) t=if t<s then (toF f R l t).getD (-1) else -1
  | 0=>by simp [goUp,lastTo]
  | s+1=>by
    have ih:=lastTo_go f R l t s
    rw [goUp_succ]
    unfold lastTo at ih ⊢
    rw [List.foldl_append,ih]
    by_cases hm:movedL f l (s:Int)=[]
    · rw [if_pos hm,List.foldl_nil]
      by_cases h1:t<s
      · rw [if_pos h1,if_pos (by omega)]
      · rw [if_neg h1]
        by_cases h2:t=s
        · subst h2
          rw [if_pos (by omega)]
          unfold toF
          rw [if_pos hm]; rfl
        · rw [if_neg (by omega)]
    · rw [if_neg hm,List.foldl_cons,List.foldl_nil]
      by_cases h2:t=s
      · subst h2
        rw [if_pos rfl,if_pos (by omega)]
        unfold toF
        rw [if_neg hm]; rfl
      · rw [if_neg (by simp only; omega)]
        by_cases h1:t<s
        · rw [if_pos h1,if_pos (by omega)]
        · rw [if_neg h1,if_neg (by omega)]
noncomputable def actUp (f:Fl) (R:List (List Ir)) (l:List Ir) (t:Nat):List Ac:=((List.range t).map (actAt f R l)).filter someA
theorem actUp_succ (f:Fl) (R:List (List Ir)) (l:List Ir) (t:Nat):actUp f R l (t+1)=actUp f R l t++(if someA (actAt f R l t) then [actAt f R l t] else []):=by
  unfold actUp
  rw [List.range_succ,List.map_append,List.filter_append]
  congr 1
  by_cases h:someA (actAt f R l t) <;> simp [h]
theorem actUp_len (f:Fl) (R:List (List Ir)) (l:List Ir) (t:Nat):(actUp f R l t).length≤t:=by
  unfold actUp
  refine Nat.le_trans (List.length_filter_le _ _) ?_
  rw [List.length_map,List.length_range]
  exact Nat.le_refl _
theorem redL_one (f:Fl) (x:Ir) (t:Int):redL f [x] t=if nextI f x=none∧x.2.2=t∧0≤x.1 then [x.1] else []:=by
  unfold redL
  by_cases h:nextI f x=none∧x.2.2=t∧0≤x.1
  · rw [if_pos h]; simp [h]
  · rw [if_neg h,List.filter_cons,if_neg (by simpa using h)]; rfl
theorem accL_one (f:Fl) (x:Ir) (t:Int):accL f [x] t=decide (nextI f x=none∧x.2.2=t∧x.1<0):=by
  unfold accL
  rw [List.any_cons,List.any_nil,Bool.or_false]
set_option maxRecDepth 100000 in
set_option maxHeartbeats 4000000 in
theorem rbuild_any (f:Fl) (a:FlA) (w:World) (hf:FlAt f a w) (hb:fitB f=true) :
    Calls Tryz.prog 11 #[a.val f] w fun e w'=>Built f w e w':=by
  obtain ⟨ir,hir,hr0,hr1,hr2⟩:=info_parts infoRow
  obtain ⟨ig,hig,hg0,hg1,hg2⟩:=info_parts infoGo12
  obtain ⟨ia,hia,ha0,ha1,ha2⟩:=info_parts infoAct
  obtain ⟨ii,hii,hi0,hi1,hi2⟩:=info_parts infoInt1
  have hp:=fit_facts hb
  have hn6:f.terms.length+f.nons.length≤600:=hp.size
  obtain ⟨nn,hnn⟩:∃ nn,f.terms.length+f.nons.length=nn:=⟨_,rfl⟩
  have HNN:Hid (f.terms.length+f.nons.length=nn∧f.n=nn):=⟨hnn,hnn⟩
  have HWN:Hid (IntKind.i64.wrap ((f.terms.length:Int)+(f.nons.length:Int))=(nn:Int)):=by show _=_; rw [IntKind.wrap_i64]; omega
  have hnn6:nn≤600:=by omega
  have htm6:f.terms.length≤nn:=by omega
  have HAL:Hid (∀ W,Below w.heap.size w W→Calls Tryz.prog 34 #[a.val f] W fun e w'=>((∃ v' R,allF f=some R∧e=.returned (.tuple #[v',.int .i64 0])∧SlLL R v' w'∧R.length≤600∧∀ x∈R,x.length≤maxI)∨(allF f=none∧e=.returned (.tuple #[.slice none 0 0,.int .i64 15])))∧Below W.heap.size W w'):=fun W hW=>rall_any f a W (hf.next hW) hp
  have HGT:Hid (∀ (l:List Ir) (v:Value) (s:Nat) W,Below w.heap.size w W→SlL l v W→l.length≤maxI→Calls Tryz.prog 35 #[a.val f,v,.int .i64 s] W fun e w'=>∃ v',e=.returned v'∧SlL (gotoF f l s) v' w'∧Below W.heap.size W w'):=fun l v s W hW hl hll=>(rgoto_any f a l v s W (hf.next hW) hp hl (by unfold maxI at hll; omega)).mono (fun e w' ⟨v',L,h1,h2,h3,_,h5⟩=>⟨v',h1,by have e2:gotoF f l s=L:=closF_eq h2; rw [e2]; exact h3,h5⟩)
  have HNX:Hid (∀ x W,Below w.heap.size w W→Calls Tryz.prog 37 #[a.val f,valR x] W fun e w'=>e=.returned (.tuple #[.int .i64 ((nextI f x).getD 0),.bool (nextI f x).isSome])∧Below W.heap.size W w'):=fun x W hW=>rnext_item f a x W (hf.next hW) hn6
  obtain ⟨ta,tc,na,nc,pa,pc⟩:=a
  obtain ⟨w0,hw0⟩:∃ w0,(w.alloc (Obj.cells #[.slice ta f.terms.length tc,.slice na f.nons.length nc,.slice pa f.prods.length pc] 25)).alloc (Obj.cells #[.slice none 0 0] 30)=w0:=⟨_,rfl⟩
  have B0:Below w.heap.size w w0:=by rw [← hw0]; exact ((Below.refl _ _).alloc (Nat.le_refl _) _).alloc (by simp) _
  have d0:w0.cell? ⟨w.heap.size,0,none⟩=some (.slice ta f.terms.length tc):=by rw [← hw0]; simp
  have d1:w0.cell? ⟨w.heap.size,1,none⟩=some (.slice na f.nons.length nc):=by rw [← hw0]; simp
  have d2:w0.cell? ⟨w.heap.size,2,none⟩=some (.slice pa f.prods.length pc):=by rw [← hw0]; simp
  have hz:w0.heap[w.heap.size+1]?=some (Obj.cells #[.slice none 0 0] 30):=by rw [← hw0]; exact heap_alloc2_new _ _ _
  have hzl:w.heap.size+1<w0.heap.size:=(Array.getElem?_eq_some_iff.1 hz).1
  clear hf hnn hn6
  unfold FlA.val at *
  simp only at *
  go_enter Tryz.func11,Tryz.ntmps11
  go_upto_region 1 with fail
  try rw [hw0]
  clear hw0
  have HA:=HAL.out w0 B0
  go_wp2_with fail
  refine HA.mono ?_
  rintro e w1 ⟨h1,b1⟩
  have B1:Below w.heap.size w w1:=B0.trans (b1.mono B0.size)
  have hz1:w1.heap[w.heap.size+1]?=some (Obj.cells #[.slice none 0 0] 30):=(b1.block _ hzl).trans hz
  have D0:=(b1.cell (p:=⟨w.heap.size,0,none⟩) (Nat.lt_of_succ_lt hzl)).trans d0
  have D1:=(b1.cell (p:=⟨w.heap.size,1,none⟩) (Nat.lt_of_succ_lt hzl)).trans d1
  have D2:=(b1.cell (p:=⟨w.heap.size,2,none⟩) (Nat.lt_of_succ_lt hzl)).trans d2
  have hzl1:=Nat.lt_of_lt_of_le hzl b1.size
  clear HA HAL d0 d1 d2
  rcases h1 with ⟨v',R,k1,rfl,k2,k3,k4⟩ | ⟨k1,rfl⟩
  case inr =>
    have HNF:Hid (tabF f=none):=by show _=_; unfold tabF; rw [k1]; rfl
    have z0:w1.cell? ⟨w.heap.size+1,0,none⟩=some (.slice none 0 0):=by rw [Lib.cell_of_heap hz1]; rfl
    have fz:w1.frozen? ⟨w.heap.size+1,0,none⟩=false:=Lib.frozen_of_heap hz1 _
    have hz9:(w1.setCell ⟨w.heap.size+1,0,none⟩ (.slice none 0 0)).heap[w.heap.size+1]?=some (Obj.cells #[.slice none 0 0] 30):=by
      have h1:=blk_set (o:=0) hz1 (.slice none 0 0)
      simpa using h1
    have HB9:Hid (Below w.heap.size w (w1.setCell ⟨w.heap.size+1,0,none⟩ (.slice none 0 0))):=B1.setCell (by simp) _
    clear k1 HGT HNX D0 D1 D2
    go_wp2_with fail
    refine bodyPost_ret (results_cell_tmp rfl _ _ _ rfl rfl (run_loadVar_row _ _ _ _ _ _ _ hz9 Tryz.underlying30 rfl (by kernel_rfl))) rfl ?_
    exact ⟨.inr ⟨HNF.out,rfl⟩,HB9.out⟩
  have HTF:Hid (tabF f=some (R.map (rowT f R))):=by show _=_; unfold tabF; rw [k1]; rfl
  have HFD:Hid (∀ (l:List Ir) (u v:Value) W,SlLL R u W→SlL l v W→l.length≤maxI→Calls Tryz.prog 36 #[u,v] W fun e w'=>e=.returned (.int .i64 (findI R l))∧Below W.heap.size W w'):=fun l u v W h1 h2 h3=>rfind_any R l u v W h1 h2 (by omega) (fun x hx=>by have h4:=k4 x hx; unfold maxI at h4; omega) (by unfold maxI at h3; omega)
  obtain ⟨ra,rc,rfl,_⟩:=id k2
  have HK1:Hid (allF f=some R):=k1
  have HK4:Hid (∀ x∈R,x.length≤maxI):=k4
  have bt:Below w1.heap.size w1 (w1.alloc (Obj.cells #[.slice none 0 0] 30)):=(Below.refl _ _).alloc (Nat.le_refl _) _
  have hz3:(w1.alloc (Obj.cells #[.slice none 0 0] 30)).heap[w.heap.size+1]?=some (Obj.cells #[.slice none 0 0] 30):=(bt.block _ hzl1).trans hz1
  have htb:(w1.alloc (Obj.cells #[.slice none 0 0] 30)).heap[w1.heap.size]?=some (Obj.cells #[.slice none 0 0] 30):=heap_alloc_new _ _
  have B3:Below w.heap.size w (w1.alloc (Obj.cells #[.slice none 0 0] 30)):=B1.trans (bt.mono B1.size)
  -- what lies below the table's box stays
  have HLO:Hid (∀ W,Below w1.heap.size w1 W→Below w.heap.size w W∧SlLL R (.slice ra R.length rc) W∧W.cell? ⟨w.heap.size,0,none⟩=some (.slice ta f.terms.length tc)∧W.cell? ⟨w.heap.size,1,none⟩=some (.slice na f.nons.length nc)∧W.cell? ⟨w.heap.size,2,none⟩=some (.slice pa f.prods.length pc)):=fun W hW=>⟨B1.trans (hW.mono B1.size),k2.next hW,(hW.cell (p:=⟨w.heap.size,0,none⟩) (Nat.lt_of_succ_lt hzl1)).trans D0,(hW.cell (p:=⟨w.heap.size,1,none⟩) (Nat.lt_of_succ_lt hzl1)).trans D1,(hW.cell (p:=⟨w.heap.size,2,none⟩) (Nat.lt_of_succ_lt hzl1)).trans D2⟩
  obtain ⟨_,_,E0,_,_⟩:=HLO.out _ bt
  clear k2 k4 D1 D2 D0 hz1 hz
  go_wp2_with fail
  obtain ⟨tb,htbe⟩:∃ tb,w1.heap.size=tb:=⟨_,rfl⟩
  have htz:w.heap.size+1<tb:=by omega
  rw [htbe] at htb HLO ⊢
  generalize w1.alloc (Obj.cells #[.slice none 0 0] 30)=w3 at *
  have htl:tb<w3.heap.size:=(Array.getElem?_eq_some_iff.1 htb).1
  have HLW:Hid (∀ W,Below tb w3 W→Below tb w1 W):=fun W hW=>by
    have h1:=bt
    rw [htbe] at h1
    exact h1.trans hW
  clear E0
  go_loopw [8] (fun iv wr=>∃ (i:Nat) (vs:List (Value × Value)) (vt:Value),iv=.int .i64 i∧i≤R.length∧wr.heap[tb]?=some (Obj.cells #[vt] 30)∧OwnW w3.heap.size w3.heap.size ((R.take i).map (rowT f R)) vs vt wr∧But (fun k=>k=tb) w3 wr) (fun i _=>R.length - (Go.RowKit.intOf i).toNat)
  case atStart=>exact ⟨0,[],.slice none 0 0,rfl,Nat.zero_le _,htb,by simpa using OwnW.nil _ _ _,But.refl _ _⟩
  case round =>
  obtain ⟨i,vs,vt,rfl,hi,hbx,hO,BR⟩:=hrel
  obtain ⟨vta,vtc,rfl⟩:=slice_of_ownK hO.own
  have hLow:=HLW.out wr (BR.below (Nat.le_of_lt htl) (fun k e=>Nat.le_of_eq e.symm))
  have hbr:=BR.size
  have hvle:vs.length≤600:=by
    have:=hO.len
    rw [List.length_map,List.length_take] at this
    omega
  by_cases hlt:i<R.length
  case neg =>
    obtain rfl:i=R.length:=by omega
    rw [List.take_of_length_le (Nat.le_refl _)] at hO
    have hBW:=(HLO.out wr hLow).1
    have hbs:=hBW.size
    have hzr:wr.heap[w.heap.size+1]?=some (Obj.cells #[.slice none 0 0] 30):=(BR.block _ (Array.getElem?_eq_some_iff.1 hz3).1 (fun e=>by omega)).trans hz3
    have c0:wr.cell? ⟨tb,0,none⟩=some (.slice vta vs.length vtc):=by rw [Lib.cell_of_heap hbx]; rfl
    have z0:wr.cell? ⟨w.heap.size+1,0,none⟩=some (.slice none 0 0):=by rw [Lib.cell_of_heap hzr]; rfl
    have fz:wr.frozen? ⟨w.heap.size+1,0,none⟩=false:=Lib.frozen_of_heap hzr _
    have hz9:(wr.setCell ⟨w.heap.size+1,0,none⟩ (.slice vta vs.length vtc)).heap[w.heap.size+1]?=some (Obj.cells #[.slice vta vs.length vtc] 30):=by
      have h1:=blk_set (o:=0) hzr (.slice vta vs.length vtc)
      simpa using h1
    have hB9:But (fun k=>k=w.heap.size+1) wr (wr.setCell ⟨w.heap.size+1,0,none⟩ (.slice vta vs.length vtc)):=(But.refl _ wr).setCell _ _ (.inr rfl)
    have hO9:=hO.keep hB9 (fun k e=>by omega) (fun k hk e=>by have:=(World.ownsRow.lt hO.own k hk).1; omega)
    have HR:Hid (SlW (R.map (rowT f R)) (.slice vta vs.length vtc) (wr.setCell ⟨w.heap.size+1,0,none⟩ (.slice vta vs.length vtc))∧Below w.heap.size w (wr.setCell ⟨w.heap.size+1,0,none⟩ (.slice vta vs.length vtc))):=⟨hO9.sl (by rw [List.length_map]; omega),hBW.trans (hB9.below hbs (fun k e=>by omega))⟩
    clear hO hO9 hB9 HGT HNX HFD HLO
    go_wp2_with fail
    refine bodyPost_ret (results_cell_tmp rfl _ _ _ rfl rfl (run_loadVar_row _ _ _ _ _ _ _ hz9 Tryz.underlying30 rfl (by kernel_rfl))) rfl ?_
    exact ⟨.inl ⟨_,_,HTF.out,rfl,HR.out.1,by rw [List.length_map]; exact k3⟩,HR.out.2⟩
  -- a row
  have HLL:Hid (R[i].length≤maxI):=HK4.out _ (List.getElem_mem hlt)
  have HRI:Hid (∃ l,R[i]=l∧R[i]?=some l):=⟨_,rfl,List.getElem?_eq_getElem hlt⟩
  have HTK:Hid ((R.take (i+1)).map (rowT f R)=(R.take i).map (rowT f R)++[rowT f R R[i]]):=by
    show _=_
    rw [List.take_succ_eq_append_getElem hlt,List.map_append]; rfl
  have HSI:Hid (∀ W,Below tb w1 W→∃ b2 o2 ua uc,ra=some ⟨b2,o2,none⟩∧b2<W.heap.size∧W.cell? ⟨b2,o2+i,none⟩=some (.slice ua R[i].length uc)∧SlL R[i] (.slice ua R[i].length uc) W):=fun W hW=>by
    obtain ⟨_,h2,_⟩:=HLO.out W hW
    obtain ⟨_,_,e0,hrl,_⟩:=h2
    cases e0
    obtain ⟨b2,o2,u,h3,hb2,c0,hsl⟩:=hrl.at (Below.refl _ _) hlt
    obtain ⟨ua,uc,rfl,_⟩:=id hsl
    exact ⟨b2,o2,ua,uc,h3,hb2,c0,hsl⟩
  obtain ⟨l,hle,hl⟩:=HRI.out
  rw [hle] at HLL HTK HSI
  clear hle
  have HO:Hid (OwnW w3.heap.size w3.heap.size ((R.take i).map (rowT f R)) vs (.slice vta vs.length vtc) wr):=hO
  have HBX:Hid (wr.heap[tb]?=some (Obj.cells #[.slice vta vs.length vtc] 30)):=hbx
  have HBR:Hid (But (fun k=>k=tb) w3 wr):=BR
  have hfit:=(sets_fit hp HK1.out (List.mem_of_getElem? hl))
  have HFIT:Hid (RisingI l∧∀ x∈l,fitI f x=true):=hfit
  have hlm:l.length≤16000000:=by have:=HLL.out; unfold maxI at this; exact this
  have HLI:Hid (Below tb w1 wr):=hLow
  obtain ⟨rb,hrb⟩:∃ rb,wr.heap.size=rb:=⟨_,rfl⟩
  have brr:Below wr.heap.size wr (wr.alloc (Obj.cells #[.slice none 0 0,.slice none 0 0] 68)):=(Below.refl _ _).alloc (Nat.le_refl _) _
  have hrbx:(wr.alloc (Obj.cells #[.slice none 0 0,.slice none 0 0] 68)).heap[wr.heap.size]?=some (Obj.cells #[.slice none 0 0,.slice none 0 0] 68):=heap_alloc_new _ _
  rw [hrb] at hrbx
  clear hO hbx BR hLow hfit
  go_upto_region 10 with fail
  try rw [hrb]
  generalize hwi:wr=wi at *
  generalize wi.alloc (Obj.cells #[.slice none 0 0,.slice none 0 0] 68)=wA at *
  clear hwi
  have hrbl:rb<wA.heap.size:=(Array.getElem?_eq_some_iff.1 hrbx).1
  have htr:tb<rb:=by have:=HBX.out; have:=(Array.getElem?_eq_some_iff.1 this).1; omega
  have HLA:Hid (∀ W,Below rb wA W→Below tb w1 W):=fun W hW=>by
    have h1:=HLI.out
    have h2:=brr
    rw [hrb] at h2
    exact h1.trans ((h2.trans hW).mono (Nat.le_of_lt htr))
  go_wp2_with fail
  go_loopw [10] (fun iv wr=>∃ (s:Nat) (vg:Value),iv=.int .i64 s∧s≤nn∧wr.heap[rb]?=some (Obj.cells #[.slice none 0 0,vg] 68)∧OwnP 75 wA.heap.size (goUp f R l s) vg wr∧But (fun k=>k=rb) wA wr) (fun i _=>nn - (Go.RowKit.intOf i).toNat)
  case atStart=>exact ⟨0,.slice none 0 0,rfl,Nat.zero_le _,hrbx,by simpa [goUp] using OwnP.nil _ _ _,But.refl _ _⟩
  case round =>
  obtain ⟨s,vg,rfl,hs,hgx,hG,BG⟩:=hrel
  obtain ⟨vga,vgc,rfl⟩:=slice_of_ownK hG
  have hLow:=HLA.out wr (BG.below (Nat.le_of_lt hrbl) (fun k e=>Nat.le_of_eq e.symm))
  obtain ⟨hBW,hSR,x0,x1,x2⟩:=HLO.out wr hLow
  have hwn:=HWN.out
  have hgl:(goUp f R l s).length≤600:=Nat.le_trans (goUp_len f R l s) (by omega)
  by_cases hsl:s<nn
  case pos =>
    obtain ⟨b2,o2,ua,uc,e0,hb2,c0,hsl2⟩:=HSI.out wr hLow
    cases e0
    have HGC:=HGT.out l _ s wr.drew hBW.drew (hsl2.next (Below.refl _ wr).drew) HLL.out
    have HGH:Hid (Calls Tryz.prog 35 #[.agg #[.slice ta f.terms.length tc,.slice na f.nons.length nc,.slice pa f.prods.length pc],.slice ua l.length uc,.int .i64 s] wr.drew fun e w'=>∃ v',e=.returned v'∧SlL (gotoF f l s) v' w'∧Below wr.drew.heap.size wr.drew w'):=HGC
    have hS0:(fun W:World=>(W.cell? ⟨w.heap.size,0,none⟩=some (.slice ta f.terms.length tc)∧W.cell? ⟨w.heap.size,1,none⟩=some (.slice na f.nons.length nc)∧W.cell? ⟨w.heap.size,2,none⟩=some (.slice pa f.prods.length pc)∧W.cell? ⟨b2,o2+i,none⟩=some (.slice ua l.length uc))) wr.drew:=⟨x0,x1,x2,c0⟩
    have HG:Hid (wr.heap[rb]?=some (Obj.cells #[.slice none 0 0,.slice vga (goUp f R l s).length vgc] 68)∧OwnP 75 wA.heap.size (goUp f R l s) (.slice vga (goUp f R l s).length vgc) wr∧But (fun k=>k=rb) wA wr):=⟨hgx,hG,BG⟩
    have hgb:=BG.size
    clear HGC hG BG hSR hsl2
    go_upto_region 13 with fail
    clear hwn
    refine wp_region_L (fun W=>W.cell? ⟨w.heap.size,0,none⟩=some (.slice ta f.terms.length tc)∧W.cell? ⟨w.heap.size,1,none⟩=some (.slice na f.nons.length nc)∧W.cell? ⟨w.heap.size,2,none⟩=some (.slice pa f.prods.length pc)∧W.cell? ⟨b2,o2+i,none⟩=some (.slice ua l.length uc)) 8 (by kernel_rfl) 8 rfl ?_
    refine tk 0 ⟨some 50,.load 25 (.tmp 1),25, "ref.go:26",#[],none⟩ hS0 ?_;simp only [Act.put,sA,s0,sS]
    refine tk 1 ⟨some 51,.move (.tmp 4),59, "ref.go:26",#[],none⟩ hS0 ?_;simp only [Act.put,sA,s0,sS]
    refine tk 2 ⟨some 52,.move (.tmp 8),3, "ref.go:26",#[],none⟩ hS0 ?_;simp only [Act.put,sA,s0,sS]
    refine tk 3 ⟨some 53,.indexAddr 59 (.tmp 51) (.tmp 52),0, "ref.go:26",#[⟨1,.data⟩,⟨2,.data⟩],none⟩ hS0 ?_;simp only [Act.put,sA,s0,sS]
    refine tk 4 ⟨some 54,.load 64 (.tmp 53),64, "ref.go:26",#[⟨3,.data⟩],none⟩ hS0 ?_;simp only [Act.put,sA,s0,sS]
    refine tk 5 ⟨some 55,.move (.tmp 10),3, "ref.go:26",#[],none⟩ hS0 ?_;simp only [Act.put,sA,s0,sS]
    refine wpAnyL_one' (i:=6) (o:=⟨some 56,.call ⟨.value (.func 35),#[.tmp 50,.tmp 54,.tmp 55],#[25,64,3]⟩,64, "ref.go:26",#[⟨0,.data⟩,⟨4,.data⟩,⟨5,.data⟩],none⟩) (by kernel_rfl) rfl rfl (fun KQ hK=>?_)
    go_simp
    refine HGH.out.mono ?_
    rintro e w6 ⟨gv,rfl,hgv,b6⟩
    have b6':Below wr.heap.size wr w6:=(Below.refl _ wr).drew.trans b6
    have hL6:=hLow.trans (b6'.mono (Nat.le_trans (Nat.le_of_lt (Nat.lt_trans htr hrbl)) hgb))
    obtain ⟨_,_,p0,p1,p2⟩:=HLO.out w6 hL6
    have hS1:(fun W:World=>(W.cell? ⟨w.heap.size,0,none⟩=some (.slice ta f.terms.length tc)∧W.cell? ⟨w.heap.size,1,none⟩=some (.slice na f.nons.length nc)∧W.cell? ⟨w.heap.size,2,none⟩=some (.slice pa f.prods.length pc)∧W.cell? ⟨b2,o2+i,none⟩=some (.slice ua l.length uc))) w6:=⟨p0,p1,p2,(b6'.cell (p:=⟨b2,o2+i,none⟩) hb2).trans c0⟩
    refine hK.out _ _ (fun _=>hS1) ?_
    clear hK
    obtain ⟨gva,gvc,rfl,_⟩:=id hgv
    refine tk 7 ⟨some 11,.assign (.tmp 56),64, "ref.go:26",#[⟨6,.data⟩,⟨6,.chain⟩,⟨0,.phase⟩,⟨1,.phase⟩,⟨2,.phase⟩,⟨3,.phase⟩,⟨4,.phase⟩,⟨5,.phase⟩,⟨6,.phase⟩],none⟩ hS1 ?_;simp only [Act.put,sA,s0,sS]
    refine wpAnyL_done (by kernel_rfl) ?_ _
    have HGV:Hid (SlL (gotoF f l s) (.slice gva (gotoF f l s).length gvc) w6):=hgv
    have hg6:w6.heap[rb]?=some (Obj.cells #[.slice none 0 0,.slice vga (goUp f R l s).length vgc] 68):=(b6'.block _ (Array.getElem?_eq_some_iff.1 HG.out.1).1).trans HG.out.1
    have HO6:Hid (OwnP 75 wA.heap.size (goUp f R l s) (.slice vga (goUp f R l s).length vgc) w6∧But (fun k=>k=rb) wA w6):=⟨ownsRow_keep (D:=fun _=>False) HG.out.2.1 (But.of_next b6') (fun _ _ h=>h),HG.out.2.2.trans (But.of_next b6')⟩
    have HGE:Hid ((movedL f l (s:Int)=[]↔(gotoF f l s).length=0)):=by
      show _↔_
      unfold gotoF
      constructor
      · intro h; rw [h,closF_nil hp]; rfl
      · intro h
        refine Classical.not_not.1 (fun hm=>?_)
        exact closF_ne hp (movedL_kern HFIT.out.1 hm) (List.eq_nil_of_length_eq_zero h)
    have HSR6:Hid (SlLL R (.slice (some ⟨b2,o2,none⟩) R.length rc) w6):=(HLO.out w6 hL6).2.1
    have HGL:Hid ((gotoF f l s).length≤maxI):=closF_len hp _
    clear hS0 hS1 HGH hgv HG c0 p0 p1 p2 hgx
    by_cases hg0':(gotoF f l s).length=0
    · have hmv:=HGE.out.2 hg0'
      have HF:Hid (∃ vg,w6.heap[rb]?=some (Obj.cells #[.slice none 0 0,vg] 68)∧OwnP 75 wA.heap.size (goUp f R l (s+1)) vg w6∧But (fun k=>k=rb) wA w6):=⟨_,hg6,by rw [goUp_succ,if_pos hmv,List.append_nil]; exact HO6.out.1,HO6.out.2⟩
      rw [hg0']
      clear HO6 hg6 HGV HSR6 hmv
      go_wp2_with fail
      exact ⟨⟨s+1,HF.out.choose,by go_num,by omega,HF.out.choose_spec⟩,by simp [Go.RowKit.intOf]; omega⟩
    have hmv:movedL f l (s:Int)≠[]:=fun h=>hg0' (HGE.out.1 h)
    have hgt:((gotoF f l s).length:Int) > 0:=by omega
    have hgd:decide (((gotoF f l s).length:Int) > 0)=true:=decide_eq_true hgt
    have HFC:Hid (Calls Tryz.prog 36 #[.slice (some ⟨b2,o2,none⟩) R.length rc,.slice gva (gotoF f l s).length gvc] w6.drew fun e w'=>e=.returned (.int .i64 (findI R (gotoF f l s)))∧Below w6.drew.heap.size w6.drew w'):=HFD.out _ _ _ w6.drew (HSR6.out.next (Below.refl _ _).drew) (HGV.out.next (Below.refl _ _).drew) HGL.out
    have HGO:Hid (goUp f R l (s+1)=goUp f R l s++[((s:Int),(findI R (gotoF f l s):Int))]):=by
      show _=_
      rw [goUp_succ,if_neg hmv]
    have hS0:(fun W:World=>(W.cell? ⟨rb,1,none⟩=some (.slice vga (goUp f R l s).length vgc))) w6.drew:=by
      show w6.cell? _=_
      rw [Lib.cell_of_heap hg6]; rfl
    clear HGV HSR6 HGE hmv
    generalize (gotoF f l s).length=gn at *
    generalize findI R (gotoF f l s)=fi at *
    go_upto_region 15 with fail
    refine wp_region_L (fun W=>W.cell? ⟨rb,1,none⟩=some (.slice vga (goUp f R l s).length vgc)) 10 (by kernel_rfl) 11 rfl ?_
    refine tk 0 ⟨some 60,.fieldAddr 68 (.tmp 9) 1,0, "ref.go:28",#[],none⟩ hS0 ?_;simp only [Act.put,sA,s0,sS]
    refine tk 1 ⟨some 61,.load 66 (.tmp 60),66, "ref.go:28",#[⟨0,.data⟩],none⟩ hS0 ?_;simp only [Act.put,sA,s0,sS]
    refine tk 2 ⟨some 62,.move (.tmp 10),3, "ref.go:28",#[],none⟩ hS0 ?_;simp only [Act.put,sA,s0,sS]
    refine tk 3 ⟨some 63,.move (.tmp 4),59, "ref.go:28",#[],none⟩ hS0 ?_;simp only [Act.put,sA,s0,sS]
    refine tk 4 ⟨some 64,.move (.tmp 11),64, "ref.go:28",#[],none⟩ hS0 ?_;simp only [Act.put,sA,s0,sS]
    refine wpAnyL_one' (i:=5) (o:=⟨some 65,.call ⟨.value (.func 36),#[.tmp 63,.tmp 64],#[59,64]⟩,3, "ref.go:28",#[⟨3,.data⟩,⟨4,.data⟩],none⟩) (by kernel_rfl) rfl rfl (fun KQ hK=>?_)
    go_simp
    refine HFC.out.mono ?_
    rintro e w7 ⟨rfl,b7⟩
    have b7':Below w6.heap.size w6 w7:=(Below.refl _ w6).drew.trans b7
    have hg7:w7.heap[rb]?=some (Obj.cells #[.slice none 0 0,.slice vga (goUp f R l s).length vgc] 68):=(b7'.block _ (Array.getElem?_eq_some_iff.1 hg6).1).trans hg6
    have hS1:w7.cell? ⟨rb,1,none⟩=some (.slice vga (goUp f R l s).length vgc):=by rw [Lib.cell_of_heap hg7]; rfl
    refine hK.out _ _ (fun _=>hS1) ?_
    clear hK
    have ba:Below w7.heap.size w7 (w7.alloc (Obj.cells #[.int .i64 s,.int .i64 fi] 75)):=(Below.refl _ _).alloc (Nat.le_refl _) _
    have hga:(w7.alloc (Obj.cells #[.int .i64 s,.int .i64 fi] 75)).heap[rb]?=some (Obj.cells #[.slice none 0 0,.slice vga (goUp f R l s).length vgc] 68):=(ba.block _ (Array.getElem?_eq_some_iff.1 hg7).1).trans hg7
    have hSa:(w7.alloc (Obj.cells #[.int .i64 s,.int .i64 fi] 75)).cell? ⟨rb,1,none⟩=some (.slice vga (goUp f R l s).length vgc):=by rw [Lib.cell_of_heap hga]; rfl
    have HOa:Hid ((w7.alloc (Obj.cells #[.int .i64 s,.int .i64 fi] 75)).ownsRow wA.heap.size 75 2 (.slice vga (goUp f R l s).length vgc) (goUp f R l s).length ((goUp f R l s).flatMap encP)∧But (fun k=>k=rb) wA (w7.alloc (Obj.cells #[.int .i64 s,.int .i64 fi] 75))):=⟨ownsRow_keep (D:=fun _=>False) HO6.out.1 (But.of_next (b7'.trans (ba.mono b7'.size))) (fun _ _ h=>h),HO6.out.2.trans (But.of_next (b7'.trans (ba.mono b7'.size)))⟩
    have HN2:∀ (i:Nat) (u:Value),[Value.int .i64 s,.int .i64 fi][i]?=some u→(w7.alloc (Obj.cells #[.int .i64 s,.int .i64 fi] 75)).cell? ((⟨w7.heap.size,0,none⟩:Addr).add i)=some u:=fun i u hi=>by
      rw [add_plain,Nat.zero_add]
      rcases i with _ | _ | i <;> simp at hi <;> subst hi <;> simp
    have hszn:wA.heap.size≤(w7.alloc (Obj.cells #[.int .i64 s,.int .i64 fi] 75)).heap.size:=HOa.out.2.size
    refine tk 6 ⟨some 66,.build 75 #[(0,.tmp 62),(1,.tmp 65)],75, "ref.go:28",#[⟨2,.data⟩,⟨5,.data⟩],none⟩ hS1 ?_;simp only [Act.put,sA,s0,sS]
    refine wpAnyL_one' (i:=7) (o:=⟨some 67,.buildSlice 66 1 #[(0,.tmp 66)],66, "ref.go:28",#[⟨6,.data⟩],none⟩) (by kernel_rfl) rfl rfl (fun KQ hK=>?_)
    go_simp
    refine hK.out _ _ (fun _=>hSa) ?_
    clear hK
    refine wpAnyL_one' (i:=8) (o:=⟨some 68,.call ⟨.builtin .append,#[.tmp 61,.tmp 67],#[66,66]⟩,66, "ref.go:28",#[⟨1,.data⟩,⟨7,.data⟩,⟨5,.chain⟩],none⟩) (by kernel_rfl) rfl rfl (fun KQ hK=>?_)
    rw [if_pos (by rfl)]
    refine wp_append_ownq (.tmp 61) (.tmp 67) 66 rfl wA.heap.size 75 ig _ 2 16 Tryz.underlying66 hig hg0 hg1 hg2 rfl (by decide) _ _ _ rfl HOa.out.1 ⟨w7.heap.size,0,none⟩ 1 [.int .i64 s,.int .i64 fi] rfl rfl HN2 (by simp [Value.oneCell']) (by unfold maxLen; omega) (by omega) hszn ?_
    intro v' w8 hown' hgrow hat
    have hvb:∀ k,(Value.slice vga (goUp f R l s).length vgc).ownBlock=some k→wA.heap.size≤k:=fun k hk=>(World.ownsRow.lt HOa.out.1 k hk).1
    have hg8:w8.heap[rb]?=some (Obj.cells #[.slice none 0 0,.slice vga (goUp f R l s).length vgc] 68):=(hgrow.block _ (Array.getElem?_eq_some_iff.1 hga).1 (fun e=>by have:=hvb rb e.symm; omega)).trans hga
    have hS8:w8.cell? ⟨rb,1,none⟩=some (.slice vga (goUp f R l s).length vgc):=by rw [Lib.cell_of_heap hg8]; rfl
    have hf8:w8.frozen? ⟨rb,1,none⟩=false:=Lib.frozen_of_heap hg8 _
    obtain ⟨va',vc',rfl⟩:=slice_of_ownK hown'
    have hba:=HOa.out.2
    have HF:Hid ((w8.setCell ⟨rb,1,none⟩ (.slice va' ((goUp f R l s).length+1) vc')).heap[rb]?=some (Obj.cells #[.slice none 0 0,.slice va' ((goUp f R l s).length+1) vc'] 68)∧OwnP 75 wA.heap.size (goUp f R l (s+1)) (.slice va' ((goUp f R l s).length+1) vc') (w8.setCell ⟨rb,1,none⟩ (.slice va' ((goUp f R l s).length+1) vc'))∧But (fun k=>k=rb) wA (w8.setCell ⟨rb,1,none⟩ (.slice va' ((goUp f R l s).length+1) vc'))):=by
      refine ⟨?_,?_,?_⟩
      · have h1:=blk_set (o:=1) hg8 (.slice va' ((goUp f R l s).length+1) vc')
        simpa using h1
      · have h1:OwnP 75 wA.heap.size (goUp f R l (s+1)) (.slice va' ((goUp f R l s).length+1) vc') w8:=by
          unfold OwnP
          rw [HGO.out,List.length_append,List.flatMap_append]
          exact hown'
        exact ownsRow_keep (D:=fun k=>k=rb) h1 ((But.refl _ w8).setCell _ _ (.inr rfl)) (fun k hk e=>by have:=(World.ownsRow.lt hown' k hk).1; omega)
      · refine But.setCell ⟨hgrow.os.trans hba.os,hgrow.tape.trans hba.tape,hgrow.output.trans hba.output,Nat.le_trans hba.size hgrow.size,fun k hk hd=>(hgrow.block k (Nat.lt_of_lt_of_le hk hba.size) (fun e=>?_)).trans (hba.block k hk hd)⟩ _ _ (.inr rfl)
        have:=hvb k e.symm
        omega
    refine hK.out _ _ (fun _=>hS8) ?_
    clear hK hown' hgrow hat
    simp only [Act.put,sA,s0,sS]
    refine tk 9 ⟨some 69,.fieldAddr 68 (.tmp 9) 1,0, "ref.go:28",#[⟨0,.phase⟩,⟨1,.phase⟩,⟨2,.phase⟩,⟨3,.phase⟩,⟨4,.phase⟩,⟨5,.phase⟩,⟨6,.phase⟩,⟨7,.phase⟩,⟨8,.phase⟩],none⟩ hS8 ?_;simp only [Act.put,sA,s0,sS]
    refine wpAnyL_one' (i:=10) (o:=⟨none,.store 66 (.tmp 69) (.tmp 68),0, "ref.go:28",#[⟨9,.data⟩,⟨8,.data⟩,⟨8,.chain⟩,⟨0,.phase⟩,⟨1,.phase⟩,⟨2,.phase⟩,⟨3,.phase⟩,⟨4,.phase⟩,⟨5,.phase⟩,⟨6,.phase⟩,⟨7,.phase⟩,⟨8,.phase⟩],none⟩) (by kernel_rfl) rfl rfl (fun KQ hK=>?_)
    go_simp
    refine hK.out _ _ (fun h=>absurd h (by omega)) ?_
    clear hK
    refine wpAnyL_done (by kernel_rfl) ?_ _
    clear hS0 hS1 hSa hS8 hf8 HOa HO6 HFC HGO HN2 hg6 hg7 hga hg8
    go_wp2_with fail
    exact ⟨⟨s+1,_,by go_num,by omega,HF.out⟩,by simp [Go.RowKit.intOf]; omega⟩
  obtain rfl:s=nn:=by omega
  have HGR:Hid (goUp f R l s=goRow f R l):=by
    show goUp f R l s=goUp f R l f.n
    rw [HNN.out.2]
  have HGB:Hid (OwnP 75 wA.heap.size (goUp f R l s) (.slice vga (goUp f R l s).length vgc) wr):=hG
  have HBA:Hid (But (fun k=>k=rb) wA wr):=BG
  have hwab:=BG.size
  have HGOK:Hid (∀ x∈goUp f R l s,okP x):=goUp_ok hnn6 k3
  have HLT:Hid (∀ t:Nat,t<f.terms.length→lastTo (goUp f R l s) t=(toF f R l t).getD (-1)):=fun t ht=>by
    show lastTo (goUp f R l s) t=_
    rw [lastTo_go,if_pos (by omega)]
  clear hG BG hSR x2
  go_upto_region 16 with fail
  clear x0 x1
  clear hwn
  go_wp2_with fail
  generalize hwb:wr=wB at *
  clear hwb
  have hgx0:=hgx
  have hlb:=Nat.lt_of_lt_of_le hrbl hwab
  generalize hgs:goUp f R l s=gs at *
  clear hgs
  have HLB:Hid (∀ W,Below rb wB W→Below tb w1 W):=fun W hW=>HLA.out W ((HBA.out.below (Nat.le_of_lt hrbl) (fun k e=>Nat.le_of_eq e.symm)).trans hW)
  go_loopw [12] (fun iv wr=>∃ (t:Nat) (P:List (Ac × Value)) (va:Value),iv=.int .i64 t∧t≤f.terms.length+1∧wr.heap[rb]?=some (Obj.cells #[va,.slice vga gs.length vgc] 68)∧OwnA wB.heap.size wB.heap.size P va wr∧P.map Prod.fst=actUp f R l t∧But (fun k=>k=rb) wB wr) (fun i _=>f.terms.length+1 - (Go.RowKit.intOf i).toNat)
  case atStart=>exact ⟨0,[],.slice none 0 0,rfl,Nat.zero_le _,hgx,OwnA.nil _ _ _,rfl,But.refl _ _⟩
  case round =>
  clear hgx
  obtain ⟨t,P,va,rfl,ht,hax,hA,hPm,BL⟩:=hrel
  obtain ⟨vaa,vac,rfl⟩:=slice_of_ownK hA.own
  have hLow:=HLB.out wr (BL.below (Nat.le_of_lt hlb) (fun k e=>Nat.le_of_eq e.symm))
  have hPl:P.length≤601:=by
    have h1:=actUp_len f R l t
    rw [← hPm,List.length_map] at h1
    omega
  have hbl:=BL.size
  by_cases htl:t≤f.terms.length
  case neg =>
    obtain rfl:t=f.terms.length+1:=by omega
    have HAR:Hid (P.map Prod.fst=actRow f R l):=hPm
    have hGk:=ownsRow_keep (show wB.ownsRow _ _ _ _ _ _ from HGB.out) BL (fun k hk e=>by have:=(World.ownsRow.lt HGB.out k hk).1; omega)
    have hKR:KeepR rb wr.heap.size ⟨P.map Prod.fst,gs⟩ (.slice vaa P.length vac) (.slice vga gs.length vgc) wr:=hA.keepR (gs:=gs) (B':=wA.heap.size) hGk (by omega) (by have:=hgl; omega) HGOK.out (by omega) (by omega) (by omega)
    have hrt:rowT f R l=⟨P.map Prod.fst,gs⟩:=by unfold rowT; rw [HAR.out,HGR.out]
    rw [← hrt] at hKR
    have bIA:But (fun _=>False) wi wr:=(((But.of_next (show Below wi.heap.size wi wA from brr)).trans (HBA.out.trans BL)):But (fun k=>k=rb) wi wr).mono (fun k hk e=>by omega)
    have hOr:=HO.out.keep bIA (fun k e=>e.elim) (fun k hk e=>e)
    have hbxr:wr.heap[tb]?=some (Obj.cells #[.slice vta vs.length vtc] 30):=(bIA.block _ (Array.getElem?_eq_some_iff.1 HBX.out).1 (fun e=>e)).trans HBX.out
    have q0:wr.cell? ⟨rb,0,none⟩=some (.slice vaa P.length vac):=by rw [Lib.cell_of_heap hax]; rfl
    have q1:wr.cell? ⟨rb,1,none⟩=some (.slice vga gs.length vgc):=by rw [Lib.cell_of_heap hax]; rfl
    have q2:wr.cell? ⟨tb,0,none⟩=some (.slice vta vs.length vtc):=by rw [Lib.cell_of_heap hbxr]; rfl
    have ba:Below wr.heap.size wr (wr.alloc (Obj.cells #[.slice vaa P.length vac,.slice vga gs.length vgc] 68)):=(Below.refl _ _).alloc (Nat.le_refl _) _
    have HKR:Hid (KeepR rb wr.heap.size (rowT f R l) (.slice vaa P.length vac) (.slice vga gs.length vgc) (wr.alloc (Obj.cells #[.slice vaa P.length vac,.slice vga gs.length vgc] 68))):=hKR.keep (D:=fun _=>False) (But.of_next ba) (fun _ h=>h.elim)
    have HOa:Hid (OwnW w3.heap.size w3.heap.size ((R.take i).map (rowT f R)) vs (.slice vta vs.length vtc) (wr.alloc (Obj.cells #[.slice vaa P.length vac,.slice vga gs.length vgc] 68))):=hOr.next ba
    have HON:Hid ((wr.alloc (Obj.cells #[.slice vaa P.length vac,.slice vga gs.length vgc] 68)).ownsRow w3.heap.size 68 2 (.slice vta vs.length vtc) vs.length (vs.flatMap encV)):=HOa.out.own
    have HBXa:Hid ((wr.alloc (Obj.cells #[.slice vaa P.length vac,.slice vga gs.length vgc] 68)).heap[tb]?=some (Obj.cells #[.slice vta vs.length vtc] 30)):=(ba.block _ (Array.getElem?_eq_some_iff.1 hbxr).1).trans hbxr
    have HB3:Hid (But (fun k=>k=tb) w3 (wr.alloc (Obj.cells #[.slice vaa P.length vac,.slice vga gs.length vgc] 68))):=(HBR.out.trans (bIA.mono (fun _ _ h=>h.elim))).trans (But.of_next ba)
    have HN2:∀ (i:Nat) (u:Value),[Value.slice vaa P.length vac,.slice vga gs.length vgc][i]?=some u→(wr.alloc (Obj.cells #[.slice vaa P.length vac,.slice vga gs.length vgc] 68)).cell? ((⟨wr.heap.size,0,none⟩:Addr).add i)=some u:=fun i u hi=>by
      rw [add_plain,Nat.zero_add]
      rcases i with _ | _ | i <;> simp at hi <;> subst hi <;> simp
    have hszn:w3.heap.size≤(wr.alloc (Obj.cells #[.slice vaa P.length vac,.slice vga gs.length vgc] 68)).heap.size:=HB3.out.size
    have HVI:Hid (∀ k,(Value.slice vta vs.length vtc).ownBlock=some k→k<rb):=fun k hk=>by have:=(World.ownsRow.lt HO.out.own k hk).2; omega
    have htnl:¬ ((f.terms.length+1:Nat):Int)≤(f.terms.length:Int):=by omega
    clear hKR hrt hOr hA hGk hbxr HGB HAR hPm hax
    generalize P.length=pl at *
    generalize gs.length=gl at *
    generalize f.terms.length+1=tz at *
    go_wp2_with (at_builtin; refine wpList_append_own_at _ rfl (.tmp 164) (.tmp 166) 28 rfl w3.heap.size 68 ir _ 2 48 Tryz.underlying28 hir hr0 hr1 hr2 rfl (by omega) _ _ _ rfl HON.out _ 1 1 [.slice vaa pl vac,.slice vga gl vgc] rfl rfl HN2 (by simp [Value.oneCell']) (by unfold maxLen; omega) (by omega) hszn ?_)
    intro v' w8 hown' hgrow _ hat
    have hbx8:w8.heap[tb]?=some (Obj.cells #[.slice vta vs.length vtc] 30):=(hgrow.block _ (Array.getElem?_eq_some_iff.1 HBXa.out).1 (fun e=>by have:=(World.ownsRow.lt HON.out tb e.symm).1; omega)).trans HBXa.out
    have hS8:w8.cell? ⟨tb,0,none⟩=some (.slice vta vs.length vtc):=by rw [Lib.cell_of_heap hbx8]; rfl
    have hf8:w8.frozen? ⟨tb,0,none⟩=false:=Lib.frozen_of_heap hbx8 _
    obtain ⟨va',vc',rfl⟩:=slice_of_ownK hown'
    have hO8:=HOa.out.more (r:=rowT f R l) (p:=(.slice vaa pl vac,.slice vga gl vgc)) HKR.out (by omega) (by simp) (fun k hk=>HVI.out k hk) hgrow hown' (fun k hk=>by
      rcases hat with e | e
      · exact .inl (by rw [← e]; exact hk)
      · rw [e] at hk; cases hk; exact .inr (by simp))
    have hba:=HB3.out
    have HF:Hid ((w8.setCell ⟨tb,0,none⟩ (.slice va' (vs.length+1) vc')).heap[tb]?=some (Obj.cells #[.slice va' (vs.length+1) vc'] 30)∧OwnW w3.heap.size w3.heap.size ((R.take (i+1)).map (rowT f R)) (vs++[(.slice vaa pl vac,.slice vga gl vgc)]) (.slice va' (vs.length+1) vc') (w8.setCell ⟨tb,0,none⟩ (.slice va' (vs.length+1) vc'))∧But (fun k=>k=tb) w3 (w8.setCell ⟨tb,0,none⟩ (.slice va' (vs.length+1) vc'))):=by
      refine ⟨?_,?_,?_⟩
      · have h1:=blk_set (o:=0) hbx8 (.slice va' (vs.length+1) vc')
        simpa using h1
      · rw [HTK.out]
        exact hO8.keep (D:=fun k=>k=tb) ((But.refl _ w8).setCell _ _ (.inr rfl)) (fun k e=>by omega) (fun k hk e=>by have:=(World.ownsRow.lt hown' k hk).1; omega)
      · refine But.setCell ⟨hgrow.os.trans hba.os,hgrow.tape.trans hba.tape,hgrow.output.trans hba.output,Nat.le_trans hba.size hgrow.size,fun k hk hd=>(hgrow.block k (Nat.lt_of_lt_of_le hk hba.size) (fun e=>?_)).trans (hba.block k hk hd)⟩ _ _ (.inr rfl)
        have:=(World.ownsRow.lt HON.out k e.symm).1
        omega
    clear hown' hgrow hat hO8 hba hbx8 HON HOa HKR HBXa HB3 HN2 q0 q1 q2 HO HBX HBR HTK
    go_wp2_with fail
    exact ⟨⟨i+1,_,_,by go_num,by omega,HF.out⟩,by simp [Go.RowKit.intOf]; omega⟩
  -- what is done ahead of a terminal
  have HAo:Hid (OwnA wB.heap.size wB.heap.size P (.slice vaa P.length vac) wr∧P.map Prod.fst=actUp f R l t∧But (fun k=>k=rb) wB wr∧wr.heap[rb]?=some (Obj.cells #[.slice vaa P.length vac,.slice vga gs.length vgc] 68)):=⟨hA,hPm,BL,hax⟩
  have htle:(t:Int)≤(f.terms.length:Int):=by omega
  obtain ⟨ab,hab⟩:∃ ab,wr.heap.size=ab:=⟨_,rfl⟩
  have bc:Below wr.heap.size wr (wr.alloc (Obj.cells #[.int .i64 t,.int .i64 (-1),.slice none 0 0,.bool false] 45)):=(Below.refl _ _).alloc (Nat.le_refl _) _
  have hcx:(wr.alloc (Obj.cells #[.int .i64 t,.int .i64 (-1),.slice none 0 0,.bool false] 45)).heap[wr.heap.size]?=some (Obj.cells #[.int .i64 t,.int .i64 (-1),.slice none 0 0,.bool false] 45):=heap_alloc_new _ _
  rw [hab] at hcx
  have HLt:Hid (Below tb w1 wr):=hLow
  have hrbw:rb<wr.heap.size:=(Array.getElem?_eq_some_iff.1 hax).1
  clear hA hPm BL
  go_upto_region 20 with fail
  try rw [hab]
  generalize hwl:wr=wl at *
  generalize wl.alloc (Obj.cells #[.int .i64 t,.int .i64 (-1),.slice none 0 0,.bool false] 45)=wC at *
  clear hwl
  have hcl:ab<wC.heap.size:=(Array.getElem?_eq_some_iff.1 hcx).1
  have hrab:rb<ab:=by omega
  have hax2:wC.heap[rb]?=some (Obj.cells #[.slice vaa P.length vac,.slice vga gs.length vgc] 68):=(bc.block _ hrbw).trans hax
  have hGw:wC.ownsRow wA.heap.size 75 2 (.slice vga gs.length vgc) gs.length (gs.flatMap encP):=ownsRow_keep (D:=fun _=>False) (ownsRow_keep (show wB.ownsRow _ _ _ _ _ _ from HGB.out) HAo.out.2.2.1 (fun k hk e=>by have:=(World.ownsRow.lt HGB.out k hk).1; omega)) (But.of_next bc) (fun _ _ h=>h)
  have HGS:Hid (∀ W,But (fun k=>k=ab) wC W→SlG gs (.slice vga gs.length vgc) W∧W.cell? ⟨rb,1,none⟩=some (.slice vga gs.length vgc)∧W.heap[rb]?=some (Obj.cells #[.slice vaa P.length vac,.slice vga gs.length vgc] 68)):=fun W hW=>by
    have h1:W.heap[rb]?=some (Obj.cells #[.slice vaa P.length vac,.slice vga gs.length vgc] 68):=(hW.block _ (Array.getElem?_eq_some_iff.1 hax2).1 (fun e=>by omega)).trans hax2
    refine ⟨OwnP.sl (t:=75) (B:=wA.heap.size) (ownsRow_keep hGw hW (fun k hk e=>by
      have h3:=(World.ownsRow.lt HGB.out k hk).2
      omega)) HGOK.out (by omega),by rw [Lib.cell_of_heap h1]; rfl,h1⟩
  clear hGw hax hax2
  go_wp2_with fail
  go_loopw [14] (fun iv wr=>∃ (k:Nat) (y:Int),iv=.int .i64 k∧k≤gs.length∧y=(if t<f.terms.length then lastTo (gs.take k) t else -1)∧wr.heap[ab]?=some (Obj.cells #[.int .i64 t,.int .i64 y,.slice none 0 0,.bool false] 45)∧But (fun k=>k=ab) wC wr) (fun i _=>gs.length - (Go.RowKit.intOf i).toNat)
  case atStart=>exact ⟨0,-1,rfl,Nat.zero_le _,by simp [lastTo],hcx,But.refl _ _⟩
  case round =>
  obtain ⟨k,y,rfl,hk,hy,hyx,BC⟩:=hrel
  obtain ⟨hSG,r1,hrx⟩:=HGS.out wr BC
  by_cases hkl:k<gs.length
  case pos =>
    obtain ⟨_,_,e0,hrl,_⟩:=id hSG
    cases e0
    obtain ⟨b2,o2,rfl,hb2,c0,c1,_⟩:=hrl.at (Below.refl _ _) hkl
    have HLK:Hid (lastTo (gs.take (k+1)) t=if gs[k].1=(t:Int) then gs[k].2 else lastTo (gs.take k) t):=lastTo_take hkl t
    have HY:Hid (y=(if t<f.terms.length then lastTo (gs.take k) t else -1)):=hy
    have HBC:Hid (But (fun k=>k=ab) wC wr):=BC
    have HYX:Hid (wr.heap[ab]?=some (Obj.cells #[.int .i64 t,.int .i64 y,.slice none 0 0,.bool false] 45)):=hyx
    have y1:wr.cell? ⟨ab,1,none⟩=some (.int .i64 y):=by rw [Lib.cell_of_heap hyx]; rfl
    have yf:wr.frozen? ⟨ab,1,none⟩=false:=Lib.frozen_of_heap hyx _
    generalize gs[k].1=g1 at *
    generalize gs[k].2=g2 at *
    clear hSG hrl hy BC hyx hrx
    by_cases htT:t<f.terms.length
    · have htT':(t:Int)<(f.terms.length:Int):=by omega
      rw [if_pos htT] at HY
      by_cases hgt:g1=(t:Int)
      · have hgt':(g1 == (t:Int))=true:=by simpa using hgt
        rw [if_pos hgt] at HLK
        have HF:Hid (g2=(if t<f.terms.length then lastTo (gs.take (k+1)) t else -1)∧(wr.setCell ⟨ab,1,none⟩ (.int .i64 g2)).heap[ab]?=some (Obj.cells #[.int .i64 t,.int .i64 g2,.slice none 0 0,.bool false] 45)∧But (fun k=>k=ab) wC (wr.setCell ⟨ab,1,none⟩ (.int .i64 g2))):=by
          refine ⟨by rw [if_pos htT]; exact HLK.out.symm,?_,HBC.out.setCell _ _ (.inr rfl)⟩
          have h1:=blk_set (o:=1) HYX.out (.int .i64 g2)
          simpa using h1
        subst hgt
        clear HLK HY HYX HBC
        go_wp2_with fail
        exact ⟨⟨k+1,_,by go_num,by omega,HF.out⟩,by simp [Go.RowKit.intOf]; omega⟩
      · have hgt':(g1 == (t:Int))=false:=by simpa using hgt
        rw [if_neg hgt] at HLK
        have HF:Hid (y=(if t<f.terms.length then lastTo (gs.take (k+1)) t else -1)∧wr.heap[ab]?=some (Obj.cells #[.int .i64 t,.int .i64 y,.slice none 0 0,.bool false] 45)∧But (fun k=>k=ab) wC wr):=⟨by rw [if_pos htT,HLK.out]; exact HY.out,HYX.out,HBC.out⟩
        clear HLK HY HYX HBC
        go_wp2_with fail
        exact ⟨⟨k+1,_,by go_num,by omega,HF.out⟩,by simp [Go.RowKit.intOf]; omega⟩
    · have htT':¬ (t:Int)<(f.terms.length:Int):=by omega
      have HF:Hid (y=(if t<f.terms.length then lastTo (gs.take (k+1)) t else -1)∧wr.heap[ab]?=some (Obj.cells #[.int .i64 t,.int .i64 y,.slice none 0 0,.bool false] 45)∧But (fun k=>k=ab) wC wr):=⟨by have h1:=HY.out; rw [if_neg htT] at h1 ⊢; exact h1,HYX.out,HBC.out⟩
      clear HLK HY HYX HBC
      go_wp2_with fail
      exact ⟨⟨k+1,_,by go_num,by omega,HF.out⟩,by simp [Go.RowKit.intOf]; omega⟩
  obtain rfl:k=gs.length:=by omega
  rw [List.take_of_length_le (Nat.le_refl _)] at hy
  have HYE:Hid (y=(actAt f R l t).to):=by
    show y=_
    unfold actAt
    simp only
    rw [hy]
    by_cases htT:t<f.terms.length
    · rw [if_pos htT,if_pos htT,HLT.out t htT]
    · rw [if_neg htT,if_neg htT]
  have HLD:Hid (∀ W,Below ab wr W→Below tb w1 W):=fun W hW=>by
    have h1:=BC.below (Nat.le_of_lt hcl) (fun k e=>Nat.le_of_eq e.symm)
    have h2:=bc
    rw [hab] at h2
    exact HLt.out.trans (((h2.trans h1).trans hW).mono (by omega))
  have HBC:Hid (But (fun k=>k=ab) wC wr):=BC
  have hbc2:=BC.size
  have HRX:Hid (wr.heap[rb]?=some (Obj.cells #[.slice vaa P.length vac,.slice vga gs.length vgc] 68)):=hrx
  clear hSG hrx hy BC
  go_wp2_with fail
  clear r1
  generalize hwd:wr=wD at *
  clear hwd
  have hdl:ab<wD.heap.size:=(Array.getElem?_eq_some_iff.1 hyx).1
  go_loopw [15] (fun iv wr=>∃ (k:Nat) (u:Value),iv=.int .i64 k∧k≤l.length∧wr.heap[ab]?=some (Obj.cells #[.int .i64 t,.int .i64 y,u,.bool (accL f (l.take k) t)] 45)∧OwnI wD.heap.size (redL f (l.take k) t) u wr∧But (fun k=>k=ab) wD wr) (fun i _=>l.length - (Go.RowKit.intOf i).toNat)
  case atStart=>exact ⟨0,.slice none 0 0,rfl,Nat.zero_le _,hyx,(show OwnI wD.heap.size [] (.slice none 0 0) wD from World.ownsRow_nil wD wD.heap.size 3 1),But.refl _ _⟩
  case round =>
  clear hyx
  obtain ⟨k,u,rfl,hk,hux,hU,BD⟩:=hrel
  obtain ⟨uua,uuc,rfl⟩:=slice_of_ownK hU
  have hLow:=HLD.out wr (BD.below (Nat.le_of_lt hdl) (fun k e=>Nat.le_of_eq e.symm))
  obtain ⟨b2,o2,sa,sc,e0,hb2,c0,hsl⟩:=HSI.out wr hLow
  have hrdl:(redL f (l.take k) t).length≤16000000:=by
    have h1:=redL_len f (l.take k) t
    have h2:(l.take k).length≤l.length:=by rw [List.length_take]; omega
    omega
  by_cases hkl2:k<l.length
  case pos =>
    cases e0
    obtain ⟨_,_,e1,hrl,_⟩:=id hsl
    cases e1
    obtain ⟨b4,o4,rfl,hb4,x0c,x1c,x2c,hok⟩:=hrl.at (Below.refl _ _) hkl2
    have hfx:=HFIT.out.2 l[k] (List.getElem_mem hkl2)
    have HTKI:Hid (l.take (k+1)=l.take k++[l[k]]):=List.take_succ_eq_append_getElem hkl2
    generalize l[k]=x at *
    obtain ⟨x0,x1,x2⟩:=x
    simp only at x0c x1c x2c
    obtain ⟨hBW,_,p0,p1,p2⟩:=HLO.out wr hLow
    have bx:Below wr.heap.size wr (wr.alloc (Obj.cells #[.int .i64 x0,.int .i64 x1,.int .i64 x2] 77)):=(Below.refl _ _).alloc (Nat.le_refl _) _
    have hBx:Below w.heap.size w (wr.alloc (Obj.cells #[.int .i64 x0,.int .i64 x1,.int .i64 x2] 77)):=hBW.trans (bx.mono hBW.size)
    have hLx:=hLow.trans (bx.mono (Nat.le_trans (by omega) BD.size))
    obtain ⟨_,_,P0,P1,P2⟩:=HLO.out _ hLx
    have X0:=RBox.new (x0,x1,x2) 77 wr
    have HNC:=HNX.out (x0,x1,x2) _ hBx
    unfold valR at HNC
    simp only at HNC
    have HU:Hid (wr.heap[ab]?=some (Obj.cells #[.int .i64 t,.int .i64 y,.slice uua (redL f (l.take k) t).length uuc,.bool (accL f (l.take k) t)] 45)∧OwnI wD.heap.size (redL f (l.take k) t) (.slice uua (redL f (l.take k) t).length uuc) wr∧But (fun k=>k=ab) wD wr):=⟨hux,hU,BD⟩
    obtain ⟨NX,hNX⟩:∃ NX,nextI f (x0,x1,x2)=NX:=⟨_,rfl⟩
    rw [hNX] at HNC
    have HNXE:Hid (nextI f (x0,x1,x2)=NX):=hNX
    have HNCH:Hid (Calls Tryz.prog 37 #[.agg #[.slice ta f.terms.length tc,.slice na f.nons.length nc,.slice pa f.prods.length pc],.agg #[.int .i64 x0,.int .i64 x1,.int .i64 x2]] (wr.alloc (Obj.cells #[.int .i64 x0,.int .i64 x1,.int .i64 x2] 77)) fun e w'=>e=.returned (.tuple #[.int .i64 (NX.getD 0),.bool NX.isSome])∧Below (wr.alloc (Obj.cells #[.int .i64 x0,.int .i64 x1,.int .i64 x2] 77)).heap.size (wr.alloc (Obj.cells #[.int .i64 x0,.int .i64 x1,.int .i64 x2] 77)) w'):=HNC
    have hsb:=BD.size
    clear hNX HNC hrl hsl hU BD p0 p1 p2
    go_upto_region 29 with fail
    generalize wr.alloc (Obj.cells #[.int .i64 x0,.int .i64 x1,.int .i64 x2] 77)=wx at *
    obtain ⟨hxl,y0,y1,y2⟩:=X0
    simp only at y0 y1 y2 hxl
    clear x0c x1c x2c c0
    go_wp2_with fail
    refine HNCH.out.mono ?_
    rintro e w6 ⟨rfl,b6⟩
    have b6':Below wr.heap.size wr w6:=bx.trans (b6.mono bx.size)
    have Y0:=(b6.cell (p:=⟨wr.heap.size,0,none⟩) hxl).trans y0
    have Y2:=(b6.cell (p:=⟨wr.heap.size,2,none⟩) hxl).trans y2
    have hu6:w6.heap[ab]?=some (Obj.cells #[.int .i64 t,.int .i64 y,.slice uua (redL f (l.take k) t).length uuc,.bool (accL f (l.take k) t)] 45):=(b6'.block _ (Array.getElem?_eq_some_iff.1 hux).1).trans hux
    have HO6:Hid (OwnI wD.heap.size (redL f (l.take k) t) (.slice uua (redL f (l.take k) t).length uuc) w6∧But (fun k=>k=ab) wD w6):=⟨ownsRow_keep (D:=fun _=>False) HU.out.2.1 (But.of_next b6') (fun _ _ h=>h),HU.out.2.2.trans (But.of_next b6')⟩
    have u2:w6.cell? ⟨ab,2,none⟩=some (.slice uua (redL f (l.take k) t).length uuc):=by rw [Lib.cell_of_heap hu6]; rfl
    have u3:w6.cell? ⟨ab,3,none⟩=some (.bool (accL f (l.take k) t)):=by rw [Lib.cell_of_heap hu6]; rfl
    have uf:∀ j,w6.frozen? ⟨ab,j,none⟩=false:=fun j=>Lib.frozen_of_heap hu6 _
    have HRA:Hid (redL f (l.take (k+1)) t=redL f (l.take k) t++(if NX=none∧x2=(t:Int)∧0≤x0 then [x0] else [])∧accL f (l.take (k+1)) t=(accL f (l.take k) t || decide (NX=none∧x2=(t:Int)∧x0<0))):=by
      rw [HTKI.out,redL_append,accL_append,redL_one,accL_one,HNXE.out]
      exact ⟨rfl,rfl⟩
    clear HU HNCH y0 y1 y2 P0 P1 P2 hux b6 bx hBx
    by_cases hc:NX=none∧x2=(t:Int)
    · obtain ⟨rfl,hx2⟩:=hc
      subst hx2
      simp only [Option.getD_none,Option.isSome_none]
      by_cases hx0:x0<0
      · have hx0':¬ 0≤x0:=by omega
        have HF:Hid ((w6.setCell ⟨ab,3,none⟩ (.bool true)).heap[ab]?=some (Obj.cells #[.int .i64 t,.int .i64 y,.slice uua (redL f (l.take k) t).length uuc,.bool (accL f (l.take (k+1)) t)] 45)∧OwnI wD.heap.size (redL f (l.take (k+1)) t) (.slice uua (redL f (l.take k) t).length uuc) (w6.setCell ⟨ab,3,none⟩ (.bool true))∧But (fun k=>k=ab) wD (w6.setCell ⟨ab,3,none⟩ (.bool true))):=by
          have e1:redL f (l.take (k+1)) t=redL f (l.take k) t:=by rw [HRA.out.1,if_neg (fun h=>hx0' h.2.2),List.append_nil]
          have e2:accL f (l.take (k+1)) t=true:=by rw [HRA.out.2,decide_eq_true ⟨rfl,rfl,hx0⟩,Bool.or_true]
          rw [e1,e2]
          refine ⟨?_,ownsRow_keep (D:=fun k=>k=ab) HO6.out.1 ((But.refl _ w6).setCell _ _ (.inr rfl)) (fun j hj e=>by have:=(World.ownsRow.lt HO6.out.1 j hj).1; omega),HO6.out.2.setCell _ _ (.inr rfl)⟩
          have h1:=blk_set (o:=3) hu6 (.bool true)
          simpa using h1
        clear HRA HO6 hu6 u2
        go_wp2_with fail
        exact ⟨⟨k+1,_,by go_num,by omega,HF.out⟩,by simp [Go.RowKit.intOf]; omega⟩
      · have hx0':0≤x0:=by omega
        have e1:redL f (l.take (k+1)) t=redL f (l.take k) t++[x0]:=by rw [HRA.out.1,if_pos ⟨rfl,rfl,hx0'⟩]
        have e2:accL f (l.take (k+1)) t=accL f (l.take k) t:=by rw [HRA.out.2,decide_eq_false (fun h=>hx0 h.2.2),Bool.or_false]
        have HE:Hid (redL f (l.take (k+1)) t=redL f (l.take k) t++[x0]∧accL f (l.take (k+1)) t=accL f (l.take k) t):=⟨e1,e2⟩
        have HON:Hid ((w6.alloc (Obj.cells #[.int .i64 x0] 3)).ownsRow wD.heap.size 3 1 (.slice uua (redL f (l.take k) t).length uuc) (redL f (l.take k) t).length ((redL f (l.take k) t).map encI)):=World.ownsRow.alloc HO6.out.1 _
        have ba:Below w6.heap.size w6 (w6.alloc (Obj.cells #[.int .i64 x0] 3)):=(Below.refl _ _).alloc (Nat.le_refl _) _
        have HUA:Hid ((w6.alloc (Obj.cells #[.int .i64 x0] 3)).heap[ab]?=some (Obj.cells #[.int .i64 t,.int .i64 y,.slice uua (redL f (l.take k) t).length uuc,.bool (accL f (l.take k) t)] 45)∧But (fun k=>k=ab) wD (w6.alloc (Obj.cells #[.int .i64 x0] 3))):=⟨(ba.block _ (Array.getElem?_eq_some_iff.1 hu6).1).trans hu6,HO6.out.2.trans (But.of_next ba)⟩
        have HNW:=cell_one_new w6 (.int .i64 x0) 3
        have hszn:wD.heap.size≤(w6.alloc (Obj.cells #[.int .i64 x0] 3)).heap.size:=HUA.out.2.size
        clear HRA HO6 hu6 e1 e2 u3
        generalize hRL:redL f (l.take k) t=RL at *
        generalize accL f (l.take k) t=AL at *
        clear hRL
        go_wp2_with (at_builtin; refine wpList_append_own_at _ rfl (.tmp 138) (.tmp 141) 43 rfl wD.heap.size 3 ii _ 1 8 Tryz.underlying43 hii hi0 hi1 hi2 rfl (by omega) _ _ _ rfl HON.out _ 1 1 [.int .i64 x0] rfl rfl HNW (by simp [Value.oneCell']) (by unfold maxLen; omega) (by omega) hszn ?_)
        intro v' w8 hown' hgrow _ hat
        have hvb:∀ j,(Value.slice uua RL.length uuc).ownBlock=some j→wD.heap.size≤j:=fun j hj=>(World.ownsRow.lt HON.out j hj).1
        have hu8:w8.heap[ab]?=some (Obj.cells #[.int .i64 t,.int .i64 y,.slice uua RL.length uuc,.bool AL] 45):=(hgrow.block _ (Array.getElem?_eq_some_iff.1 HUA.out.1).1 (fun e=>by have:=hvb ab e.symm; omega)).trans HUA.out.1
        have u8c:w8.cell? ⟨ab,2,none⟩=some (.slice uua RL.length uuc):=by rw [Lib.cell_of_heap hu8]; rfl
        have u8f:w8.frozen? ⟨ab,2,none⟩=false:=Lib.frozen_of_heap hu8 _
        obtain ⟨va',vc',rfl⟩:=slice_of_ownK hown'
        have hba:=HUA.out.2
        have HF:Hid ((w8.setCell ⟨ab,2,none⟩ (.slice va' (RL.length+1) vc')).heap[ab]?=some (Obj.cells #[.int .i64 t,.int .i64 y,.slice va' (RL.length+1) vc',.bool (accL f (l.take (k+1)) t)] 45)∧OwnI wD.heap.size (redL f (l.take (k+1)) t) (.slice va' (RL.length+1) vc') (w8.setCell ⟨ab,2,none⟩ (.slice va' (RL.length+1) vc'))∧But (fun k=>k=ab) wD (w8.setCell ⟨ab,2,none⟩ (.slice va' (RL.length+1) vc'))):=by
          rw [HE.out.1,HE.out.2]
          refine ⟨?_,?_,?_⟩
          · have h1:=blk_set (o:=2) hu8 (.slice va' (RL.length+1) vc')
            simpa using h1
          · have h1:OwnI wD.heap.size (RL++[x0]) (.slice va' (RL.length+1) vc') w8:=by simpa [OwnI,encI] using hown'
            exact ownsRow_keep (D:=fun k=>k=ab) h1 ((But.refl _ w8).setCell _ _ (.inr rfl)) (fun j hj e=>by have:=(World.ownsRow.lt hown' j hj).1; omega)
          · refine But.setCell ⟨hgrow.os.trans hba.os,hgrow.tape.trans hba.tape,hgrow.output.trans hba.output,Nat.le_trans hba.size hgrow.size,fun j hj hd=>(hgrow.block j (Nat.lt_of_lt_of_le hj hba.size) (fun e=>?_)).trans (hba.block j hj hd)⟩ _ _ (.inr rfl)
            have:=hvb j e.symm
            omega
        clear hown' hgrow hat hba hu8 HON HUA HNW HE u2
        go_wp2_with fail
        exact ⟨⟨k+1,_,by go_num,by omega,HF.out⟩,by simp [Go.RowKit.intOf]; omega⟩
    · have HF:Hid (w6.heap[ab]?=some (Obj.cells #[.int .i64 t,.int .i64 y,.slice uua (redL f (l.take k) t).length uuc,.bool (accL f (l.take (k+1)) t)] 45)∧OwnI wD.heap.size (redL f (l.take (k+1)) t) (.slice uua (redL f (l.take k) t).length uuc) w6∧But (fun k=>k=ab) wD w6):=by
        have e1:redL f (l.take (k+1)) t=redL f (l.take k) t:=by rw [HRA.out.1,if_neg (fun h=>hc ⟨h.1,h.2.1⟩),List.append_nil]
        have e2:accL f (l.take (k+1)) t=accL f (l.take k) t:=by rw [HRA.out.2,decide_eq_false (fun h=>hc ⟨h.1,h.2.1⟩),Bool.or_false]
        rw [e1,e2]
        exact ⟨hu6,HO6.out⟩
      clear HRA HO6 hu6 u2 u3
      cases NX with
      | some sv =>
        simp only [Option.getD_some,Option.isSome_some]
        go_wp2_with fail
        exact ⟨⟨k+1,_,by go_num,by omega,HF.out⟩,by simp [Go.RowKit.intOf]; omega⟩
      | none =>
        have hx2:¬ x2=(t:Int):=fun h=>hc ⟨rfl,h⟩
        have hx2':(x2 != (t:Int))=true:=by simpa using hx2
        simp only [Option.getD_none,Option.isSome_none]
        go_wp2_with fail
        exact ⟨⟨k+1,_,by go_num,by omega,HF.out⟩,by simp [Go.RowKit.intOf]; omega⟩
  obtain rfl:k=l.length:=by omega
  rw [List.take_of_length_le (Nat.le_refl _)] at hU hux hrdl
  have bFl:But (fun _=>False) wl wr:=(((But.of_next (show Below wl.heap.size wl wC from bc)).trans (HBC.out.trans BD)):But (fun k=>k=ab) wl wr).mono (fun k hk e=>by omega)
  have hAr:=HAo.out.1.keep bFl (fun k e=>e.elim) (fun k hk e=>e)
  have hrxr:wr.heap[rb]?=some (Obj.cells #[.slice vaa P.length vac,.slice vga gs.length vgc] 68):=(bFl.block _ hrbw (fun e=>e)).trans HAo.out.2.2.2
  have hBLr:But (fun k=>k=rb) wB wr:=HAo.out.2.2.1.trans (bFl.mono (fun _ _ h=>h.elim))
  have hAE:actAt f R l t=⟨t,y,redL f l t,accL f l t⟩:=by
    have h1:=HYE.out
    have h2:actAt f R l t=⟨t,(actAt f R l t).to,redL f l t,accL f l t⟩:=rfl
    rw [← h1] at h2; exact h2
  have hsome:someA (actAt f R l t)=decide (0≤y∨accL f l t=true∨redL f l t≠[]):=by rw [hAE]; rfl
  have hrok:∀ x∈redL f l t,i64B x:=fun x hx=>by
    have h1:=redL_in HFIT.out.2 t x hx
    have h3:=hp.prods
    unfold i64B; omega
  have hyB:i64B y:=by
    have h1:=HYE.out
    have h2:(actAt f R l t).to=-1∨∃ z:Nat,z≤R.length∧(actAt f R l t).to=(z:Int):=by
      unfold actAt toF
      simp only
      by_cases htT:t<f.terms.length
      · rw [if_pos htT]
        by_cases hm:movedL f l (t:Int)=[]
        · rw [if_pos hm]; exact .inl rfl
        · rw [if_neg hm]; exact .inr ⟨_,findI_le _ _,rfl⟩
      · rw [if_neg htT]; exact .inl rfl
    unfold i64B
    rcases h2 with h2 | ⟨z,h3,h2⟩ <;> omega
  have hKU:KeepU ab wr.heap.size (redL f l t) (.slice uua (redL f l t).length uuc) wr:=KeepU.of hU (by omega) (Nat.le_refl _) hrok
  have u1:wr.cell? ⟨ab,1,none⟩=some (.int .i64 y):=by rw [Lib.cell_of_heap hux]; rfl
  have u2:wr.cell? ⟨ab,2,none⟩=some (.slice uua (redL f l t).length uuc):=by rw [Lib.cell_of_heap hux]; rfl
  have u3:wr.cell? ⟨ab,3,none⟩=some (.bool (accL f l t)):=by rw [Lib.cell_of_heap hux]; rfl
  have uu0:wr.cell? ⟨ab,0,none⟩=some (.int .i64 t):=by rw [Lib.cell_of_heap hux]; rfl
  have rr0:wr.cell? ⟨rb,0,none⟩=some (.slice vaa P.length vac):=by rw [Lib.cell_of_heap hrxr]; rfl
  have ba:Below wr.heap.size wr (wr.alloc (Obj.cells #[.int .i64 t,.int .i64 y,.slice uua (redL f l t).length uuc,.bool (accL f l t)] 45)):=(Below.refl _ _).alloc (Nat.le_refl _) _
  have hAa:=hAr.next ba
  have HON:Hid ((wr.alloc (Obj.cells #[.int .i64 t,.int .i64 y,.slice uua (redL f l t).length uuc,.bool (accL f l t)] 45)).ownsRow wB.heap.size 45 4 (.slice vaa P.length vac) P.length (P.flatMap encAu)):=hAa.own
  have HN4:=new4 wr (.int .i64 t) (.int .i64 y) (.slice uua (redL f l t).length uuc) (.bool (accL f l t)) 45
  have hszn:wB.heap.size≤(wr.alloc (Obj.cells #[.int .i64 t,.int .i64 y,.slice uua (redL f l t).length uuc,.bool (accL f l t)] 45)).heap.size:=Nat.le_trans hBLr.size ba.size
  have hrxa:(wr.alloc (Obj.cells #[.int .i64 t,.int .i64 y,.slice uua (redL f l t).length uuc,.bool (accL f l t)] 45)).heap[rb]?=some (Obj.cells #[.slice vaa P.length vac,.slice vga gs.length vgc] 68):=(ba.block _ (Array.getElem?_eq_some_iff.1 hrxr).1).trans hrxr
  have hba:But (fun k=>k=rb) wB (wr.alloc (Obj.cells #[.int .i64 t,.int .i64 y,.slice uua (redL f l t).length uuc,.bool (accL f l t)] 45)):=hBLr.trans (But.of_next ba)
  have HFIN:Hid (someA (actAt f R l t)=true→∀ v' w8,w8.ownsRow wB.heap.size 45 4 v' (P.length+1) (P.flatMap encAu++[.int .i64 t,.int .i64 y,.slice uua (redL f l t).length uuc,.bool (accL f l t)])→(wr.alloc (Obj.cells #[.int .i64 t,.int .i64 y,.slice uua (redL f l t).length uuc,.bool (accL f l t)] 45)).grownBy w8 (Value.slice vaa P.length vac).ownBlock→(v'.ownBlock=(Value.slice vaa P.length vac).ownBlock∨v'.ownBlock=some (wr.heap.size+1)) →
      w8.cell? ⟨rb,0,none⟩=some (.slice vaa P.length vac)∧w8.frozen? ⟨rb,0,none⟩=false∧((w8.setCell ⟨rb,0,none⟩ v').heap[rb]?=some (Obj.cells #[v',.slice vga gs.length vgc] 68)∧OwnA wB.heap.size wB.heap.size (P++[(actAt f R l t,Value.slice uua (redL f l t).length uuc)]) v' (w8.setCell ⟨rb,0,none⟩ v')∧(P++[(actAt f R l t,Value.slice uua (redL f l t).length uuc)]).map Prod.fst=actUp f R l (t+1)∧But (fun k=>k=rb) wB (w8.setCell ⟨rb,0,none⟩ v'))):=fun hsm v' w8 hown' hgrow hat=>by
    have hvb:∀ j,(Value.slice vaa P.length vac).ownBlock=some j→wB.heap.size≤j:=fun j hj=>(World.ownsRow.lt hAa.own j hj).1
    have hr8:w8.heap[rb]?=some (Obj.cells #[.slice vaa P.length vac,.slice vga gs.length vgc] 68):=(hgrow.block _ (Array.getElem?_eq_some_iff.1 hrxa).1 (fun e=>by have:=hvb rb e.symm; omega)).trans hrxa
    have hO8:=hAa.more (p:=(actAt f R l t,Value.slice uua (redL f l t).length uuc)) (lo:=ab) (hi:=wr.heap.size) ((hAE ▸ hKU:KeepU ab wr.heap.size (actAt f R l t).red (.slice uua (redL f l t).length uuc) wr).keep (D:=fun _=>False) (But.of_next ba) (fun _ h=>h.elim)) (by rw [hAE]; exact ⟨by unfold i64B; simp only; omega,hyB,by simp only; omega⟩) (by omega) (by simp) (fun j hj=>by have:=(World.ownsRow.lt HAo.out.1.own j hj).2; omega) hgrow (by unfold encAu; rw [hAE]; exact hown') (by simpa using hat)
    refine ⟨by rw [Lib.cell_of_heap hr8]; rfl,Lib.frozen_of_heap hr8 _,?_,hO8.keep (D:=fun k=>k=rb) ((But.refl _ w8).setCell _ _ (.inr rfl)) (fun j e=>by omega) (fun j hj e=>by have:=(World.ownsRow.lt hown' j hj).1; omega),?_,?_⟩
    · have h1:=blk_set (o:=0) hr8 v'
      simpa using h1
    · rw [List.map_append,HAo.out.2.1,actUp_succ,if_pos hsm]; rfl
    · refine But.setCell ⟨hgrow.os.trans hba.os,hgrow.tape.trans hba.tape,hgrow.output.trans hba.output,Nat.le_trans hba.size hgrow.size,fun j hj hd=>(hgrow.block j (Nat.lt_of_lt_of_le hj hba.size) (fun e=>?_)).trans (hba.block j hj hd)⟩ _ _ (.inr rfl)
      have:=hvb j e.symm
      omega
  have HNO:Hid (someA (actAt f R l t)=false→wr.heap[rb]?=some (Obj.cells #[.slice vaa P.length vac,.slice vga gs.length vgc] 68)∧OwnA wB.heap.size wB.heap.size P (.slice vaa P.length vac) wr∧P.map Prod.fst=actUp f R l (t+1)∧But (fun k=>k=rb) wB wr):=fun hsm=>⟨hrxr,hAr,by rw [HAo.out.2.1,actUp_succ,hsm]; simp,hBLr⟩
  have HSM:Hid (someA (actAt f R l t)=decide (0≤y∨accL f l t=true∨redL f l t≠[])):=hsome
  have HRL0:Hid (redL f l t≠[]↔0<(redL f l t).length):=⟨fun h=>List.length_pos_iff.2 h,fun h=>List.length_pos_iff.1 h⟩
  cases e0
  clear hAr hrxr hBLr hAE hsome hrok hyB hKU hAa hrxa hba HAo hux hU hsl BD bFl HYE
  generalize redL f l t=RL at *
  generalize accL f l t=AL at *
  by_cases hy0:0≤y
  · have hy0':y ≥ 0:=hy0
    have hyd:decide (y ≥ 0)=true:=decide_eq_true hy0
    have HFIN:=HFIN.out (HSM.out.trans (decide_eq_true (.inl hy0)))
    have HFIN:Hid _:=HFIN
    go_wp2_with (at_builtin; refine wpList_append_own_at _ rfl (.tmp 158) (.tmp 160) 65 rfl wB.heap.size 45 ia _ 4 48 Tryz.underlying65 hia ha0 ha1 ha2 rfl (by omega) _ _ _ rfl HON.out _ 1 1 [.int .i64 t,.int .i64 y,.slice uua RL.length uuc,.bool AL] rfl rfl HN4 (by simp [Value.oneCell']) (by unfold maxLen; omega) (by omega) hszn ?_)
    intro v' w8 hown' hgrow _ hat
    have HF:=HFIN.out v' w8 hown' hgrow hat
    obtain ⟨va',vc',rfl⟩:=slice_of_ownK hown'
    obtain ⟨r8,f8,HF⟩:=HF
    have HFF:Hid ((w8.setCell ⟨rb,0,none⟩ (.slice va' (P.length+1) vc')).heap[rb]?=some (Obj.cells #[.slice va' (P.length+1) vc',.slice vga gs.length vgc] 68)∧OwnA wB.heap.size wB.heap.size (P++[(actAt f R l t,Value.slice uua RL.length uuc)]) (.slice va' (P.length+1) vc') (w8.setCell ⟨rb,0,none⟩ (.slice va' (P.length+1) vc'))∧(P++[(actAt f R l t,Value.slice uua RL.length uuc)]).map Prod.fst=actUp f R l (t+1)∧But (fun k=>k=rb) wB (w8.setCell ⟨rb,0,none⟩ (.slice va' (P.length+1) vc'))):=HF
    clear HF hown' hgrow hat HON HFIN HN4 u1 u2 u3 uu0 rr0
    go_wp2_with fail
    exact ⟨⟨t+1,_,_,by go_num,by omega,HFF.out⟩,by simp [Go.RowKit.intOf]; omega⟩
  have hy0':¬ y ≥ 0:=hy0
  have hyd:decide (y ≥ 0)=false:=decide_eq_false hy0
  cases AL with
  | true =>
    have HFIN:=HFIN.out (HSM.out.trans (decide_eq_true (.inr (.inl rfl))))
    have HFIN:Hid _:=HFIN
    go_wp2_with (at_builtin; refine wpList_append_own_at _ rfl (.tmp 158) (.tmp 160) 65 rfl wB.heap.size 45 ia _ 4 48 Tryz.underlying65 hia ha0 ha1 ha2 rfl (by omega) _ _ _ rfl HON.out _ 1 1 [.int .i64 t,.int .i64 y,.slice uua RL.length uuc,.bool true] rfl rfl HN4 (by simp [Value.oneCell']) (by unfold maxLen; omega) (by omega) hszn ?_)
    intro v' w8 hown' hgrow _ hat
    have HF:=HFIN.out v' w8 hown' hgrow hat
    obtain ⟨va',vc',rfl⟩:=slice_of_ownK hown'
    obtain ⟨r8,f8,HF⟩:=HF
    have HFF:Hid ((w8.setCell ⟨rb,0,none⟩ (.slice va' (P.length+1) vc')).heap[rb]?=some (Obj.cells #[.slice va' (P.length+1) vc',.slice vga gs.length vgc] 68)∧OwnA wB.heap.size wB.heap.size (P++[(actAt f R l t,Value.slice uua RL.length uuc)]) (.slice va' (P.length+1) vc') (w8.setCell ⟨rb,0,none⟩ (.slice va' (P.length+1) vc'))∧(P++[(actAt f R l t,Value.slice uua RL.length uuc)]).map Prod.fst=actUp f R l (t+1)∧But (fun k=>k=rb) wB (w8.setCell ⟨rb,0,none⟩ (.slice va' (P.length+1) vc'))):=HF
    clear HF hown' hgrow hat HON HFIN HN4 u1 u2 u3 uu0 rr0
    go_wp2_with fail
    exact ⟨⟨t+1,_,_,by go_num,by omega,HFF.out⟩,by simp [Go.RowKit.intOf]; omega⟩
  | false =>
  by_cases hrl0:0<RL.length
  · have hrd:(RL.length:Int) > 0:=by omega
    have hrdd:decide ((RL.length:Int) > 0)=true:=decide_eq_true hrd
    have HFIN:=HFIN.out (HSM.out.trans (decide_eq_true (.inr (.inr (HRL0.out.2 hrl0)))))
    have HFIN:Hid _:=HFIN
    go_wp2_with (at_builtin; refine wpList_append_own_at _ rfl (.tmp 158) (.tmp 160) 65 rfl wB.heap.size 45 ia _ 4 48 Tryz.underlying65 hia ha0 ha1 ha2 rfl (by omega) _ _ _ rfl HON.out _ 1 1 [.int .i64 t,.int .i64 y,.slice uua RL.length uuc,.bool false] rfl rfl HN4 (by simp [Value.oneCell']) (by unfold maxLen; omega) (by omega) hszn ?_)
    intro v' w8 hown' hgrow _ hat
    have HF:=HFIN.out v' w8 hown' hgrow hat
    obtain ⟨va',vc',rfl⟩:=slice_of_ownK hown'
    obtain ⟨r8,f8,HF⟩:=HF
    have HFF:Hid ((w8.setCell ⟨rb,0,none⟩ (.slice va' (P.length+1) vc')).heap[rb]?=some (Obj.cells #[.slice va' (P.length+1) vc',.slice vga gs.length vgc] 68)∧OwnA wB.heap.size wB.heap.size (P++[(actAt f R l t,Value.slice uua RL.length uuc)]) (.slice va' (P.length+1) vc') (w8.setCell ⟨rb,0,none⟩ (.slice va' (P.length+1) vc'))∧(P++[(actAt f R l t,Value.slice uua RL.length uuc)]).map Prod.fst=actUp f R l (t+1)∧But (fun k=>k=rb) wB (w8.setCell ⟨rb,0,none⟩ (.slice va' (P.length+1) vc'))):=HF
    clear HF hown' hgrow hat HON HFIN HN4 u1 u2 u3 uu0 rr0
    go_wp2_with fail
    exact ⟨⟨t+1,_,_,by go_num,by omega,HFF.out⟩,by simp [Go.RowKit.intOf]; omega⟩
  · have hrz:RL.length=0:=by omega
    have HF:Hid (wr.heap[rb]?=some (Obj.cells #[.slice vaa P.length vac,.slice vga gs.length vgc] 68)∧OwnA wB.heap.size wB.heap.size P (.slice vaa P.length vac) wr∧P.map Prod.fst=actUp f R l (t+1)∧But (fun k=>k=rb) wB wr):=HNO.out (HSM.out.trans (decide_eq_false (by
      rintro (h | h | h)
      · exact hy0 h
      · cases h
      · exact hrl0 (HRL0.out.1 h))))
    rw [hrz] at u2
    clear HFIN HNO HON HN4
    go_wp2_with fail
    exact ⟨⟨t+1,_,_,by go_num,by omega,HF.out⟩,by simp [Go.RowKit.intOf]; omega⟩
end Go.Proofs.YtbilbgjojdlobaaGreatDoor
namespace Go.Proofs.YtbilbgjojdlobaaGreatDoor
open Go.RowKit
set_option maxRecDepth 100000 in
set_option maxHeartbeats 4000000 in
theorem tableBuilds_any (f:Fl) (a:FlA) (w:World) (hf:FlAt f a w) (hT:Tb w) :
    Calls Tryz.prog 3 #[a.val f] w fun e w'=>e=.returned (.bool true)∧Below w.heap.size w w':=by
  have h1:=fun W (hb:Below w.heap.size w W)=>few11_any f a W (hf.next hb)
  have h2:=fun W (hb:Below w.heap.size w W) (ht:fitB f=true)=>build12_any f a W (hf.next hb) ht (hT.next hb)
  have h3:=fun W (hb:Below w.heap.size w W) (ht:fitB f=true)=>rbuild_any f a W (hf.next hb) ht
  have HAW:Hid (∀ W,Below w.heap.size w W→Calls Tryz.prog 9 #[] W fun e w'=>e=.returned (.bool true)∧Below W.heap.size W w'):=fun W hb=>awake12_any W (hT.next hb)
  obtain ⟨ta,tc,na,nc,pa,pc⟩:=a
  have X0:=FBox.new f ⟨ta,tc,na,nc,pa,pc⟩ 25 w
  have B0:Below w.heap.size w (w.alloc (fobj f ⟨ta,tc,na,nc,pa,pc⟩ 25)):=(Below.refl _ _).alloc (Nat.le_refl _) _
  unfold fobj at X0 B0
  unfold FlA.val at h1 h2 h3 ⊢
  simp only at *
  have H1:Hid (∀ W,Below w.heap.size w W→Calls Tryz.prog 8 #[.agg #[.slice ta f.terms.length tc,.slice na f.nons.length nc,.slice pa f.prods.length pc]] W fun e w'=>Few1 f W e w'):=h1
  have H2:Hid (∀ W,Below w.heap.size w W→fitB f=true→Calls Tryz.prog 10 #[.agg #[.slice ta f.terms.length tc,.slice na f.nons.length nc,.slice pa f.prods.length pc]] W fun e w'=>Built f W e w'):=h2
  have H3:Hid (∀ W,Below w.heap.size w W→fitB f=true→Calls Tryz.prog 11 #[.agg #[.slice ta f.terms.length tc,.slice na f.nons.length nc,.slice pa f.prods.length pc]] W fun e w'=>Built f W e w'):=h3
  clear h1 h2 h3 hf hT
  go_enter Tryz.func3,Tryz.ntmps3
  go_wp2_with fail
  obtain ⟨F,hF⟩:∃ F,w.heap.size=F:=⟨_,rfl⟩
  rw [hF] at X0
  simp only [hF]
  clear hF
  generalize w.alloc (Obj.cells #[.slice ta f.terms.length tc,.slice na f.nons.length nc,.slice pa f.prods.length pc] 25)=w0 at *
  refine (H1.out _ B0).mono ?_
  rintro e w1 ⟨b,rfl,hfew,b1⟩
  have B1:=below_then B0 b1 B0.size
  have X1:=X0.next b1
  have HX1:Hid (∀ W,Below w1.heap.size w1 W→(W.cell? ⟨F,0,none⟩=some (.slice ta f.terms.length tc)∧W.cell? ⟨F,1,none⟩=some (.slice na f.nons.length nc)∧W.cell? ⟨F,2,none⟩=some (.slice pa f.prods.length pc))):=fun W hb=>(X1.next hb).2
  clear X0 B0 b1 H1 X1
  cases b with
  | false =>
    clear hfew H2 H3
    go_wp2_with fail
    refine (HAW.out _ B1).mono ?_
    rintro e w2 ⟨rfl,b2⟩
    have B2:=below_then B1 b2 B1.size
    clear HAW b2
    go_wp2_with fail
    go_ret
    exact ⟨rfl,B2⟩
  | true =>
  have HFT:Hid (fitB f=true):=(hfew rfl).1
  have hsz:=size_tabL (fit_facts (hfew rfl).1) (hfew rfl).2.1 (hfew rfl).2.2
  obtain ⟨d0,d1,d2⟩:=HX1.out _ (Below.refl _ _)
  clear hfew
  go_wp2_with fail
  refine (H2.out _ B1 HFT.out).mono ?_
  rintro e w2 hA
  obtain ⟨va,vc,rfl,k2,b2⟩:=built_l hA
  have B2:=below_then B1 b2 B1.size
  clear H2 d0 d1 d2 hA
  obtain ⟨kk,hkk⟩:∃ kk,tabK f=kk:=⟨_,rfl⟩
  have HSV:Hid (∀ W,Below w2.heap.size w2 W→SlW (tabL f) (.slice va (tabL f).length vc) W):=fun W hW=>k2.next hW
  have b3:Below w2.heap.size w2 (w2.alloc (Obj.cells #[.slice va (tabL f).length vc] 30)):=(Below.refl _ _).alloc (Nat.le_refl _) _
  have q0:(w2.alloc (Obj.cells #[.slice va (tabL f).length vc] 30)).cell? ⟨w2.heap.size,0,none⟩=some (.slice va (tabL f).length vc):=by simp
  have ql:w2.heap.size<(w2.alloc (Obj.cells #[.slice va (tabL f).length vc] 30)).heap.size:=by simp
  have HK:Hid (∀ W,Below (w2.alloc (Obj.cells #[.slice va (tabL f).length vc] 30)).heap.size (w2.alloc (Obj.cells #[.slice va (tabL f).length vc] 30)) W→W.cell? ⟨w2.heap.size,0,none⟩=some (.slice va (tabL f).length vc)∧SlW (tabL f) (.slice va (tabL f).length vc) W∧Below w.heap.size w W∧(W.cell? ⟨F,0,none⟩=some (.slice ta f.terms.length tc)∧W.cell? ⟨F,1,none⟩=some (.slice na f.nons.length nc)∧W.cell? ⟨F,2,none⟩=some (.slice pa f.prods.length pc))):=fun W hW=>by
    have c3:=b3.trans (hW.mono b3.size)
    exact ⟨(hW.cell (p:=⟨w2.heap.size,0,none⟩) ql).trans q0,HSV.out W c3,B2.trans (c3.mono B2.size),HX1.out W (b2.trans (c3.mono b2.size))⟩
  simp only [hkk]
  clear k2 HSV q0 HX1 b2
  go_upto_region 4 with fail
  obtain ⟨tb,htb⟩:∃ tb,w2.heap.size=tb:=⟨_,rfl⟩
  rw [htb] at HK ql ⊢
  generalize w2.alloc (Obj.cells #[.slice va (tabL f).length vc] 30)=w3 at *
  obtain ⟨q0,qs,qb,x0,x1,x2⟩:=HK.out w3 (Below.refl _ _)
  have HR:=H3.out w3 qb HFT.out
  clear H3 qs q0 b3 B2 B1
  go_wp2_with fail
  refine HR.mono ?_
  rintro e w4 hA
  obtain ⟨ra,rc,rfl,k4,b4⟩:=built_l hA
  clear HR hA x0 x1 x2 qb
  simp only [hkk]
  have HSR:Hid (∀ W,Below w4.heap.size w4 W→SlW (tabL f) (.slice ra (tabL f).length rc) W):=fun W hW=>k4.next hW
  have b5:Below w4.heap.size w4 (w4.alloc (Obj.cells #[.slice ra (tabL f).length rc] 30)):=(Below.refl _ _).alloc (Nat.le_refl _) _
  have q0:(w4.alloc (Obj.cells #[.slice ra (tabL f).length rc] 30)).cell? ⟨w4.heap.size,0,none⟩=some (.slice ra (tabL f).length rc):=by simp
  have ql5:w4.heap.size<(w4.alloc (Obj.cells #[.slice ra (tabL f).length rc] 30)).heap.size:=by simp
  have HM:Hid (∀ W,Below (w4.alloc (Obj.cells #[.slice ra (tabL f).length rc] 30)).heap.size (w4.alloc (Obj.cells #[.slice ra (tabL f).length rc] 30)) W→W.cell? ⟨tb,0,none⟩=some (.slice va (tabL f).length vc)∧W.cell? ⟨w4.heap.size,0,none⟩=some (.slice ra (tabL f).length rc)∧SlW (tabL f) (.slice va (tabL f).length vc) W∧SlW (tabL f) (.slice ra (tabL f).length rc) W∧Below w.heap.size w W):=fun W hW=>by
    have c5:=b5.trans (hW.mono b5.size)
    have c3:=b4.trans (c5.mono b4.size)
    obtain ⟨y0,y1,y2,_⟩:=HK.out W c3
    exact ⟨y0,(hW.cell (p:=⟨w4.heap.size,0,none⟩) ql5).trans q0,y1,HSR.out W c5,y2⟩
  clear k4 HSR q0 HK b4 ql
  go_upto_region 5 with fail
  obtain ⟨tr,htr⟩:∃ tr,w4.heap.size=tr:=⟨_,rfl⟩
  rw [htr] at HM ql5 ⊢
  generalize w4.alloc (Obj.cells #[.slice ra (tabL f).length rc] 30)=w5 at *
  clear b5 htr ql5
  have BD:Below w5.heap.size w5 w5.drew:=(Below.refl _ _).drew
  obtain ⟨q0,q1,qs,_,_⟩:=HM.out w5.drew BD
  have HTO:=torn_any (tabL f) _ w5.drew qs (by omega)
  have hS0:(fun W:World=>(W.cell? ⟨tb,0,none⟩=some (.slice va (tabL f).length vc)∧W.cell? ⟨tr,0,none⟩=some (.slice ra (tabL f).length rc))) w5.drew:=⟨q0,q1⟩
  clear q0 q1 qs
  go_wp2_with fail
  refine wp_region_L (fun W=>W.cell? ⟨tb,0,none⟩=some (.slice va (tabL f).length vc)∧W.cell? ⟨tr,0,none⟩=some (.slice ra (tabL f).length rc)) 6 (by kernel_rfl) 6 rfl ?_
  refine tk 0 ⟨some 24,.load 30 (.tmp 3),30, "law.go:31",#[],none⟩ hS0 ?_;simp only [Act.put,sA,s0,sS]
  refine tk 2 ⟨some 26,.load 30 (.tmp 5),30, "law.go:31",#[],none⟩ hS0 ?_;simp only [Act.put,sA,s0,sS]
  refine wpAnyL_one' (i:=1) (o:=⟨some 25,.call ⟨.value (.func 12),#[.tmp 24],#[30]⟩,36, "law.go:31",#[⟨0,.data⟩],none⟩) (by kernel_rfl) rfl rfl (fun KQ hK=>?_)
  go_simp
  refine HTO.mono ?_
  rintro e w6 ⟨tv,rfl,htv,_,b6⟩
  have c6:Below w5.heap.size w5 w6:=BD.trans (b6.mono BD.size)
  obtain ⟨q0,q1,_,qr,_⟩:=HM.out w6 c6
  have hS1:(fun W:World=>(W.cell? ⟨tb,0,none⟩=some (.slice va (tabL f).length vc)∧W.cell? ⟨tr,0,none⟩=some (.slice ra (tabL f).length rc))) w6:=⟨q0,q1⟩
  refine hK.out _ _ (fun _=>hS1) ?_
  clear hK q0 q1 HTO
  have HRT:=rtorn_any (tabL f) _ w6 qr (by omega)
  clear qr
  refine wpAnyL_one' (i:=3) (o:=⟨some 27,.call ⟨.value (.func 13),#[.tmp 26],#[30]⟩,36, "law.go:31",#[⟨2,.data⟩,⟨1,.chain⟩],none⟩) (by kernel_rfl) rfl rfl (fun KQ hK=>?_)
  go_simp
  refine HRT.mono ?_
  rintro e w7 ⟨rv,rfl,hrv,_,b7⟩
  have c7:Below w5.heap.size w5 w7:=c6.trans (b7.mono c6.size)
  obtain ⟨q0,q1,_,_,_⟩:=HM.out w7 c7
  have hS2:(fun W:World=>(W.cell? ⟨tb,0,none⟩=some (.slice va (tabL f).length vc)∧W.cell? ⟨tr,0,none⟩=some (.slice ra (tabL f).length rc))) w7:=⟨q0,q1⟩
  refine hK.out _ _ (fun _=>hS2) ?_
  clear hK q0 q1 HRT
  have HTV:Hid (∀ W,Below w7.heap.size w7 W→SlG (tornL (tabL f)) tv W∧SlG (tornL (tabL f)) rv W):=fun W hW=>⟨htv.next (b7.trans (hW.mono b7.size)),hrv.next hW⟩
  obtain ⟨tva,tvc,rfl,_⟩:=htv
  obtain ⟨rva,rvc,rfl,_⟩:=hrv
  refine tk 4 ⟨some 7,.assign (.tmp 25),36, "law.go:31",#[⟨1,.data⟩,⟨3,.chain⟩,⟨0,.phase⟩,⟨1,.phase⟩,⟨2,.textOnly .lateStores⟩,⟨3,.textOnly .lateStoresUnsure⟩],none⟩ hS2 ?_;simp only [Act.put,sA,s0,sS]
  refine tk 5 ⟨some 8,.assign (.tmp 27),36, "law.go:31",#[⟨3,.data⟩,⟨4,.chain⟩,⟨0,.phase⟩,⟨1,.phase⟩,⟨2,.phase⟩,⟨3,.phase⟩,⟨4,.phase⟩],none⟩ hS2 ?_;simp only [Act.put,sA,s0,sS]
  refine wpAnyL_done (by kernel_rfl) ?_ _
  clear hS0 hS1 hS2
  have HLT:Hid ((tornL (tabL f)).length≤240000):=Nat.le_trans (tornL_len _) hsz
  generalize tornL (tabL f)=L at *
  go_wp2_with fail
  go_loopw [35] (fun iv wr=>∃ (i:Nat),iv=.int .i64 i∧i≤L.length∧Below w7.heap.size w7 wr) (fun i _=>L.length - (Go.RowKit.intOf i).toNat)
  case atStart=>exact ⟨0,rfl,Nat.zero_le _,Below.refl _ _⟩
  case round =>
  obtain ⟨i,rfl,hi,BR⟩:=hrel
  by_cases hlt:i<L.length
  case neg =>
    have cR:Below w5.heap.size w5 wr:=c7.trans (BR.mono c7.size)
    obtain ⟨q0,q1,qs,qr,qb⟩:=HM.out wr cR
    have HS:=rsame12_any (tabL f) (tabL f) _ _ wr qs qr
    have HD:Hid (decide (tabL f=tabL f)=true):=decide_eq_true rfl
    rw [HD.out] at HS
    clear HD qs qr HM HTV
    go_wp2_with fail
    refine HS.mono ?_
    rintro e w8 ⟨rfl,b8⟩
    have B8:=below_then qb b8 qb.size
    have HA2:=HAW.out _ B8
    clear HAW HS b8 q0 q1
    go_wp2_with fail
    refine HA2.mono ?_
    rintro e w9 ⟨rfl,b9⟩
    have B9:=below_then B8 b9 B8.size
    clear HA2 b9
    go_wp2_with fail
    go_ret
    exact ⟨rfl,B9⟩
  obtain ⟨⟨_,_,e0,hrl,_⟩,⟨_,_,e1,hrm,_⟩⟩:=HTV.out wr BR
  cases e0
  cases e1
  have BDR:Below w7.heap.size w7 wr.drew:=BR.drew
  obtain ⟨b2,o2,rfl,hb2,p0,p1',_⟩:=hrl.at (Below.refl _ wr).drew hlt
  obtain ⟨b3,o3,rfl,hb3,q0,q1',_⟩:=hrm.at (Below.refl _ wr).drew hlt
  generalize L[i]=p at *
  obtain ⟨p1,p2⟩:=p
  simp only at *
  have hnq2:=neqA2 p1 p2
  have hS0:(fun W:World=>((W.cell? ⟨b2,o2+i * 2,none⟩=some (.int .i64 p1)∧W.cell? ⟨b2,o2+i * 2+1,none⟩=some (.int .i64 p2))∧(W.cell? ⟨b3,o3+i * 2,none⟩=some (.int .i64 p1)∧W.cell? ⟨b3,o3+i * 2+1,none⟩=some (.int .i64 p2)))) wr.drew:=⟨⟨p0,p1'⟩,q0,q1'⟩
  clear hrl hrm p0 p1' q0 q1' HTV
  go_wp2_with fail
  refine wp_region_L (fun W=>(W.cell? ⟨b2,o2+i * 2,none⟩=some (.int .i64 p1)∧W.cell? ⟨b2,o2+i * 2+1,none⟩=some (.int .i64 p2))∧(W.cell? ⟨b3,o3+i * 2,none⟩=some (.int .i64 p1)∧W.cell? ⟨b3,o3+i * 2+1,none⟩=some (.int .i64 p2))) 9 (by kernel_rfl) 9 rfl ?_
  refine tk 0 ⟨some 38,.move (.tmp 7),36, "law.go:36",#[],none⟩ hS0 ?_;simp only [Act.put,sA,s0,sS]
  refine tk 1 ⟨some 39,.move (.tmp 9),3, "law.go:36",#[],none⟩ hS0 ?_;simp only [Act.put,sA,s0,sS]
  refine tk 2 ⟨some 40,.indexAddr 36 (.tmp 38) (.tmp 39),0, "law.go:36",#[⟨0,.data⟩,⟨1,.data⟩],none⟩ hS0 ?_;simp only [Act.put,sA,s0,sS]
  refine tk 3 ⟨some 41,.load 38 (.tmp 40),38, "law.go:36",#[⟨2,.data⟩],none⟩ hS0 ?_;simp only [Act.put,sA,s0,sS]
  refine tk 4 ⟨some 42,.move (.tmp 8),36, "law.go:36",#[],none⟩ hS0 ?_;simp only [Act.put,sA,s0,sS]
  refine tk 5 ⟨some 43,.move (.tmp 9),3, "law.go:36",#[],none⟩ hS0 ?_;simp only [Act.put,sA,s0,sS]
  refine tk 6 ⟨some 44,.indexAddr 36 (.tmp 42) (.tmp 43),0, "law.go:36",#[⟨4,.data⟩,⟨5,.data⟩],none⟩ hS0 ?_;simp only [Act.put,sA,s0,sS]
  refine tk 7 ⟨some 45,.load 38 (.tmp 44),38, "law.go:36",#[⟨6,.data⟩],none⟩ hS0 ?_;simp only [Act.put,sA,s0,sS]
  refine tk 8 ⟨some 46,.binOp .neq 38 (.tmp 41) (.tmp 45) 38,4, "law.go:36",#[⟨3,.data⟩,⟨7,.data⟩],none⟩ hS0 ?_;simp only [Act.put,sA,s0,sS]
  refine wpAnyL_done (by kernel_rfl) ?_ _
  clear hS0 hnq2
  go_wp2_with fail
  exact ⟨⟨i+1,by go_num,by omega,BDR⟩,by simp [Go.RowKit.intOf]; omega⟩
end Go.Proofs.YtbilbgjojdlobaaGreatDoor
namespace Go.Proofs.YtbilbgjojdlobaaGreatDoor
open Go.ChangeShapes Go.WideShapes Go.ChangeAt Go.RowKit Go.Joins Go.Deep
theorem own:ownKnob Tryz.prog.godebug=none:=by kernel_rfl
theorem cellsItem:Tryz.prog.cellsOf 55=3:=by kernel_rfl
theorem cellsProd:Tryz.prog.cellsOf 58=3:=by kernel_rfl
theorem cellsFlat:Tryz.prog.cellsOf 25=3:=by kernel_rfl
theorem cellsInt:Tryz.prog.cellsOf 3=1:=by kernel_rfl
theorem cellsStr:Tryz.prog.cellsOf 9=1:=by kernel_rfl
theorem cellsItems:Tryz.prog.cellsOf 56=1:=by kernel_rfl
theorem laidOut:laidOutB Tryz.prog=true:=by kernel_rfl
theorem cell_plain {W:World} {a:Addr} {v:Value} (h:W.cell? a=some v):∃ b off,a=⟨b,off,none⟩:=by
  obtain ⟨b,off,spot⟩:=a
  have hs:spot=none:=by simpa using World.cell?_spot h
  subst hs
  exact ⟨b,off,rfl⟩
theorem i64_of {a:Int} (w:(Lit.int .i64 a).wf=true):i64B a:=by
  have:=bounds_i64 w
  exact ⟨this.1,this.2⟩
theorem three_of:∀ {l:List Value},l.length=3→∃ a b c,l=[a,b,c]
  | [a,b,c],_=>⟨a,b,c,rfl⟩
theorem getR {α:Type} {l n:Nat} {q:Nat→α} (hl:l=n) {i:Nat} {x:α} (h:((List.range l).map q)[i]?=some x):i<n∧x=q i:=by
  have hi:i<l:=by
    have:=(List.getElem?_eq_some_iff.1 h).1
    simpa using this
  rw [List.getElem?_map,List.getElem?_range hi] at h
  exact ⟨by omega,(Option.some.inj h).symm⟩
variable {H:Type} {enc:TypeId × Value→H} {W:World}
theorem weights_all {P:Program} {e:TypeId}:∀ {l:List (DataW H)} {x:DataW H},x∈l→∀ n∈x.weights P e,n∈DataW.weightsAll P e l
  | d :: r,x,h,n,hn=>by
    rw [DataW.weightsAll,List.mem_append]
    rcases List.mem_cons.1 h with rfl | h
    · exact .inl hn
    · exact .inr (weights_all h n hn)
theorem weigh_slice {t e:TypeId} {l m:Nat} {D:Nat→DataW H} (hu:Tryz.prog.underlying t=some (.slice e)) (hlm:l≤m)
    (hw:∀ n∈(DataW.slice ((List.range l).map D) ((List.range (m - l)).map fun j=>D (l+j)):DataW H).weights Tryz.prog t,n≤reachBytes) :
    m * Tryz.prog.bytesOf e≤reachBytes∧∀ i,i<l→∀ n∈(D i).weights Tryz.prog e,n≤reachBytes:=by
  rw [DataW.weights,hu] at hw
  simp only at hw
  refine ⟨?_,fun i hi n hn=>hw n ?_⟩
  · have:=hw _ (List.mem_cons_self ..)
    simp only [List.length_map,List.length_range] at this
    rw [show l+(m - l)=m by omega] at this
    exact this
  · refine List.mem_cons_of_mem _ (List.mem_append.2 (.inl (weights_all (List.mem_map.2 ⟨i,List.mem_range.2 hi,rfl⟩) n hn)))
theorem bytesItem:Tryz.prog.bytesOf 55=40:=by kernel_rfl
theorem bytesProd:Tryz.prog.bytesOf 58=40:=by kernel_rfl
theorem bytesStr:Tryz.prog.bytesOf 9=16:=by kernel_rfl
theorem open_texts {fuel:Nat} {cs:List Value} {x:DataW H × List MemPlace} (hf:DataW.trod enc Tryz.prog W 0 (fun _=>true) true fuel 22 cs=some x) (hw:∀ n∈x.1.weights Tryz.prog 22,n≤reachBytes) :
    ∃ (es:List ByteArray) (ao:Option Addr) (cap:Nat),cs=[.slice ao es.length cap]∧RowAt Value.string es ao W∧es.length≤140737488351232:=by
  rcases open_slice Tryz.underlying22 hf with ⟨hcs,_⟩ | ⟨a,l,c,m,n,D,Pl,hcs,_,hl,hmx,hmm,hx,hel⟩
  · exact ⟨[],none,0,hcs,RowAt.nil _ _ _,by simp⟩
  · have hlm:l≤m:=by rw [hmm]; split <;> omega
    rw [hx] at hw
    have hwt:=weigh_slice Tryz.underlying22 hlm hw
    rw [bytesStr] at hwt
    unfold reachBytes at hwt
    have each:∀ i,i<l→∃ q:ByteArray,W.cell? (a.add i)=some (.string q):=by
      intro i hi
      obtain ⟨cs',h1,h2⟩:=hel i (by omega)
      rw [cellsStr] at h1
      obtain ⟨_,hlen',hcell⟩:=World.cells?_some h1
      obtain ⟨s,e0,_⟩:=DataW.trod_string Tryz.underlying9 h2
      subst e0
      have q0:=hcell 0 (by omega)
      rw [add_add] at q0
      exact ⟨s,by simpa using q0⟩
    obtain ⟨q,hq⟩:=choose_lt each
    refine ⟨(List.range l).map q,some a,c,by simpa using hcs,fun i r hr=>?_,by simp; omega⟩
    obtain ⟨hi,rfl⟩:=getR rfl hr
    have c0:=hq i hi
    have hc':W.cell? a=some (.string (q 0)):=by simpa [Addr.add] using hq 0 (by omega)
    obtain ⟨b,off,rfl⟩:=cell_plain hc'
    rw [add_plain] at c0
    exact ⟨b,off,rfl,World.block_lt_of_cell? W _ hc',c0⟩
theorem open_items {fuel:Nat} {cs:List Value} {x:DataW H × List MemPlace} (hf:DataW.trod enc Tryz.prog W 0 (fun _=>true) true fuel 56 cs=some x) (hw:∀ n∈x.1.weights Tryz.prog 56,n≤reachBytes) :
    ∃ (es:List It) (v:Value),cs=[v]∧SlT es v W:=by
  rcases open_slice Tryz.underlying56 hf with ⟨hcs,_⟩ | ⟨a,l,c,m,n,D,Pl,hcs,_,hl,hmx,hmm,hx,hel⟩
  · exact ⟨[],_,hcs,none,0,rfl,fun i x hi=>by simp at hi,fun _=>rfl,Nat.le_refl _,by omega⟩
  · have hm:m=c:=by simpa using hmm
    subst hm
    rw [hx] at hw
    have hwt:=weigh_slice Tryz.underlying56 hl hw
    rw [bytesItem] at hwt
    unfold reachBytes at hwt
    have each:∀ i,i<l→∃ q:It,W.cell? (a.add (i * 3))=some (.int .i64 q.sym)∧W.cell? (a.add (i * 3+1))=some (.string q.fld)∧W.cell? (a.add (i * 3+2))=some (.string q.als)∧i64B q.sym∧q.fld.size≤9223372036854775807∧q.als.size≤9223372036854775807:=by
      intro i hi
      obtain ⟨cs',h1,h2⟩:=hel i (by omega)
      rw [cellsItem] at h1
      obtain ⟨_,hlen',hcell⟩:=World.cells?_some h1
      obtain ⟨y0,y1,y2,k,hy,_,g0,g1,g2⟩:=trod_struct3 Tryz.underlying55 h2
      obtain ⟨v0,v1,v2,rfl⟩:=three_of hlen'
      simp [cellsInt,cellsStr] at g0 g1 g2
      obtain ⟨x0,e0,_,w0⟩:=DataW.trod_int Tryz.underlying3 g0
      obtain ⟨s1,e1,_,w1⟩:=DataW.trod_string Tryz.underlying9 g1
      obtain ⟨s2,e2,_,w2⟩:=DataW.trod_string Tryz.underlying9 g2
      simp at e0 e1 e2
      subst e0 e1 e2
      have q0:=hcell 0 (by omega)
      have q1:=hcell 1 (by omega)
      have q2:=hcell 2 (by omega)
      rw [add_add] at q0 q1 q2
      unfold maxLen at w1 w2
      exact ⟨⟨x0,s1,s2⟩,by simpa using q0,by simpa using q1,by simpa using q2,i64_of w0,w1,w2⟩
    haveI:Inhabited It:=⟨⟨0,ByteArray.empty,ByteArray.empty⟩⟩
    obtain ⟨q,hq⟩:=choose_lt each
    refine ⟨(List.range l).map q,_,hcs,some a,m,by simp,fun i r hr=>?_,(fun h=>by cases h),by simpa using hl,by omega⟩
    obtain ⟨hi,rfl⟩:=getR rfl hr
    obtain ⟨c0,c1,c2,c3⟩:=hq i hi
    have hc':W.cell? a=some (.int .i64 (q 0).sym):=by simpa [Addr.add] using (hq 0 (by omega)).1
    obtain ⟨b,off,rfl⟩:=cell_plain hc'
    rw [add_plain] at c0 c1 c2
    exact ⟨b,off,rfl,World.block_lt_of_cell? W _ hc',c0,c1,c2,c3⟩
set_option maxRecDepth 100000 in
theorem open_prods {fuel:Nat} {cs:List Value} {x:DataW H × List MemPlace} (hf:DataW.trod enc Tryz.prog W 0 (fun _=>true) true fuel 23 cs=some x) (hw:∀ n∈x.1.weights Tryz.prog 23,n≤reachBytes) :
    ∃ (es:List Pr) (ao:Option Addr) (cap:Nat),cs=[.slice ao es.length cap]∧PrsAt es ao W∧es.length≤140737488351232∧es.length≤cap∧(ao=none→cap=0):=by
  rcases open_slice Tryz.underlying23 hf with ⟨hcs,_⟩ | ⟨a,l,c,m,n,D,Pl,hcs,_,hl,hmx,hmm,hx,hel⟩
  · exact ⟨[],none,0,hcs,fun i x hi=>by simp at hi,by simp,by simp,fun _=>rfl⟩
  · have hm:m=c:=by simpa using hmm
    subst hm
    rw [hx] at hw
    have hwt:=weigh_slice Tryz.underlying23 hl hw
    rw [bytesProd] at hwt
    have hb:=hwt.1
    unfold reachBytes at hb
    have each:∀ i,i<l→∃ q:Pr × Value,W.cell? (a.add (i * 3))=some (.int .i64 q.1.left)∧W.cell? (a.add (i * 3+1))=some q.2∧W.cell? (a.add (i * 3+2))=some (.int .i64 q.1.prec)∧SlT q.1.right q.2 W∧i64B q.1.left∧i64B q.1.prec:=by
      intro i hi
      obtain ⟨cs',h1,h2⟩:=hel i (by omega)
      rw [cellsProd] at h1
      obtain ⟨_,hlen',hcell⟩:=World.cells?_some h1
      obtain ⟨y0,y1,y2,k,hy,_,g0,g1,g2⟩:=trod_struct3 Tryz.underlying58 h2
      have hwi:=hwt.2 i hi
      have hy1:D i=.agg [y0.1,y1.1,y2.1]:=by have:=congrArg Prod.fst hy; exact this
      rw [hy1,DataW.weights,Tryz.underlying58] at hwi
      obtain ⟨v0,v1,v2,rfl⟩:=three_of hlen'
      simp [cellsInt,cellsItems] at g0 g1 g2
      obtain ⟨x0,e0,_,w0⟩:=DataW.trod_int Tryz.underlying3 g0
      obtain ⟨x2,e2,_,w2⟩:=DataW.trod_int Tryz.underlying3 g2
      obtain ⟨its,vv,e1,hT⟩:=open_items g1 (fun n hn=>hwi n (by simp [DataW.weightsEach,hn]))
      simp at e0 e1 e2
      subst e0 e1 e2
      have q0:=hcell 0 (by omega)
      have q1:=hcell 1 (by omega)
      have q2:=hcell 2 (by omega)
      rw [add_add] at q0 q1 q2
      exact ⟨(⟨x0,its,x2⟩,v1),by simpa using q0,by simpa using q1,by simpa using q2,hT,i64_of w0,i64_of w2⟩
    haveI:Inhabited (Pr × Value):=⟨(⟨0,[],0⟩,.bool false)⟩
    obtain ⟨q,hq⟩:=choose_lt each
    refine ⟨(List.range l).map fun i=>(q i).1,some a,m,by simpa using hcs,fun i r hr=>?_,by simp; omega,by simpa using hl,(fun h=>by cases h)⟩
    obtain ⟨hi,rfl⟩:=getR rfl hr
    obtain ⟨c0,c1,c2,c3⟩:=hq i hi
    have hc':W.cell? a=some (.int .i64 (q 0).1.left):=by simpa [Addr.add] using (hq 0 (by omega)).1
    obtain ⟨b,off,rfl⟩:=cell_plain hc'
    rw [add_plain] at c0 c1 c2
    exact ⟨b,off,_,rfl,World.block_lt_of_cell? W _ hc',c0,c1,c2,c3⟩
set_option maxRecDepth 100000 in
theorem open_flat {r:Reach} {b0:Nat} {v:Value} {d:DataW H} {p:List MemPlace} (hv:Value.okWide Tryz.prog W r b0 25 v) (h:DataW.Trod enc Tryz.prog W 0 (fun _=>true) true 25 v d p) (hw:∀ n∈d.weights Tryz.prog 25,n≤reachBytes) :
    ∃ f a,v=FlA.val a f∧FlAt f a W:=by
  obtain ⟨v0,v1,v2,y0,y1,y2,n,rfl,rfl,_,g0,g1,g2⟩:=open_agg3 Tryz.underlying25 (by kernel_rfl) cellsFlat hv h
  rw [DataW.weights,Tryz.underlying25] at hw
  obtain ⟨ts,ta,tc,e0,hT,lt⟩:=open_texts g0 (fun n hn=>hw n (by simp [DataW.weightsEach,hn]))
  obtain ⟨ns,na,nc,e1,hN,ln⟩:=open_texts g1 (fun n hn=>hw n (by simp [DataW.weightsEach,hn]))
  obtain ⟨ps,pa,pc,e2,hP,lp,lc,ln0⟩:=open_prods g2 (fun n hn=>hw n (by simp [DataW.weightsEach,hn]))
  simp at e0 e1 e2
  subst e0 e1 e2
  exact ⟨⟨ts,ns,ps⟩,⟨ta,tc,na,nc,pa,pc⟩,rfl,hT,hN,hP,lt,ln,lp,lc,ln0⟩
variable {H:Type} {enc:TypeId × Value→H} {W:World}
abbrev laidL:List (String × DataW Unit):=[("math/bits.deBruijn64tab",Rows.laid_math_bits_deBruijn64tab)]
theorem Tryz.gTab:Tryz.prog.globalNamed "math/bits.deBruijn64tab" = some 0:=by kernel_rfl
theorem tTab:(Tryz.prog.globals[0]?).map (·.type)=some 253:=by kernel_rfl
theorem tb_of_laid {W:World} (h:laidMetH Tryz.prog laidL W):Tb W:=by
  rw [MakeChecks.laidMetH_plain _ _ _ (by kernel_rfl)] at h
  have htab:=Lib.tabIs_of_head (k:=.u8) (zs:=Lib.deBruijn64tab.map (fun n:Nat=>(n:Int))) Tryz.gTab tTab Tryz.underlying253 Tryz.underlying5 (by kernel_rfl) (by kernel_rfl) h
  unfold Lib.TabIs at htab
  have key:TabAt 0 Lib.deBruijn64tab W:=fun j hj=>by
    have:=World.var?_cell Tryz.gTab htab j
    rw [this]
    simp [hj]
  exact ⟨key,World.block_lt_of_cell? W _ (key 0 (by decide))⟩
theorem door_met (os:Os) (args:Array Value):laidMetH Tryz.prog laidL ((World.doorLaid Tryz.prog 200 os).forCall (fun _ _=>0) ⟨#[],args,[]⟩).memory :=
  laidMetH_of_parts3 (fuel:=8) (laidMet_of_run' 8 (by kernel_rfl) (by kernel_rfl)) (by kernel_rfl) (by kernel_rfl)
end Go.Proofs.YtbilbgjojdlobaaGreatDoor
