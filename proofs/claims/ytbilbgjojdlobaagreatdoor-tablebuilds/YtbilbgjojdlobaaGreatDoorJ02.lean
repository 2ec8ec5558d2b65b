import Derived.Test.YtbilbgjojdlobaaGreatDoorJ01
import Derived.Deep.RegionHeld3

namespace Go.Proofs.YtbilbgjojdlobaaGreatDoor
section
variable {P:Program} {ops:Array Oper} {Q:Exit→Act→World→Prop} {md:Region.Mode} {S:World→Prop} {n:Nat}
def wpAnyL (P:Program) (md:Region.Mode) (ops:Array Oper) (Q:Exit→Act→World→Prop) (S:World→Prop) (n:Nat):Nat→Array Bool→Act→World→Prop
  | 0,listed,a,w=>Region.ready md ops listed=[]∧Q .normal a w
  | fuel+1,listed,a,w =>
    (Region.ready md ops listed=[]→Q .normal a w) ∧
    ∀ i∈Region.ready md ops listed,wpOp P ops Q i (fun a' w'=>(i<n→S w')∧wpAnyL P md ops Q S n fuel (listed.setIfInBounds i true) a' w') a w
theorem wpAny_of_L:∀ (fuel:Nat) (listed:Array Bool) (a:Act) (w:World),wpAnyL P md ops Q S n fuel listed a w→wpAny P md ops Q fuel listed a w
  | 0,_,_,_,h=>h
  | fuel+1,_,_,_,h=>⟨h.1,fun i hi=>wpOp_mono (fun a' w' h'=>wpAny_of_L fuel _ a' w' h'.2) (h.2 i hi)⟩
def lateB (md:Region.Mode) (ops:Array Oper) (n i:Nat):Bool :=
  (List.range ops.size).all fun j=>decide (j<n) || ((ops[j]?).map fun o=>o.after.any fun e=>Region.binds md e && e.on == i).getD true
theorem late_spec {i:Nat} (h:lateB md ops n i=true) {j:Nat} {oj:Oper} (hj:ops[j]?=some oj) (hn:¬ j<n):∃ e∈oj.after,Region.binds md e=true∧e.on=i:=by
  have hlt:j<ops.size:=by
    rcases Nat.lt_or_ge j ops.size with h' | h'
    · exact h'
    · rw [Array.getElem?_eq_none h'] at hj; cases hj
  have h1:=List.all_eq_true.1 h j (List.mem_range.2 hlt)
  rw [hj,decide_eq_false hn] at h1
  simp only [Bool.false_or,Option.map_some,Option.getD_some] at h1
  obtain ⟨k,hk,h2⟩:=Array.any_eq_true.1 h1
  simp only [Bool.and_eq_true,beq_iff_eq] at h2
  exact ⟨_,Array.getElem_mem hk,h2⟩
theorem wpAnyL_first {i:Nat} {oi:Oper} {v:Value} (hi:ops[i]?=some oi) (hsel:∀ (j:Nat) (o:Oper) cs b,ops[j]?=some o→o.op≠.select cs b)
    (hQ:∀ c a w,Q (.panic c) (a.put oi.dst v) w→Q (.panic c) a w) (hl:lateB md ops n i=true) :
    ∀ (fuel:Nat) (listed:Array Bool) (a:Act) (w:World),
      (∀ j oj,ops[j]?=some oj→j≠i→listed.getD j true=false→(∀ e∈oj.after,Region.binds md e=true→e.on≠i)→oi.apart ops oj=true) →
      i∈Region.ready md ops listed→YieldsIf P ops S oi v a→S w →
      wpAnyL P md ops Q S n fuel (listed.setIfInBounds i true) (a.put oi.dst v) w→wpAnyL P md ops Q S n (fuel+1) listed a w:=by
  intro fuel
  induction fuel with
  | zero =>
    intro listed a w _ hr hy hS H
    refine ⟨fun h=>(by rw [h] at hr; cases hr),fun j hj=>?_⟩
    by_cases hji:j=i
    · subst hji; exact hy.wpOp hi hS ⟨fun _=>hS,H⟩
    · have:=ready_mono hj hji
      rw [H.1] at this
      cases this
  | succ fuel ih =>
    intro listed a w hfree hr hy hS H
    refine ⟨fun h=>(by rw [h] at hr; cases hr),fun j hj=>?_⟩
    by_cases hji:j=i
    · subst hji; exact hy.wpOp hi hS ⟨fun _=>hS,H⟩
    · have h1:=H.2 j (ready_mono hj hji)
      obtain ⟨hjun,oj,hoj,hall⟩:=mem_ready.1 hj
      have hnot:∀ e∈oj.after,Region.binds md e=true→e.on≠i:=fun e he hb heq=>by
        have h1:=hall e he hb
        have h0:=(mem_ready.1 hr).1
        rw [heq] at h1
        rcases Nat.lt_or_ge i listed.size with h' | h'
        · simp [h'] at h0 h1; rw [h0] at h1; cases h1
        · simp [Array.getElem?_eq_none h'] at h1
      have hjn:j<n:=by
        rcases Nat.lt_or_ge j n with h' | h'
        · exact h'
        · obtain ⟨e,he,hb,heq⟩:=late_spec hl hoj (by omega)
          exact absurd heq (hnot e he hb)
      have h2:=wpOp_putIf hoj (hfree j oj hoj hji hjun hnot) (fun cs b=>hsel i oi cs b hi) (fun cs b=>hsel j oj cs b hoj) hQ hy h1
      have hfree':∀ k ok,ops[k]?=some ok→k≠i→(listed.setIfInBounds j true).getD k true=false →
          (∀ e∈ok.after,Region.binds md e=true→e.on≠i)→oi.apart ops ok=true:=fun k ok hk hki hun hno=>by
        refine hfree k ok hk hki ?_ hno
        by_cases hjk:j=k
        · subst hjk; exact hjun
        · rw [getD_set_ne true hjk] at hun; exact hun
      refine wpOp_mono (fun a' w' h3=>⟨h3.2.1,ih (listed.setIfInBounds j true) a' w' hfree' (ready_mono hr (Ne.symm hji)) h3.1 (h3.2.1 hjn) ?_⟩) h2
      rw [Array.setIfInBounds_comm _ _ hji]
      exact h3.2.2
theorem wpAnyL_take {i:Nat} {oi:Oper} {v:Value} {fuel:Nat} {listed:Array Bool} {a:Act} {w:World} (hi:ops[i]?=some oi)
    (hs:Region.noSelect ops=true) (hf:Region.free md ops listed i=true) (hr:(Region.ready md ops listed).contains i=true) (hl:lateB md ops n i=true)
    (hQ:∀ c a w,Q (.panic c) (a.put oi.dst v) w→Q (.panic c) a w) (hy:YieldsIf P ops S oi v a) (hS:S w)
    (h:wpAnyL P md ops Q S n fuel (listed.setIfInBounds i true) (a.put oi.dst v) w):wpAnyL P md ops Q S n (fuel+1) listed a w :=
  wpAnyL_first hi (Region.noSelect_spec hs) hQ hl fuel listed a w (Region.free_spec hi hf) (by simpa using hr) hy hS h
theorem wpAnyL_one {i:Nat} {o:Oper} {fuel:Nat} {listed:Array Bool} {a:Act} {w:World} (hr:Region.ready md ops listed=[i]) (ho:ops[i]?=some o)
    (h:∀ K':Act→World→Prop,Shut (∀ a w,(i<n→S w)→wpAnyL P md ops Q S n fuel (listed.setIfInBounds i true) a w→K' a w)→if Region.wanted o (yielded ops a.tmps)=true then Oper.wp P o a w K' Q else K' (a.put o.dst undef) w) :
    wpAnyL P md ops Q S n (fuel+1) listed a w:=by
  refine ⟨fun h0=>(by rw [hr] at h0; cases h0),fun j hj=>?_⟩
  rw [hr] at hj
  simp at hj
  subst hj
  exact wpOp_step ho (fun K' hK=>h K' (fun a w hS hW=>hK a w ⟨hS,hW⟩))
def lst (N k:Nat):Array Bool:=(List.replicate k true++List.replicate (N - k) false).toArray
theorem lst_set {N k:Nat} (h:k<N):(lst N k).setIfInBounds k true=lst N (k+1):=by
  unfold lst
  rw [List.setIfInBounds_toArray]
  congr 1
  apply List.ext_getElem
  · simp; omega
  · intro i h1 h2
    rw [List.getElem_set]
    by_cases e:k=i
    · subst e; simp
    · rw [if_neg e]
      rw [List.getElem_append,List.getElem_append]
      by_cases hi:i<k
      · rw [dif_pos (by simpa using hi),dif_pos (by simp; omega)]; simp
      · rw [dif_neg (by simpa using hi),dif_neg (by simp; omega)]; simp
theorem wpL_take {k N:Nat} {oi:Oper} {v:Value} {fuel:Nat} {a:Act} {w:World} (hk:k<N) (hi:ops[k]?=some oi)
    (hs:Region.noSelect ops=true) (hf:Region.free md ops (lst N k) k=true) (hr:(Region.ready md ops (lst N k)).contains k=true) (hl:lateB md ops n k=true)
    (hQ:∀ c a w,Q (.panic c) (a.put oi.dst v) w→Q (.panic c) a w) (hy:YieldsIf P ops S oi v a) (hS:S w)
    (h:wpAnyL P md ops Q S n fuel (lst N (k+1)) (a.put oi.dst v) w):wpAnyL P md ops Q S n (fuel+1) (lst N k) a w :=
  wpAnyL_take hi hs hf hr hl hQ hy hS (by rw [lst_set hk]; exact h)
theorem wpL_one {k N:Nat} {o:Oper} {fuel:Nat} {a:Act} {w:World} (hk:k<N) (hr:Region.ready md ops (lst N k)=[k]) (ho:ops[k]?=some o)
    (h:∀ K':Act→World→Prop,Shut (∀ a w,(k<n→S w)→wpAnyL P md ops Q S n fuel (lst N (k+1)) a w→K' a w)→if Region.wanted o (yielded ops a.tmps)=true then Oper.wp P o a w K' Q else K' (a.put o.dst undef) w) :
    wpAnyL P md ops Q S n (fuel+1) (lst N k) a w :=
  wpAnyL_one hr ho (by rw [lst_set hk]; exact h)
theorem wpAnyL_done {listed:Array Bool} {a:Act} {w:World} (hr:Region.ready md ops listed=[]) (h:Q .normal a w) :
    ∀ fuel,wpAnyL P md ops Q S n fuel listed a w
  | 0=>⟨hr,h⟩
  | _+1=>⟨fun _=>h,by rw [hr]; simp⟩
theorem wp_region_L {id:Nat} {a:Act} {w:World} (S:World→Prop) (n:Nat) (hm:P.follows .mixedOrders=true)
    (N:Nat) (hN:ops.size=N) (h:wpAnyL P .any ops Q S n N (lst N 0) a w.drew):(Code.region id ops true).wp P Q a w:=by
  refine wp_region_any hm (wpAny_of_L (S:=S) (n:=n) _ _ _ _ ?_)
  have e:lst N 0=Array.replicate ops.size false:=by rw [hN]; simp [lst]
  rw [← e,hN]
  exact h
end
theorem lk {P:Program} {md:Region.Mode} {ops:Array Oper} {Q:Exit→Act→World→Prop} {S:World→Prop} {n i N:Nat} (oi:Oper) {v:Value} {fuel:Nat} {a:Act} {w:World} (hS:S w) (h:wpAnyL P md ops Q S n fuel (lst N (i+1)) (a.put oi.dst v) w)
 (hy:∀ w,S w→(execOp a.eval oi).run P w=.ok (.value v) w:=by intro W hSW; go_simp; try with_reducible rfl)
 (hk:i<N:=by decide) (hi:ops[i]?=some oi:=by rfl) (hs:Region.noSelect ops=true:=by kernel_rfl) (hf:Region.free md ops (lst N i) i=true:=by kernel_rfl) (hr:(Region.ready md ops (lst N i)).contains i=true:=by kernel_rfl) (hl:lateB md ops n i=true:=by kernel_rfl)
 (hQ:∀ c a w,Q (.panic c) (a.put oi.dst v) w→Q (.panic c) a w:=by first | exact fun _ _ _ h=>h | exact fun _ _ _ h=>(And.left (show (∀ c,_≠Exit.panic c)∧_ from h) _ rfl).elim) (hw:Region.wanted oi (yielded ops a.tmps)=true:=by rfl):wpAnyL P md ops Q S n (fuel+1) (lst N i) a w :=
 wpL_take hk hi hs hf hr hl hQ (Or.inl ⟨hw,hy⟩) hS h
theorem lu {P:Program} {md:Region.Mode} {ops:Array Oper} {Q:Exit→Act→World→Prop} {S:World→Prop} {n i N:Nat} (oi:Oper) {fuel:Nat} {a:Act} {w:World} (hS:S w) (h:wpAnyL P md ops Q S n fuel (lst N (i+1)) (a.put oi.dst undef) w)
 (hk:i<N:=by decide) (hi:ops[i]?=some oi:=by rfl) (hs:Region.noSelect ops=true:=by kernel_rfl) (hf:Region.free md ops (lst N i) i=true:=by kernel_rfl) (hr:(Region.ready md ops (lst N i)).contains i=true:=by kernel_rfl) (hl:lateB md ops n i=true:=by kernel_rfl)
 (hQ:∀ c a w,Q (.panic c) (a.put oi.dst undef) w→Q (.panic c) a w:=by first | exact fun _ _ _ h=>h | exact fun _ _ _ h=>(And.left (show (∀ c,_≠Exit.panic c)∧_ from h) _ rfl).elim) (hw:Region.wanted oi (yielded ops a.tmps)=false:=by rfl):wpAnyL P md ops Q S n (fuel+1) (lst N i) a w :=
 wpL_take hk hi hs hf hr hl hQ (Or.inr ⟨hw,rfl⟩) hS h
end Go.Proofs.YtbilbgjojdlobaaGreatDoor
namespace Go.Proofs.YtbilbgjojdlobaaGreatDoor
open Go.RowKit
def EmpP (f:Fl):Nat→Prop:=Der (fun _=>False) f.gr
def FstP (f:Fl):Nat→Int→Prop:=Fst (EmpP f) f.terms.length f.gr
def SlRB (B:Nat) (R:List (List Int)) (v:Value) (W:World):Prop :=
  ∃ b cap,v=.slice (some ⟨b,0,none⟩) R.length cap∧B≤b∧b<W.heap.size∧R.length≤cap∧∀ (i:Nat) (l:List Int),R[i]?=some l→∃ u,W.cell? ⟨b,i,none⟩=some u∧SlI l u W∧Apart B u
def GaveR (P:Nat→Int→Prop) (f:Fl) (w:World) (e:Ending) (w':World):Prop:=∃ v R,e=.returned v∧GivesR P f.n R∧SlRB w.heap.size R v w'∧Below w.heap.size w w'
theorem SlRB.slR {B R v W} (h:SlRB B R v W):SlR R v W:=by
  obtain ⟨b,cap,rfl,h1,h2,h3,h4⟩:=h
  refine ⟨some ⟨b,0,none⟩,cap,rfl,fun i l hi=>?_,(fun h=>by cases h),h3⟩
  obtain ⟨u,h5,h6,_⟩:=h4 i l hi
  exact ⟨b,0,u,rfl,h2,by simpa using h5,h6⟩
theorem SlRB.next {B R v W W'} (h:SlRB B R v W) (hb:Below W.heap.size W W'):SlRB B R v W':=by
  obtain ⟨b,cap,rfl,h1,h2,h3,h4⟩:=h
  refine ⟨b,cap,rfl,h1,Nat.lt_of_lt_of_le h2 hb.size,h3,fun i l hi=>?_⟩
  obtain ⟨u,h5,h6,h7⟩:=h4 i l hi
  exact ⟨u,(hb.cell (p:=⟨b,i,none⟩) h2).trans h5,h6.next hb,h7⟩
theorem SlRB.set {G R v W} (h:SlRB (G+1) R v W) (s:Nat) (u:Value):SlRB (G+1) R v (W.setCell ⟨G,s,none⟩ u):=by
  obtain ⟨b,cap,rfl,h1,h2,h3,h4⟩:=h
  refine ⟨b,cap,rfl,h1,by simpa using h2,h3,fun i l hi=>?_⟩
  obtain ⟨x,h5,h6,h7⟩:=h4 i l hi
  exact ⟨x,(cell_set_other W u (by omega)).trans h5,h6.set h7 s u,h7⟩
theorem RowR.slRB {N G B w1 C R W} (h:RowR N G w1 C R W) (hB:B≤G):SlRB B R (.slice (some ⟨G,0,none⟩) N N) W:=by
  have hlen:=h.len
  refine ⟨G,N,by rw [hlen],hB,h.lt,by rw [hlen]; exact Nat.le_refl _,fun i l hi=>?_⟩
  have hi2:i<R.length:=(List.getElem?_eq_some_iff.1 hi).1
  obtain ⟨v,h1,h2,h3⟩:=h.get (s:=i) (by omega)
  rw [rowAt_get hi2] at h2
  rw [List.getElem?_eq_getElem hi2] at hi
  cases hi
  exact ⟨v,h1,h2,h3.mono (by omega)⟩
theorem RowR.with {N G w1 R W} {C C':World→Prop} (h:RowR N G w1 C R W) (hC:C W→C' W):RowR N G w1 C' R W:=by
  obtain ⟨vs,h0,h1,h2,h3,h4,h5⟩:=h
  exact ⟨vs,h0,h1,h2,h3,h4,hC h5⟩
theorem set_alloc (W:World) {G s:Nat} (h:G<W.heap.size) {o:Obj} {v:Value}:(W.alloc o).setCell ⟨G,s,none⟩ v=(W.setCell ⟨G,s,none⟩ v).alloc o:=World.setCell_alloc_past o G s v h
theorem row_nils (N s:Nat):rowAt (List.replicate N []) s=[]:=by
  unfold rowAt; rw [List.getD_eq_getElem?_getD,List.getElem?_replicate]; split <;> rfl
structure StF (f:Fl) (R:List (List Int)):Prop where
  ok:OkR (FstP f) f.n R
  basic:∀ t:Nat,t<f.terms.length→InR R t t
theorem first_step {f:Fl} {R R':List (List Int)} {b:Bool} {j l m nl:Nat} {sy:List Nat} {A:List Int} (hst:StF f R') (hr:RoundR (ClosedF (EmpP f)) f.gr R R' b j) (htk:f.gr.take (j+1)=f.gr.take j++[(l,sy)])
    (hin:InnF (EmpP f) (FstP f) R' l sy m A) (hend:m=sy.length∨∃ y∈sy.take m,¬ EmpP f y) (hl:l<f.n) (hlt:f.terms.length≤l) (hsy:∀ x∈sy,x<f.n) (hnl:(rowAt R' l).length=nl) :
    StF f (R'.set l A)∧RoundR (ClosedF (EmpP f)) f.gr R (R'.set l A) (b || decide ((nl:Int)<A.length)) (j+1):=by
  have hll:l<R'.length:=by rw [hst.ok.len]; exact hl
  have hb:=bulk_set_row (A:=A) hll
  have hle:=hin.len hst.ok
  rw [hnl] at hb hle
  refine ⟨⟨hst.ok.set hl hin.rise hin.sub,fun t ht=>?_⟩,hr.step htk (by omega) (fun e=>?_) (fun e=>?_)⟩
  · rw [inR_set hll]
    exact .inr ⟨by omega,hst.basic t ht⟩
  · rw [Bool.or_eq_true,decide_eq_true_eq] at e
    exact e.imp id (fun h=>by omega)
  · rw [Bool.or_eq_false_iff,decide_eq_false_iff_not] at e
    obtain ⟨hA,hc⟩:=hin.closed hst.ok hl hsy (by rw [hnl]; omega) hend
    exact ⟨e.1,by rw [hA]; exact set_rowAt hll,hc⟩
set_option maxRecDepth 100000 in
set_option maxHeartbeats 3200000 in
theorem rfirst_any (f:Fl) (a:FlA) (w:World) (hf:FlAt f a w) (hp:FitP f) :
    Calls Tryz.prog 104 #[a.val f] w fun e w'=>GaveR (FstP f) f w e w':=by
  have hn:f.n≤600:=hp.size
  have hS:=fun W=>rsize_any f a W hn
  have hE:=fun W (hb:Below w.heap.size w W)=>rempty_any f a W (hf.next hb) hp
  obtain ⟨i0,hi0,hz0,hz1,hz2⟩:=info_parts info27
  obtain ⟨ta,tc,na,nc,pa,pc⟩:=a
  have X0:=FBox.new f ⟨ta,tc,na,nc,pa,pc⟩ 25 w
  have B0:Below w.heap.size w (w.alloc (fobj f ⟨ta,tc,na,nc,pa,pc⟩ 25)):=(Below.refl _ _).alloc (Nat.le_refl _) _
  obtain ⟨h0,h1,h2,h3,h4,h5,h6,h7⟩:=hf
  unfold fobj at X0 B0
  unfold FlA.val at hS hE ⊢
  simp only at *
  clear h0 h1
  have HS:Hid (∀ W,Calls Tryz.prog 136 #[.agg #[.slice ta f.terms.length tc,.slice na f.nons.length nc,.slice pa f.prods.length pc]] W fun e w'=>e=.returned (.int .i64 f.n)∧Below W.heap.size W w'):=hS
  have HE:Hid (∀ W,Below w.heap.size w W→Calls Tryz.prog 105 #[.agg #[.slice ta f.terms.length tc,.slice na f.nons.length nc,.slice pa f.prods.length pc]] W fun e w'=>GaveB (fun _=>False) f W e w'):=hE
  clear hS hE
  obtain ⟨N,hN⟩:∃ N,f.n=N:=⟨_,rfl⟩
  rw [hN] at hn HS
  have HNN:Hid (f.n=N):=hN
  clear hN
  go_enter Tryz.func104,Tryz.ntmps104
  go_wp2_with fail
  refine (HS.out _).mono ?_
  rintro e w1 ⟨rfl,hb1⟩
  have X1:=X0.next hb1
  have B1:=below_then B0 hb1 B0.size
  clear X0 B0 hb1 HS
  go_wp2_with (at_make; refine wpList_make_full _ rfl _ _ 149 rfl w1.heap.size 43 i0 _ 1 Tryz.underlying149 hi0 hz0 hz1 _ _ _ _ N rfl rfl rfl rfl (by rw [hz2]; omega) (by unfold maxLen; omega) (Nat.le_refl _) ?_)
  intro w2 hown hg2
  have R0:RowR N w1.heap.size w1 (fun _=>True) (List.replicate N []) w2:=RowR.made (by simpa using hown) hg2 trivial
  have B2:=below_then B1 ((Below.refl w1.heap.size w1).grown hg2 (Nat.le_refl _) (fun k e=>by cases e)) B1.size
  clear hown hg2
  obtain ⟨G,hG⟩:∃ G,w1.heap.size=G:=⟨_,rfl⟩
  have hwG:w.heap.size<G:=by rw [← hG]; exact X1.1
  have HX:Hid (∀ W,Below G w1 W→FBox f ⟨ta,tc,na,nc,pa,pc⟩ w.heap.size W):=fun W hb=>X1.next (by rw [hG]; exact hb)
  have HP:Hid (∀ W,Below G w1 W→PrsAt f.prods pa W):=fun W hb=>(h2.next B1).next (by rw [hG]; exact hb)
  have HB:Hid (∀ W,Below G w1 W→Below w.heap.size w W):=fun W hb=>below_then B1 (by rw [hG]; exact hb) B1.size
  have HG:Hid (G=w1.heap.size):=hG.symm
  rw [hG] at R0 ⊢
  have HQ:Hid (FitP f):=hp
  have HR0:Hid (RowR N G w1 (fun _=>True) (List.replicate N []) w2):=R0
  have hx2:=HX.out _ R0.below
  obtain ⟨x1,d0,d1,d2⟩:=id hx2
  simp only at d0 d1 d2
  clear X1 h2 B1 hG hp R0 hx2
  go_wp2_with fail
  refine (HE.out _ B2).mono ?_
  rintro e w3 ⟨ve,Le,rfl,hgb,hsl,hap,hb3⟩
  obtain ⟨ea,ec,rfl,_⟩:=id hsl
  have hap2:Apart (G+1) (.slice ea Le.length ec):=hap.mono HR0.out.lt
  have hst:Steady G (fun W=>SlB Le (.slice ea Le.length ec) W):=⟨fun h hb=>h.next hb,fun s u h=>h.set hap2 s u⟩
  have HST:Hid (Steady G (fun W=>SlB Le (.slice ea Le.length ec) W)):=hst
  have R3:RowR N G w1 (fun W=>SlB Le (.slice ea Le.length ec) W) (List.replicate N []) w3:=(HR0.out.next (C:=fun _=>True) ⟨fun _ _=>trivial,fun _ _ _=>trivial⟩ HG.out hb3).with (fun _=>hsl)
  have HR3:Hid (RowR N G w1 (fun W=>SlB Le (.slice ea Le.length ec) W) (List.replicate N []) w3):=R3
  have HGB:Hid (GivesB (fun _=>False) f.gr f.n Le):=hgb
  clear hst hap hap2 hgb hsl hb3 B2 HE HR0 x1 d0 d1 d2 R3
  go_wp2_with fail
  have HF0:Hid (OkR (FstP f) f.n (List.replicate N [])):=by
    refine ⟨by simp [HNN.out],fun s=>?_,fun s _ t ht=>?_⟩
    · rw [row_nils]; exact List.Pairwise.nil
    · rw [row_nils] at ht; cases ht
  go_loopw [5] (fun i wr=>∃ (j:Nat) (R:List (List Int)),i=.int .i64 j∧j≤f.terms.length∧RowR N G w1 (fun W=>SlB Le (.slice ea Le.length ec) W) R wr∧OkR (FstP f) f.n R∧∀ t:Nat,t<j→InR R t t) (fun i _=>f.terms.length - (intOf i).toNat)
  case atStart=>exact ⟨0,_,rfl,Nat.zero_le _,HR3.out,HF0.out,by simp⟩
  case round =>
  clear HR3 HF0
  obtain ⟨j,R,rfl,hj,hR,hok,hbas⟩:=hrel
  obtain ⟨x1,d0,d1,d2⟩:=HX.out _ hR.below
  simp only at d0 d1 d2
  have htN:f.terms.length≤N:=by have:=HNN.out; unfold Fl.n at this; omega
  have hRl:=hR.len
  by_cases hlt:j<f.terms.length
  · have hR2:=hR.next HST.out HG.out ((Below.refl wr.heap.size wr).alloc (Nat.le_refl _) (Obj.cells #[Value.int IntKind.i64 j] 3))
    have hnew:SlI [(j:Int)] (.slice (some ⟨wr.heap.size,0,none⟩) 1 1) (wr.alloc (Obj.cells #[Value.int IntKind.i64 j] 3)):=by
      refine ⟨some ⟨wr.heap.size,0,none⟩,1,rfl,fun i x hi=>⟨wr.heap.size,0,rfl,by simp,?_⟩,(fun h=>by cases h),Nat.le_refl _,?_⟩
      · cases i with
        | zero=>simp at hi; subst hi; simp [encI]
        | succ i=>simp at hi
      · intro x hx; simp at hx; subst hx; unfold i64B; omega
    have HR4:Hid (RowR N G w1 (fun W=>SlB Le (.slice ea Le.length ec) W) (R.set j [(j:Int)]) ((wr.alloc (Obj.cells #[Value.int IntKind.i64 j] 3)).setCell ⟨G,j,none⟩ (.slice (some ⟨wr.heap.size,0,none⟩) 1 1))) :=
      hR2.store HST.out (by omega) hnew (fun ad n c e=>by cases e; have:=hR.lt; exact this)
    have HO4:Hid (OkR (FstP f) f.n (R.set j [(j:Int)])):=hok.set (by rw [HNN.out]; omega) (List.pairwise_singleton _ _) (fun t ht=>by simp at ht; subst ht; exact .term hlt)
    have HB4:Hid (∀ t:Nat,t<j+1→InR (R.set j [(j:Int)]) t t):=fun t ht=>by
      rw [inR_set (by rw [hRl]; omega)]
      by_cases e:t=j
      · subst e; exact .inl ⟨rfl,by simp⟩
      · exact .inr ⟨e,hbas t (by omega)⟩
    have hfz:wr.frozen? ⟨G,j,none⟩=false:=hR.frozen j
    obtain ⟨u,hcl,_⟩:=hR.get (s:=j) (by omega)
    have hGl:=hR.lt
    rw [set_alloc wr hGl] at HR4
    clear hR hok hbas hR2 hnew
    go_wp2_with fail
    exact ⟨⟨j+1,R.set j [(j:Int)],by go_num,by omega,HR4.out,HO4.out,HB4.out⟩,by simp [intOf]; omega⟩
  obtain rfl:j=f.terms.length:=by omega
  have HRa:Hid (RowR N G w1 (fun W=>SlB Le (.slice ea Le.length ec) W) R wr):=hR
  have HSa:Hid (StF f R):=⟨hok,hbas⟩
  clear hR hok hbas
  go_wp2_with fail
  clear d0 d1 d2 x1
  go_loopg [6] (2 * (N * (N+1) - bulk R)+1) (fun k ag wr=>∃ (b:Bool) (R:List (List Int)),ag=.bool b∧k=2 * (N * (N+1) - bulk R)+b2n b∧RowR N G w1 (fun W=>SlB Le (.slice ea Le.length ec) W) R wr∧StF f R∧(b=false→∀ q∈f.gr,ClosedF (EmpP f) R q))
  case atStart=>exact ⟨true,_,rfl,rfl,HRa.out,HSa.out,by simp⟩
  case round =>
    obtain ⟨b,R,rfl,rfl,hR,hst,hc⟩:=hrel
    clear HRa HSa
    cases b with
    | false =>
      have HZ:Hid (GivesR (FstP f) f.n R∧RowR N G w1 (fun W=>SlB Le (.slice ea Le.length ec) W) R wr):=⟨hst.ok.gives (fun s _ t h=>complete_F hst.basic (hc rfl) h),hR⟩
      clear hR hc hst
      go_wp2_with fail
      go_ret
      obtain ⟨z1,z2⟩:=HZ.out
      exact ⟨_,R,rfl,z1,z2.slRB (Nat.le_of_lt hwG),HB.out _ z2.below⟩
    | true =>
    have HRb:Hid (RowR N G w1 (fun W=>SlB Le (.slice ea Le.length ec) W) R wr):=hR
    have HSb:Hid (StF f R):=hst
    clear hR hc hst
    go_wp2_with fail
    go_loopw [6,7] (fun ag i wx=>∃ (b:Bool) (j:Nat) (R':List (List Int)),ag=.bool b∧i=.int .i64 j∧j≤f.prods.length∧RowR N G w1 (fun W=>SlB Le (.slice ea Le.length ec) W) R' wx∧StF f R'∧RoundR (ClosedF (EmpP f)) f.gr R R' b j) (fun _ i _=>f.prods.length - (intOf i).toNat)
    case atStart=>exact ⟨false,0,R,rfl,rfl,Nat.zero_le _,HRb.out,HSb.out,RoundR.start _ _ R⟩
    case round =>
      obtain ⟨b,j,R',rfl,rfl,hj,hR,hst,hr⟩:=hrel
      obtain ⟨x1,d0,d1,d2⟩:=HX.out _ hR.below
      simp only at d0 d1 d2
      by_cases hlt:j<f.prods.length
      · obtain ⟨pb,off,v,rfl,hb,c0,c1,c2,hv,hl,hpr⟩:=(HP.out w1 (Below.refl _ _)).at (Below.refl _ _) hlt
        obtain ⟨ra,rc,rfl,hI,_,hr1,hr2⟩:=hv
        rw [← HG.out] at hb
        replace c0:=(hR.below.cell (p:=⟨pb,off+j * 3,none⟩) hb).trans c0
        replace c1:=(hR.below.cell (p:=⟨pb,off+j * 3+1,none⟩) hb).trans c1
        replace c2:=(hR.below.cell (p:=⟨pb,off+j * 3+2,none⟩) hb).trans c2
        have hlf:=HQ.out.left _ (List.getElem_mem hlt)
        have hrl:=HQ.out.right _ (List.getElem_mem hlt)
        have hsy:=HQ.out.sym _ (List.getElem_mem hlt)
        have HM:Hid ((f.prods[j].left.toNat,f.prods[j].syms)∈f.gr):=gr_mem hlt
        have HTK:Hid (f.gr.take (j+1)=f.gr.take j++[(f.prods[j].left.toNat,f.prods[j].syms)]):=gr_take hlt
        have HI:Hid (∀ W,Below G w1 W→ItsAt f.prods[j].right ra W):=fun W hW=>hI.next (by rw [← HG.out]; exact hW)
        have hln:(f.terms.length+f.nons.length:Nat)=N:=HNN.out
        rw [hln] at hlf hsy
        clear hI
        generalize f.prods[j]=p at *
        obtain ⟨pl,pr,pp⟩:=p
        simp only at *
        obtain ⟨l,rfl⟩:∃ l:Nat,pl=l:=⟨pl.toNat,by omega⟩
        simp only [Int.toNat_natCast] at HM HTK
        have hlN:l<N:=by omega
        obtain ⟨sy,hsyd⟩:∃ sy,(⟨(l:Int),pr,pp⟩:Pr).syms=sy:=⟨_,rfl⟩
        rw [hsyd] at HM HTK
        have HSY:Hid (pr.map (fun x=>x.sym.toNat)=sy):=hsyd
        have hsl:sy.length=pr.length:=by rw [← hsyd]; unfold Pr.syms; simp
        have HSN:Hid (∀ x∈sy,x<N):=by
          intro x hx
          rw [← hsyd] at hx
          unfold Pr.syms at hx
          obtain ⟨y,hy,rfl⟩:=List.mem_map.1 hx
          have:=hsy y hy
          omega
        clear hsyd
        have HW:Hid (RowR N G w1 (fun W=>SlB Le (.slice ea Le.length ec) W) R' (wr.alloc (Obj.cells #[Value.int IntKind.i64 l,Value.slice ra pr.length rc,Value.int IntKind.i64 pp] 58))):=hR.next HST.out HG.out ((Below.refl _ _).alloc (Nat.le_refl _) _)
        have E:(wr.alloc (Obj.cells #[Value.int IntKind.i64 l,Value.slice ra pr.length rc,Value.int IntKind.i64 pp] 58)).cell? ⟨wr.heap.size,0,none⟩=some (.int .i64 l)∧(wr.alloc (Obj.cells #[Value.int IntKind.i64 l,Value.slice ra pr.length rc,Value.int IntKind.i64 pp] 58)).cell? ⟨wr.heap.size,1,none⟩=some (.slice ra pr.length rc)∧wr.heap.size<(wr.alloc (Obj.cells #[Value.int IntKind.i64 l,Value.slice ra pr.length rc,Value.int IntKind.i64 pp] 58)).heap.size:=by refine ⟨?_,?_,?_⟩ <;> simp
        have hZG:wr.heap.size≠G:=by have:=hR.lt; omega
        have HSc:Hid (StF f R'):=hst
        have HRr:Hid (RoundR (ClosedF (EmpP f)) f.gr R R' b j):=hr
        clear hR hst hr HP
        go_upto_region 14 with fail
        generalize wr.alloc (Obj.cells #[Value.int IntKind.i64 l,Value.slice ra pr.length rc,Value.int IntKind.i64 pp] 58)=Wp at *
        obtain ⟨e0,e1,e2⟩:=E
        generalize wr.heap.size=Z at e0 e1 e2 hZG ⊢
        clear c0 c1 c2 d0 d1 d2 hb x1
        obtain ⟨vl,hvl,hvs,hva⟩:=HW.out.get hlN
        obtain ⟨la,lc,rfl,_⟩:=id hvs
        have HC:Hid (Steady G (fun W=>SlB Le (.slice ea Le.length ec) W∧W.cell? ⟨Z,0,none⟩=some (.int .i64 l)∧W.cell? ⟨Z,1,none⟩=some (.slice ra pr.length rc)∧Z<W.heap.size)):=by
          refine ⟨fun h hb=>⟨HST.out.next h.1 hb,(hb.cell (p:=⟨Z,0,none⟩) h.2.2.2).trans h.2.1,(hb.cell (p:=⟨Z,1,none⟩) h.2.2.2).trans h.2.2.1,Nat.lt_of_lt_of_le h.2.2.2 hb.size⟩,fun s u h=>⟨HST.out.set s u h.1,?_,?_,?_⟩⟩
          · rw [cell_set_other _ _ hZG]; exact h.2.1
          · rw [cell_set_other _ _ hZG]; exact h.2.2.1
          · simpa using h.2.2.2
        have HW2:Hid (RowR N G w1 (fun W=>SlB Le (.slice ea Le.length ec) W∧W.cell? ⟨Z,0,none⟩=some (.int .i64 l)∧W.cell? ⟨Z,1,none⟩=some (.slice ra pr.length rc)∧Z<W.heap.size) (R'.set l (rowAt R' l)) Wp):=by
          show RowR _ _ _ _ _ _
          rw [set_rowAt (by rw [HW.out.len]; exact hlN)]
          exact HW.out.with (fun h=>⟨h,e0,e1,e2⟩)
        have HIn:Hid (InnF (EmpP f) (FstP f) R' l sy 0 (rowAt R' l)):=InnF.start HSc.out.ok (by rw [HNN.out]; exact hlN)
        have HRL:Hid (R'.length=N):=HW.out.len
        generalize hnl:(rowAt R' l).length=nl at *
        have HNL:Hid ((rowAt R' l).length=nl):=hnl
        clear hnl hvs hva
        go_wp2_with fail
        clear hvl e0 e1 e2 HW
        go_loopw [10] (fun k wq=>∃ (m:Nat) (A:List Int),k=.int .i64 m∧m≤pr.length∧RowR N G w1 (fun W=>SlB Le (.slice ea Le.length ec) W∧W.cell? ⟨Z,0,none⟩=some (.int .i64 l)∧W.cell? ⟨Z,1,none⟩=some (.slice ra pr.length rc)∧Z<W.heap.size) (R'.set l A) wq∧InnF (EmpP f) (FstP f) R' l sy m A∧(∀ y∈sy.take m,EmpP f y)) (fun k _=>pr.length - (intOf k).toNat)
        case atStart=>exact ⟨0,_,rfl,Nat.zero_le _,HW2.out,HIn.out,by simp⟩
        case round =>
          clear HW2 HIn
          obtain ⟨m,A,rfl,hm,hR,hin,hem⟩:=hrel
          obtain ⟨hsb,e0,e1,e2⟩:=hR.ctx
          by_cases hml:m<pr.length
          · obtain ⟨bi,oi,rfl,hbi,q0,_,_,si,_⟩:=(HI.out _ hR.below).at (Below.refl _ _) hml
            have hs:=hsy _ (List.getElem_mem hml)
            have HX1:Hid (sy[m]'(by omega)=pr[m].sym.toNat):=by show _=_; have:=HSY.out; subst this; simp
            have HIQ:Hid (∀ W,Below G w1 W→W.cell? ⟨bi,oi+m * 3,none⟩=some (.int .i64 pr[m].sym)):=fun W hW=>by
              obtain ⟨bi',oi',e',_,q',_⟩:=(HI.out _ hW).at (Below.refl _ _) hml
              cases e'
              exact q'
            generalize pr[m]=x at *
            obtain ⟨xs,xf,xa⟩:=x
            simp only at *
            obtain ⟨q,rfl⟩:∃ q:Nat,xs=q:=⟨xs.toNat,by omega⟩
            simp only [Int.toNat_natCast] at HX1
            have hqN:q<N:=by omega
            have HEQ:Hid (∀ W,SlB Le (.slice ea Le.length ec) W→∃ eb eo,ea=some ⟨eb,eo,none⟩∧W.cell? ⟨eb,eo+q,none⟩=some (.bool (onb Le q))):=fun W hW=>by
              obtain ⟨ea',ec',e',h1,_⟩:=hW
              cases e'
              have hql:q<Le.length:=by rw [HGB.out.1,HNN.out]; exact hqN
              obtain ⟨eb,eo,e2,_,h2⟩:=h1.at (Below.refl _ _) hql
              exact ⟨eb,eo,e2,by rw [h2,onb_get hql]; rfl⟩
            have hLn:q<Le.length:=by rw [HGB.out.1,HNN.out]; exact hqN
            have HEE:Hid (onb Le q=true↔EmpP f q):=by
              show _↔_
              rw [onb_iff]
              exact HGB.out.2 q (by rw [HNN.out]; exact hqN)
            obtain ⟨v1,hv1,hs1,ha1⟩:=hR.get hlN
            obtain ⟨v2,hv2,hs2,ha2⟩:=hR.get hqN
            rw [rowAt_set (by rw [HRL.out]; exact hlN),if_pos rfl] at hs1
            go_upto_region 18 with fail
            have hGl:=hR.lt
            have hAl:A.length≤601:=by
              have:=rising_length (n:=601) hin.rise (fun t ht=>by have h1:=fst_lt (hin.sub t ht); omega)
              exact this
            have hBl:(rowAt (R'.set l A) q).length≤601:=by
              rw [rowAt_set (by rw [HRL.out]; exact hlN)]
              split
              · exact hAl
              · exact rising_length (n:=601) (HSc.out.ok.rise q) (fun t ht=>by have h1:=fst_lt (HSc.out.ok.sound q (by rw [HNN.out]; exact hqN) t ht); omega)
            obtain ⟨A2,hA2⟩:∃ A2,unionL A (rowAt (R'.set l A) q)=A2:=⟨_,rfl⟩
            have HA2:Hid (unionL A (rowAt (R'.set l A) q)=A2):=hA2
            have hu:∀ W,W.cell? ⟨Z,0,none⟩=some (.int .i64 l)∧W.cell? ⟨Z,1,none⟩=some (.slice (some ⟨bi,oi,none⟩) pr.length rc)∧W.cell? ⟨bi,oi+m * 3,none⟩=some (.int .i64 q)∧W.cell? ⟨G,l,none⟩=some v1∧W.cell? ⟨G,q,none⟩=some v2∧W.frozen? ⟨G,l,none⟩=false∧Below wr.heap.size wr W→Calls Tryz.prog 107 #[v1,v2] W fun e w'=>∃ va vc,e=.returned (.slice va A2.length vc)∧Hid (SlI A2 (.slice va A2.length vc) w'∧Apart (G+1) (.slice va A2.length vc))∧(w'.cell? ⟨Z,0,none⟩=some (.int .i64 l)∧w'.cell? ⟨Z,1,none⟩=some (.slice (some ⟨bi,oi,none⟩) pr.length rc)∧w'.cell? ⟨bi,oi+m * 3,none⟩=some (.int .i64 q)∧w'.cell? ⟨G,l,none⟩=some v1∧w'.cell? ⟨G,q,none⟩=some v2∧w'.frozen? ⟨G,l,none⟩=false∧Below wr.heap.size wr w'):=by
              intro W hS
              obtain ⟨z0,z1,z2,z3,z4,z5,hbW⟩:=hS
              refine (union_any A _ v1 v2 W (hs1.next hbW) (hs2.next hbW) (by omega)).mono ?_
              rintro e w' ⟨v',rfl,hv',hap',hb'⟩
              rw [hA2] at hv'
              obtain ⟨va,vc,rfl,_⟩:=id hv'
              have hBz:=hbW.size
              refine ⟨va,vc,rfl,⟨hv',?_⟩,(hb'.cell (p:=⟨Z,0,none⟩) (by show Z<_; omega)).trans z0,(hb'.cell (p:=⟨Z,1,none⟩) (by show Z<_; omega)).trans z1,(hb'.cell (p:=⟨bi,oi+m * 3,none⟩) (by show bi<_; omega)).trans z2,(hb'.cell (p:=⟨G,l,none⟩) (by show G<_; omega)).trans z3,(hb'.cell (p:=⟨G,q,none⟩) (by show G<_; omega)).trans z4,(hb'.frozen (p:=⟨G,l,none⟩) (by show G<_; omega)).trans z5,below_then hbW hb' hBz⟩
              rcases hap' with e | e
              · rw [e]; exact ha1
              · exact e.mono (by omega)
            have HS0:Hid (wr.drew.cell? ⟨Z,0,none⟩=some (.int .i64 l)∧wr.drew.cell? ⟨Z,1,none⟩=some (.slice (some ⟨bi,oi,none⟩) pr.length rc)∧wr.drew.cell? ⟨bi,oi+m * 3,none⟩=some (.int .i64 q)∧wr.drew.cell? ⟨G,l,none⟩=some v1∧wr.drew.cell? ⟨G,q,none⟩=some v2∧wr.drew.frozen? ⟨G,l,none⟩=false∧Below wr.heap.size wr wr.drew):=⟨e0,e1,q0,hv1,hv2,hR.frozen l,(Below.refl _ _).drew⟩
            have HRx:Hid (RowR N G w1 (fun W=>SlB Le (.slice ea Le.length ec) W∧W.cell? ⟨Z,0,none⟩=some (.int .i64 l)∧W.cell? ⟨Z,1,none⟩=some (.slice (some ⟨bi,oi,none⟩) pr.length rc)∧Z<W.heap.size) (R'.set l A) wr):=hR
            have HInx:Hid (InnF (EmpP f) (FstP f) R' l sy m A∧(∀ y∈sy.take m,EmpP f y)):=⟨hin,hem⟩
            clear hR hin hem hs1 hs2 ha1 ha2 hA2 hsb
            refine wp_region_L (fun W=>W.cell? ⟨Z,0,none⟩=some (.int .i64 l)∧W.cell? ⟨Z,1,none⟩=some (.slice (some ⟨bi,oi,none⟩) pr.length rc)∧W.cell? ⟨bi,oi+m * 3,none⟩=some (.int .i64 q)∧W.cell? ⟨G,l,none⟩=some v1∧W.cell? ⟨G,q,none⟩=some v2∧W.frozen? ⟨G,l,none⟩=false∧Below wr.heap.size wr W) 18 (by kernel_rfl) 20 rfl ?_
            refine lk ⟨some 54,.move (.tmp 3),149, "ref.go:89",#[],none⟩ HS0.out ?_;simp only [Act.put,sA,s0,sS]
            refine lk ⟨some 55,.fieldAddr 58 (.tmp 8) 0,0, "ref.go:89",#[],none⟩ HS0.out ?_;simp only [Act.put,sA,s0,sS]
            refine lk ⟨some 56,.load 3 (.tmp 55),3, "ref.go:89",#[⟨1,.data⟩],none⟩ HS0.out ?_;simp only [Act.put,sA,s0,sS]
            refine lk ⟨some 57,.move (.tmp 3),149, "ref.go:89",#[],none⟩ HS0.out ?_;simp only [Act.put,sA,s0,sS]
            refine lk ⟨some 58,.fieldAddr 58 (.tmp 8) 0,0, "ref.go:89",#[],none⟩ HS0.out ?_;simp only [Act.put,sA,s0,sS]
            refine lk ⟨some 59,.load 3 (.tmp 58),3, "ref.go:89",#[⟨4,.data⟩],none⟩ HS0.out ?_;simp only [Act.put,sA,s0,sS]
            refine lk ⟨some 60,.indexAddr 149 (.tmp 57) (.tmp 59),0, "ref.go:89",#[⟨3,.data⟩,⟨5,.data⟩],none⟩ HS0.out ?_;simp only [Act.put,sA,s0,sS]
            refine lk ⟨some 61,.load 43 (.tmp 60),43, "ref.go:89",#[⟨6,.data⟩],none⟩ HS0.out ?_;simp only [Act.put,sA,s0,sS]
            refine lk ⟨some 62,.move (.tmp 3),149, "ref.go:89",#[],none⟩ HS0.out ?_;simp only [Act.put,sA,s0,sS]
            refine lk ⟨some 63,.fieldAddr 58 (.tmp 8) 1,0, "ref.go:89",#[],none⟩ HS0.out ?_;simp only [Act.put,sA,s0,sS]
            refine lk ⟨some 64,.load 56 (.tmp 63),56, "ref.go:89",#[⟨9,.data⟩],none⟩ HS0.out ?_;simp only [Act.put,sA,s0,sS]
            refine lk ⟨some 65,.move (.tmp 10),3, "ref.go:89",#[],none⟩ HS0.out ?_;simp only [Act.put,sA,s0,sS]
            refine lk ⟨some 66,.indexAddr 56 (.tmp 64) (.tmp 65),0, "ref.go:89",#[⟨10,.data⟩,⟨11,.data⟩],none⟩ HS0.out ?_;simp only [Act.put,sA,s0,sS]
            refine lk ⟨some 67,.fieldAddr 55 (.tmp 66) 0,0, "ref.go:89",#[⟨12,.data⟩],none⟩ HS0.out ?_;simp only [Act.put,sA,s0,sS]
            refine lk ⟨some 68,.load 3 (.tmp 67),3, "ref.go:89",#[⟨13,.data⟩],none⟩ HS0.out ?_;simp only [Act.put,sA,s0,sS]
            refine lk ⟨some 69,.indexAddr 149 (.tmp 62) (.tmp 68),0, "ref.go:89",#[⟨8,.data⟩,⟨14,.data⟩],none⟩ HS0.out ?_;simp only [Act.put,sA,s0,sS]
            refine lk ⟨some 70,.load 43 (.tmp 69),43, "ref.go:89",#[⟨15,.data⟩],none⟩ HS0.out ?_;simp only [Act.put,sA,s0,sS]
            refine wpL_one (o:=⟨some 71,.call ⟨.value (.func 107),#[.tmp 61,.tmp 70],#[43,43]⟩,43, "ref.go:89",#[⟨7,.data⟩,⟨16,.data⟩],none⟩) (by decide) (by kernel_rfl) rfl (fun K hK=>?_)
            go_simp
            refine (hu _ HS0.out).mono ?_
            rintro e w' ⟨va,vc,rfl,hV,hS1⟩
            have HS1:=hS1
            obtain ⟨z0,z1,z2,z3,z4,z5,hbW⟩:=hS1
            refine hK.out _ _ (fun _=>HS1) ?_
            clear hK
            refine wpL_one (o:=⟨some 72,.indexAddr 149 (.tmp 54) (.tmp 56),0, "ref.go:89",#[⟨0,.data⟩,⟨2,.data⟩,⟨0,.phase⟩,⟨1,.phase⟩,⟨2,.phase⟩,⟨3,.phase⟩,⟨4,.phase⟩,⟨5,.phase⟩,⟨6,.phase⟩,⟨7,.phase⟩,⟨8,.phase⟩,⟨9,.phase⟩,⟨10,.phase⟩,⟨11,.phase⟩,⟨12,.phase⟩,⟨13,.phase⟩,⟨14,.phase⟩,⟨15,.phase⟩,⟨16,.phase⟩,⟨17,.phase⟩],none⟩) (by decide) (by kernel_rfl) rfl (fun K2 hK2=>?_)
            go_simp
            refine hK2.out _ _ (fun h=>absurd h (by decide)) ?_
            clear hK2
            refine wpL_one (o:=⟨none,.store 43 (.tmp 72) (.tmp 71),0, "ref.go:89",#[⟨18,.data⟩,⟨17,.data⟩,⟨17,.chain⟩,⟨0,.phase⟩,⟨1,.phase⟩,⟨2,.phase⟩,⟨3,.phase⟩,⟨4,.phase⟩,⟨5,.phase⟩,⟨6,.phase⟩,⟨7,.phase⟩,⟨8,.phase⟩,⟨9,.phase⟩,⟨10,.phase⟩,⟨11,.phase⟩,⟨12,.phase⟩,⟨13,.phase⟩,⟨14,.phase⟩,⟨15,.phase⟩,⟨16,.phase⟩,⟨17,.phase⟩],none⟩) (by decide) (by kernel_rfl) rfl (fun K3 hK3=>?_)
            go_simp
            refine hK3.out _ _ (fun h=>absurd h (by decide)) ?_
            clear hK3
            refine wpAnyL_done (by kernel_rfl) ?_ _
            have hR5:RowR N G w1 (fun W=>SlB Le (.slice ea Le.length ec) W∧W.cell? ⟨Z,0,none⟩=some (.int .i64 l)∧W.cell? ⟨Z,1,none⟩=some (.slice (some ⟨bi,oi,none⟩) pr.length rc)∧Z<W.heap.size) (R'.set l A2) (w'.setCell ⟨G,l,none⟩ (.slice va A2.length vc)):=by
              have h5:=(HRx.out.next HC.out HG.out hbW).store HC.out hlN hV.out.1 hV.out.2
              rw [List.set_set] at h5
              exact h5
            have hin5:InnF (EmpP f) (FstP f) R' l sy (m+1) A2:=by
              have h5:=HInx.out.1.step HSc.out.ok HM.out (by omega) (by rw [HNN.out]; exact hlN) (by rw [HX1.out,HNN.out]; exact hqN) HInx.out.2
              rw [HX1.out,HA2.out] at h5
              exact h5
            generalize w'.setCell ⟨G,l,none⟩ (.slice va A2.length vc)=W2 at *
            obtain ⟨hsb5,e05,e15,e25⟩:=hR5.ctx
            have q05:=HIQ.out _ hR5.below
            obtain ⟨eb,eo,rfl,c5⟩:=HEQ.out _ hsb5
            have HR5:Hid (RowR N G w1 (fun W=>SlB Le (.slice (some ⟨eb,eo,none⟩) Le.length ec) W∧W.cell? ⟨Z,0,none⟩=some (.int .i64 l)∧W.cell? ⟨Z,1,none⟩=some (.slice (some ⟨bi,oi,none⟩) pr.length rc)∧Z<W.heap.size) (R'.set l A2) W2):=hR5
            have HI5:Hid (InnF (EmpP f) (FstP f) R' l sy (m+1) A2):=hin5
            have HEM:Hid (∀ y∈sy.take m,EmpP f y):=HInx.out.2
            clear hR5 hin5 hsb5 hu HS1 z0 z1 z2 z3 z4 z5 hbW hV HRx HInx HS0 HEQ
            obtain ⟨v5,hv5,hs5,ha5⟩:=HR5.out.get hlN
            rw [rowAt_set (by rw [HRL.out]; exact hlN),if_pos rfl] at hs5
            obtain ⟨a5,k5,rfl,_⟩:=hs5
            have hA5:A2.length≤601:=rising_length (n:=601) HI5.out.rise (fun t ht=>by have h1:=fst_lt (HI5.out.sub t ht); omega)
            cases ho:onb Le q with
            | true =>
              rw [ho] at c5
              have HEM2:Hid (∀ y∈sy.take (m+1),EmpP f y):=fun y hy=>by
                rcases take_succ_mem (by omega) hy with h | h
                · exact HEM.out y h
                · rw [h,HX1.out]; exact HEE.out.1 ho
              clear ho HEM HEE hv5 ha5 hA5
              go_wp2_with fail
              exact ⟨⟨m+1,A2,by go_num,by omega,HR5.out,HI5.out,HEM2.out⟩,by simp [intOf]; omega⟩
            | false =>
              rw [ho] at c5
              have HNE:Hid (∃ y∈sy.take (m+1),¬ EmpP f y):=by
                refine ⟨q,?_,fun h=>by rw [HEE.out.2 h] at ho; cases ho⟩
                rw [List.take_succ_eq_append_getElem (by omega),HX1.out]
                simp
              have HFS:Hid (StF f (R'.set l A2)∧RoundR (ClosedF (EmpP f)) f.gr R (R'.set l A2) (b || decide ((nl:Int)<A2.length)) (j+1)) :=
                first_step HSc.out HRr.out HTK.out HI5.out (.inr HNE.out) (by rw [HNN.out]; exact hlN) (by omega) (by rw [HNN.out]; exact HSN.out) HNL.out
              have HR6:Hid (RowR N G w1 (fun W=>SlB Le (.slice (some ⟨eb,eo,none⟩) Le.length ec) W) (R'.set l A2) W2):=HR5.out.with (fun h=>h.1)
              clear ho HEM HEE HNE HR5
              cases b with
              | true =>
                go_wp2_with fail
                exact ⟨⟨true,j+1,R'.set l A2,rfl,by go_num,by omega,HR6.out,HFS.out.1,HFS.out.2⟩,by simp [intOf]; omega⟩
              | false =>
                go_wp2_with fail
                exact ⟨⟨decide ((nl:Int)<A2.length),j+1,R'.set l A2,(by congr 1; simp),by go_num,by omega,HR6.out,HFS.out.1,HFS.out.2⟩,by simp [intOf]; omega⟩
          · have hml2:m=pr.length:=by omega
            have HFS:Hid (StF f (R'.set l A)∧RoundR (ClosedF (EmpP f)) f.gr R (R'.set l A) (b || decide ((nl:Int)<A.length)) (j+1)) :=
              first_step HSc.out HRr.out HTK.out hin (.inl (by omega)) (by rw [HNN.out]; exact hlN) (by omega) (by rw [HNN.out]; exact HSN.out) HNL.out
            obtain ⟨v5,hv5,hs5,ha5⟩:=hR.get hlN
            rw [rowAt_set (by rw [HRL.out]; exact hlN),if_pos rfl] at hs5
            obtain ⟨a5,k5,rfl,_⟩:=hs5
            have HR6:Hid (RowR N G w1 (fun W=>SlB Le (.slice ea Le.length ec) W) (R'.set l A) wr):=hR.with (fun h=>h.1)
            clear hin hem hR hsb HC
            cases b with
            | true =>
              go_wp2_with fail
              exact ⟨⟨true,j+1,R'.set l A,rfl,by go_num,by omega,HR6.out,HFS.out.1,HFS.out.2⟩,by simp [intOf]; omega⟩
            | false =>
              go_wp2_with fail
              exact ⟨⟨decide ((nl:Int)<A.length),j+1,R'.set l A,(by congr 1; simp),by go_num,by omega,HR6.out,HFS.out.1,HFS.out.2⟩,by simp [intOf]; omega⟩
      · obtain rfl:j=f.prods.length:=by omega
        have hbR:=HSb.out.ok.bulk_max (fun s t h=>by have:=fst_lt h; rw [HNN.out]; omega)
        have hbR':=hst.ok.bulk_max (fun s t h=>by have:=fst_lt h; rw [HNN.out]; omega)
        rw [HNN.out] at hbR hbR'
        have HE:Hid ((b=false→∀ q∈f.gr,ClosedF (EmpP f) R' q)∧2 * (N * (N+1) - bulk R')+b2n b<2 * (N * (N+1) - bulk R)+b2n true):=by
          refine ⟨fun hb q hq=>?_,?_⟩
          · rw [(hr.2.2 hb).1]
            exact (hr.2.2 hb).2 q (by rw [List.take_of_length_le (by unfold Fl.gr; simp)]; exact hq)
          · generalize N * (N+1)=M at *
            cases b with
            | true=>have:=hr.2.1 rfl; simp [b2n]; omega
            | false=>rw [(hr.2.2 rfl).1]; simp [b2n]
        have HW2:Hid (RowR N G w1 (fun W=>SlB Le (.slice ea Le.length ec) W) R' wr):=hR
        have HST2:Hid (StF f R'):=hst
        clear hr hR hst hbR hbR'
        go_wp2_with fail
        go_roundg (2 * (N * (N+1) - bulk R')+b2n b)
        case measure=>exact HE.out.2
        case rel=>exact ⟨b,R',rfl,rfl,HW2.out,HST2.out,HE.out.1⟩
end Go.Proofs.YtbilbgjojdlobaaGreatDoor
namespace Go.Proofs.YtbilbgjojdlobaaGreatDoor
abbrev Ir:=Int × Int × Int
def ltI (a b:Ir):Prop:=a.1<b.1∨(a.1=b.1∧(a.2.1<b.2.1∨(a.2.1=b.2.1∧a.2.2<b.2.2)))
instance (a b:Ir):Decidable (ltI a b):=by unfold ltI; exact inferInstance
theorem ltI_irrefl (a:Ir):¬ ltI a a:=by unfold ltI; omega
theorem ltI_trans {a b c:Ir} (h:ltI a b) (k:ltI b c):ltI a c:=by unfold ltI at *; omega
theorem ir_ext {a b:Ir} (h1:a.1=b.1) (h2:a.2.1=b.2.1) (h3:a.2.2=b.2.2):a=b:=by
  obtain ⟨a1,a2,a3⟩:=a; obtain ⟨b1,b2,b3⟩:=b; simp_all
theorem ltI_total {a b:Ir} (h:¬ ltI a b) (k:¬ a=b):ltI b a:=by
  unfold ltI at *
  have:¬ (a.1=b.1∧a.2.1=b.2.1∧a.2.2=b.2.2):=fun ⟨h1,h2,h3⟩=>k (ir_ext h1 h2 h3)
  omega
def RisingI (l:List Ir):Prop:=l.Pairwise ltI
theorem RisingI.nodup {l:List Ir} (h:RisingI l):l.Nodup:=by
  unfold RisingI at h
  exact h.imp (fun {a b} hab (e:a=b)=>ltI_irrefl a (by rw [← e] at hab; exact hab))
theorem risingI_ext {a b:List Ir} (ha:RisingI a) (hb:RisingI b) (h:∀ x,x∈a↔x∈b):a=b:=by
  induction a generalizing b with
  | nil =>
    cases b with
    | nil=>rfl
    | cons y ys=>exact absurd ((h y).2 (by simp)) (by simp)
  | cons x xs ih =>
    have h1:=List.pairwise_cons.1 ha
    cases b with
    | nil=>exact absurd ((h x).1 (by simp)) (by simp)
    | cons y ys =>
      have h2:=List.pairwise_cons.1 hb
      have e:x=y:=by
        rcases List.mem_cons.1 ((h x).1 (by simp)) with e | e
        · exact e
        · rcases List.mem_cons.1 ((h y).2 (by simp)) with k | k
          · exact k.symm
          · exact absurd (ltI_trans (h1.1 y k) (h2.1 x e)) (ltI_irrefl x)
      subst e
      rw [ih h1.2 h2.2 (fun z=>?_)]
      constructor
      · intro hz
        rcases List.mem_cons.1 ((h z).1 (by simp [hz])) with e | e
        · subst e; exact absurd (h1.1 z hz) (ltI_irrefl z)
        · exact e
      · intro hz
        rcases List.mem_cons.1 ((h z).2 (by simp [hz])) with e | e
        · subst e; exact absurd (h2.1 z hz) (ltI_irrefl z)
        · exact e
def putI (x:Ir):List Ir→List Ir
  | []=>[x]
  | y :: ys=>if ltI y x then y :: putI x ys else if y=x then y :: ys else x :: y :: ys
theorem mem_putI {x z:Ir} {l:List Ir}:z∈putI x l↔z=x∨z∈l:=by
  induction l with
  | nil=>simp [putI]
  | cons y ys ih =>
    unfold putI
    split
    · rw [List.mem_cons,ih,List.mem_cons]; constructor
      · rintro (h | h | h) <;> simp [h]
      · rintro (h | h | h) <;> simp [h]
    · split
      · rename_i h; subst h; simp
      · simp
theorem rising_putI {x:Ir} {l:List Ir} (h:RisingI l):RisingI (putI x l):=by
  induction l with
  | nil=>simp [putI,RisingI]
  | cons y ys ih =>
    have h2:=List.pairwise_cons.1 h
    unfold putI
    split
    · rename_i hlt
      refine List.pairwise_cons.2 ⟨fun z hz=>?_,ih h2.2⟩
      rcases mem_putI.1 hz with rfl | hz
      · exact hlt
      · exact h2.1 z hz
    · split
      · exact h
      · rename_i h3 h4
        have hxy:=ltI_total h3 h4
        refine List.pairwise_cons.2 ⟨fun z hz=>?_,h⟩
        rcases List.mem_cons.1 hz with rfl | hz
        · exact hxy
        · exact ltI_trans hxy (h2.1 z hz)
theorem length_putI_new {x:Ir} {l:List Ir} (hx:x ∉ l):(putI x l).length=l.length+1:=by
  induction l with
  | nil=>simp [putI]
  | cons y ys ih =>
    have hy:¬ y=x:=fun h=>hx (by simp [h])
    have hys:x ∉ ys:=fun h=>hx (by simp [h])
    unfold putI
    split
    · simp [ih hys]
    · rfl
theorem putI_of_mem {x:Ir} {l:List Ir} (h:RisingI l) (hx:x∈l):putI x l=l:=by
  induction l with
  | nil=>cases hx
  | cons y ys ih =>
    have h2:=List.pairwise_cons.1 h
    unfold putI
    split
    · rename_i hlt
      rcases List.mem_cons.1 hx with rfl | hx
      · exact absurd hlt (ltI_irrefl _)
      · rw [ih h2.2 hx]
    · split
      · rfl
      · rename_i h3 h4
        rcases List.mem_cons.1 hx with rfl | hx
        · exact absurd rfl h4
        · exact absurd (h2.1 x hx) h3
theorem putI_lt {x:Ir}:∀ {a b:List Ir},(∀ y∈a,ltI y x)→putI x (a++b)=a++putI x b
  | [],_,_=>rfl
  | y :: a,b,h=>by
    rw [List.cons_append,putI,if_pos (h y (by simp)),putI_lt (fun z hz=>h z (by simp [hz]))]
    rfl
def wholeI (f:Fl):It:=⟨f.terms.length,⟨#[]⟩,⟨#[]⟩⟩
def rightI (f:Fl) (p:Int):List It:=if p<0 then [wholeI f] else match f.prods[p.toNat]? with | some q=>q.right | none=>[]
def fitI (f:Fl) (x:Ir):Bool:=decide (-1≤x.1∧x.1<f.prods.length∧0≤x.2.1∧x.2.1≤(rightI f x.1).length∧0≤x.2.2∧x.2.2≤f.terms.length)
theorem fitI_iff {f:Fl} {x:Ir}:fitI f x=true↔(-1≤x.1∧x.1<f.prods.length∧0≤x.2.1∧x.2.1≤(rightI f x.1).length∧0≤x.2.2∧x.2.2≤f.terms.length):=by unfold fitI; rw [decide_eq_true_eq]
def nextI (f:Fl) (x:Ir):Option Int:=if fitI f x=true then ((rightI f x.1)[x.2.1.toNat]?).map (·.sym) else none
def behI (f:Fl) (x:Ir):List Nat:=((rightI f x.1).drop (x.2.1.toNat+1)).map (fun y=>y.sym.toNat)
def LookP (f:Fl) (x:Ir) (t:Int):Prop:=Beg (EmpP f) (FstP f) (fun t=>t=x.2.2) (behI f x) t
inductive Cl (f:Fl) (S:Ir→Prop):Ir→Prop
  | base {x}:S x→fitI f x=true→Cl f S x
  | step {x s t} {q:Nat} {p:Pr}:Cl f S x→nextI f x=some s→f.prods[q]?=some p→p.left=s→LookP f x t→Cl f S ((q:Int),(0:Int),t)
theorem nextI_fit {f:Fl} {x:Ir} {s:Int} (h:nextI f x=some s):fitI f x=true:=by
  unfold nextI at h; split at h
  · assumption
  · cases h
theorem rightI_nat {f:Fl} {q:Nat} {p:Pr} (h:f.prods[q]?=some p):rightI f q=p.right:=by
  unfold rightI; rw [if_neg (by omega),Int.toNat_natCast,h]
theorem rightI_neg {f:Fl} {p:Int} (h:p<0):rightI f p=[wholeI f]:=by unfold rightI; rw [if_pos h]
theorem rightI_le {f:Fl} (hp:FitP f) (p:Int):(rightI f p).length≤64:=by
  unfold rightI; split
  · simp
  · cases h:f.prods[p.toNat]? with
    | none=>simp
    | some q=>exact hp.right q (List.mem_of_getElem? h)
theorem rightI_sym {f:Fl} (hp:FitP f) {p:Int} {y:It} (hy:y∈rightI f p):0≤y.sym∧y.sym<(f.n:Int):=by
  unfold rightI at hy; split at hy
  · simp at hy; subst hy
    have:=hp.nons
    unfold wholeI Fl.n; simp only; omega
  · cases h:f.prods[p.toNat]? with
    | none=>rw [h] at hy; simp at hy
    | some q=>rw [h] at hy; exact hp.sym q (List.mem_of_getElem? h) y hy
theorem behI_lt {f:Fl} (hp:FitP f) {x:Ir}:∀ y∈behI f x,y<f.n:=by
  intro y hy
  unfold behI at hy
  obtain ⟨z,hz,rfl⟩:=List.mem_map.1 hy
  have:=rightI_sym hp (List.mem_of_mem_drop hz)
  omega
theorem behI_core {f:Fl} {x y:Ir} (h1:x.1=y.1) (h2:x.2.1=y.2.1):behI f x=behI f y:=by unfold behI; rw [h1,h2]
theorem begF_lt {emp:Nat→Prop} {fst:Nat→Int→Prop} {n:Nat} (hf:∀ s t,fst s t→0≤t∧t<n) {l:List Nat} {t:Int} (h:Beg emp fst (fun _=>False) l t):0≤t∧t<n:=by
  induction h with
  | here h=>exact hf _ _ h
  | next _ _ ih=>exact ih
  | behind h=>exact h.elim
theorem look_le {f:Fl} {x:Ir} {t:Int} (hx:fitI f x=true) (h:LookP f x t):0≤t∧t≤f.terms.length:=by
  rcases beg_iff.1 h with h | h
  · have:=begF_lt (n:=f.terms.length) (fun s t h=>fst_lt h) h; omega
  · have:=fitI_iff.1 hx; rw [h.2]; omega
theorem fit_zero {f:Fl} {q:Nat} {p:Pr} {t:Int} (h:f.prods[q]?=some p) (ht:0≤t∧t≤f.terms.length):fitI f ((q:Int),(0:Int),t)=true:=by
  have:=(List.getElem?_eq_some_iff.1 h).1
  rw [fitI_iff]; simp only; omega
theorem cl_fit {f:Fl} {S:Ir→Prop} {x:Ir} (h:Cl f S x):fitI f x=true:=by
  induction h with
  | base _ h=>exact h
  | step _ hn hq _ hl ih=>exact fit_zero hq (look_le ih hl)
theorem cl_least {f:Fl} {S A:Ir→Prop} (h0:∀ x,S x→fitI f x=true→A x) (h1:∀ x s t (q:Nat) (p:Pr),A x→nextI f x=some s→f.prods[q]?=some p→p.left=s→LookP f x t→A ((q:Int),(0:Int),t)) {x:Ir} (h:Cl f S x):A x:=by
  induction h with
  | base k1 k2=>exact h0 _ k1 k2
  | step _ hn hq hl hk ih=>exact h1 _ _ _ _ _ ih hn hq hl hk
theorem cl_dot {f:Fl} {S:Ir→Prop} {x:Ir} (h:Cl f S x):S x∨(0≤x.1∧x.2.1=0):=by
  cases h with
  | base h _=>exact .inl h
  | step _ _ _ _ _=>right; simp
def codeI (x:Ir):Nat:=((x.1+1).toNat * 66+x.2.1.toNat) * 602+x.2.2.toNat
def maxI:Nat:=16000000
theorem items_le {f:Fl} (hp:FitP f) {L:List Ir} (hn:L.Nodup) (hf:∀ x∈L,fitI f x=true):L.length≤maxI:=by
  have hb:∀ x∈L,x.1+1≤400∧0≤x.1+1∧0≤x.2.1∧x.2.1≤64∧0≤x.2.2∧x.2.2≤600:=fun x hx=>by
    have h1:=fitI_iff.1 (hf x hx)
    have h2:=rightI_le hp x.1
    have h3:=hp.prods
    have h4:=hp.size
    omega
  have hm:(L.map codeI).Nodup:=by
    unfold List.Nodup at hn ⊢
    rw [List.pairwise_map]
    refine hn.imp_of_mem (fun {a b} ha hb' hab e=>hab ?_)
    have h1:=hb a ha
    have h2:=hb b hb'
    unfold codeI at e
    exact ir_ext (by omega) (by omega) (by omega)
  have:=hm.length_le_of_subset (l₂:=List.range 16000000) (fun y hy=>by
    obtain ⟨x,hx,rfl⟩:=List.mem_map.1 hy
    have h1:=hb x hx
    rw [List.mem_range]
    unfold codeI
    omega)
  simpa [maxI] using this
def ClosI (f:Fl) (S:Ir→Prop) (L:List Ir):Prop:=RisingI L∧∀ x,x∈L↔Cl f S x
theorem closI_unique {f:Fl} {S:Ir→Prop} {L M:List Ir} (h:ClosI f S L) (k:ClosI f S M):L=M:=risingI_ext h.1 k.1 (fun x=>by rw [h.2,k.2])
theorem ClosI.len {f:Fl} {S:Ir→Prop} {L:List Ir} (hp:FitP f) (h:ClosI f S L):L.length≤maxI:=items_le hp h.1.nodup (fun x hx=>cl_fit ((h.2 x).1 hx))
def movedL (f:Fl) (l:List Ir) (s:Int):List Ir:=(l.filter fun x=>decide (nextI f x=some s)).map fun x=>(x.1,x.2.1+1,x.2.2)
def begL (f:Fl):List Ir:=[(-1,0,f.terms.length)]
theorem nextI_some {f:Fl} {x:Ir} {s:Int} (h:nextI f x=some s):fitI f x=true∧∃ y,(rightI f x.1)[x.2.1.toNat]?=some y∧y.sym=s:=by
  have hf:=nextI_fit h
  unfold nextI at h
  rw [if_pos hf] at h
  obtain ⟨y,hy,rfl⟩:=Option.map_eq_some_iff.1 h
  exact ⟨hf,y,hy,rfl⟩
theorem nextI_lt {f:Fl} (hp:FitP f) {x:Ir} {s:Int} (h:nextI f x=some s):0≤s∧s<(f.n:Int):=by
  obtain ⟨_,y,hy,rfl⟩:=nextI_some h
  exact rightI_sym hp (List.mem_of_getElem? hy)
theorem moved_fit {f:Fl} {x:Ir} {s:Int} (h:nextI f x=some s):fitI f (x.1,x.2.1+1,x.2.2)=true:=by
  obtain ⟨hf,y,hy,_⟩:=nextI_some h
  have:=(List.getElem?_eq_some_iff.1 hy).1
  rw [fitI_iff] at hf ⊢
  simp only
  omega
theorem movedL_fit {f:Fl} {l:List Ir} {s:Int}:∀ x∈movedL f l s,fitI f x=true:=by
  intro x hx
  unfold movedL at hx
  obtain ⟨y,hy,rfl⟩:=List.mem_map.1 hx
  have:=(List.mem_filter.1 hy).2
  exact moved_fit (of_decide_eq_true this)
theorem begL_fit {f:Fl}:∀ x∈begL f,fitI f x=true:=by
  intro x hx
  simp [begL] at hx; subst hx
  rw [fitI_iff]; simp only
  rw [rightI_neg (by omega)]
  simp
  omega
end Go.Proofs.YtbilbgjojdlobaaGreatDoor
namespace Go.Proofs.YtbilbgjojdlobaaGreatDoor
open Go.RowKit
def encR (x:Ir):List Value:=[.int .i64 x.1,.int .i64 x.2.1,.int .i64 x.2.2]
def valR (x:Ir):Value:=.agg #[.int .i64 x.1,.int .i64 x.2.1,.int .i64 x.2.2]
def okR (x:Ir):Prop:=i64B x.1∧i64B x.2.1∧i64B x.2.2
def IrsAt (l:List Ir) (ao:Option Addr) (W:World):Prop :=
  ∀ (i:Nat) (x:Ir),l[i]?=some x→∃ b off,ao=some ⟨b,off,none⟩∧b<W.heap.size∧W.cell? ⟨b,off+i * 3,none⟩=some (.int .i64 x.1)∧W.cell? ⟨b,off+i * 3+1,none⟩=some (.int .i64 x.2.1)∧W.cell? ⟨b,off+i * 3+2,none⟩=some (.int .i64 x.2.2)∧okR x
theorem IrsAt.nil (ao:Option Addr) (W:World):IrsAt [] ao W:=fun i x h=>by simp at h
theorem IrsAt.next {l:List Ir} {ao:Option Addr} {W W':World} (h:IrsAt l ao W) (hb:Below W.heap.size W W'):IrsAt l ao W':=fun i r hr=>by
  obtain ⟨b,off,h0,h1,h2,h3,h4,h5⟩:=h i r hr
  exact ⟨b,off,h0,Nat.lt_of_lt_of_le h1 hb.size,(hb.cell (p:=⟨b,off+i * 3,none⟩) h1).trans h2,(hb.cell (p:=⟨b,off+i * 3+1,none⟩) h1).trans h3,(hb.cell (p:=⟨b,off+i * 3+2,none⟩) h1).trans h4,h5⟩
theorem IrsAt.at {l:List Ir} {ao:Option Addr} {w W:World} (h:IrsAt l ao w) (hb:Below w.heap.size w W) {j:Nat} (hj:j<l.length) :
    ∃ b off,ao=some ⟨b,off,none⟩∧b<W.heap.size∧W.cell? ⟨b,off+j * 3,none⟩=some (.int .i64 l[j].1)∧W.cell? ⟨b,off+j * 3+1,none⟩=some (.int .i64 l[j].2.1)∧W.cell? ⟨b,off+j * 3+2,none⟩=some (.int .i64 l[j].2.2)∧okR l[j]:=h.next hb j l[j] (by simp [hj])
theorem IrsAt.ok {l:List Ir} {ao:Option Addr} {W:World} (h:IrsAt l ao W):∀ x∈l,okR x:=fun x hx=>by
  obtain ⟨i,hi,rfl⟩:=List.getElem_of_mem hx
  obtain ⟨_,_,_,_,_,_,_,h5⟩:=h.at (Below.refl _ _) hi
  exact h5
def SlL (l:List Ir) (v:Value) (W:World):Prop :=
  ∃ ao cap,v=.slice ao l.length cap∧IrsAt l ao W∧(ao=none→cap=0)∧l.length≤cap
theorem SlL.next {l:List Ir} {v:Value} {W W':World} (h:SlL l v W) (hb:Below W.heap.size W W'):SlL l v W':=by
  obtain ⟨ao,cap,h0,h1,h2⟩:=h
  exact ⟨ao,cap,h0,h1.next hb,h2⟩
theorem SlL.ok {l:List Ir} {v:Value} {W:World} (h:SlL l v W):∀ x∈l,okR x:=by
  obtain ⟨ao,cap,h0,h1,h2⟩:=h
  exact h1.ok
theorem SlL.nil (W:World):SlL [] (.slice none 0 0) W:=⟨none,0,rfl,IrsAt.nil _ _,fun _=>rfl,Nat.le_refl _⟩
def OwnL (B:Nat) (l:List Ir) (v:Value) (W:World):Prop:=W.ownsRow B 77 3 v l.length (l.flatMap encR)
theorem flatR_len:∀ l:List Ir,(l.flatMap encR).length=l.length * 3
  | []=>rfl
  | x :: l=>by rw [List.flatMap_cons,List.length_append,flatR_len l]; simp [encR]; omega
theorem flatR_get:∀ {l:List Ir} {i c:Nat} {x:Ir},l[i]?=some x→c<3→(l.flatMap encR)[i * 3+c]?=(encR x)[c]?
  | y :: l,0,c,x,h,hc=>by
    simp at h; subst h
    rw [List.flatMap_cons,Nat.zero_mul,Nat.zero_add,List.getElem?_append_left (by simp [encR]; exact hc)]
  | y :: l,i+1,c,x,h,hc=>by
    simp at h
    rw [List.flatMap_cons,List.getElem?_append_right (by simp [encR]; omega)]
    have e:(i+1) * 3+c - (encR y).length=i * 3+c:=by simp [encR]; omega
    rw [e]
    exact flatR_get h hc
theorem one_rowR (l:List Ir):∀ u∈l.flatMap encR,u.oneCell'=true:=by
  intro u hu
  obtain ⟨x,_,hx⟩:=List.mem_flatMap.1 hu
  simp [encR] at hx
  rcases hx with rfl | rfl | rfl <;> rfl
theorem OwnL.nil (B:Nat) (W:World):OwnL B [] (.slice none 0 0) W:=World.ownsRow_nil W B _ 3
theorem OwnL.at_ {B:Nat} {l:List Ir} {v:Value} {W:World} (h:OwnL B l v W) (hok:∀ x∈l,okR x) :
    ∃ ao cap,v=.slice ao l.length cap∧IrsAt l ao W∧(ao=none→cap=0)∧l.length≤cap∧(ao=none∨∃ g,ao=some ⟨g,0,none⟩∧B≤g∧g<W.heap.size):=by
  have h0:=h
  obtain ⟨h1,h2⟩:=h
  rcases h2 with ⟨rfl,hn⟩ | ⟨g,cap,cur,rfl,hB,hg,hcap,hm,hsz,hx⟩
  · obtain rfl:l=[]:=List.eq_nil_of_length_eq_zero hn
    exact ⟨none,0,by simp,IrsAt.nil _ _,fun _=>rfl,by simp,.inl rfl⟩
  · have hgl:g<W.heap.size:=(Array.getElem?_eq_some_iff.1 hg).1
    refine ⟨some ⟨g,0,none⟩,cap,rfl,fun i x hi=>⟨g,0,rfl,hgl,?_,?_,?_,hok x (List.mem_of_getElem? hi)⟩,(fun h=>by cases h),hcap,.inr ⟨g,rfl,hB,hgl⟩⟩
    · have:=World.ownsRow.cells h0 (g:=g) rfl (i * 3+0) (.int .i64 x.1) (by rw [flatR_get hi (by omega)]; rfl)
      rw [add_plain] at this
      simpa using this
    · have:=World.ownsRow.cells h0 (g:=g) rfl (i * 3+1) (.int .i64 x.2.1) (by rw [flatR_get hi (by omega)]; rfl)
      rw [add_plain] at this
      simpa [Nat.add_assoc] using this
    · have:=World.ownsRow.cells h0 (g:=g) rfl (i * 3+2) (.int .i64 x.2.2) (by rw [flatR_get hi (by omega)]; rfl)
      rw [add_plain] at this
      simpa [Nat.add_assoc] using this
theorem OwnL.sl {B:Nat} {l:List Ir} {v:Value} {W:World} (h:OwnL B l v W) (hok:∀ x∈l,okR x):SlL l v W:=by
  obtain ⟨ao,cap,h0,h1,h2,h3,_⟩:=h.at_ hok
  exact ⟨ao,cap,h0,h1,h2,h3⟩
theorem slice_of_ownK {W:World} {B n k:Nat} {e:TypeId} {v:Value} {xs:List Value} (h:W.ownsRow B e k v n xs):∃ a c,v=.slice a n c:=by
  rcases h.2 with ⟨rfl,h'⟩ | ⟨g,c,cur,rfl,_⟩
  · exact ⟨none,0,by rw [h']⟩
  · exact ⟨_,_,rfl⟩
theorem apart_ownK {W:World} {B n k:Nat} {e:TypeId} {v:Value} {xs:List Value} (h:W.ownsRow B e k v n xs):Apart B v:=by
  intro ad m c hv
  rcases h.2 with ⟨rfl,_⟩ | ⟨g,c,cur,rfl,hb,_⟩
  · cases hv
  · cases hv; exact hb
theorem infoLr:(Tryz.prog.info? 77).map (fun i=>(i.zero,i.size,i.bytes))=some (some (.agg #[.int .i64 0,.int .i64 0,.int .i64 0]),3,24):=by kernel_rfl
theorem new_cellR (W:World) (x:Ir) (t:TypeId):∀ (k:Nat) (u:Value),(encR x)[k]?=some u→(W.alloc (Obj.cells #[.int .i64 x.1,.int .i64 x.2.1,.int .i64 x.2.2] t)).cell? ((⟨W.heap.size,0,none⟩:Addr).add k)=some u:=by
  intro k u hk
  rw [add_plain]
  rcases k with _ | _ | _ | k
  · simp [encR] at hk; subst hk; simp
  · simp [encR] at hk; subst hk; simp
  · simp [encR] at hk; subst hk; simp
  · simp [encR] at hk
theorem one_encR (x:Ir):∀ u∈encR x,u.oneCell'=true:=by
  intro u hu
  simp [encR] at hu
  rcases hu with rfl | rfl | rfl <;> rfl
theorem OwnL.more {B:Nat} {l:List Ir} {x:Ir} {v:Value} {W:World} (h:W.ownsRow B 77 3 v (l.length+1) (l.flatMap encR++encR x)):OwnL B (l++[x]) v W:=by
  unfold OwnL
  rw [List.length_append,List.flatMap_append]
  simpa using h
theorem newsR {l:List Ir} {b off:Nat} {W:World} (h:IrsAt l (some ⟨b,off,none⟩) W) (i n:Nat):∀ (j:Nat) (u:Value),(((l.drop i).take n).flatMap encR)[j]?=some u→W.cell? ((⟨b,off+i * 3,none⟩:Addr).add j)=some u:=by
  intro j u hj
  have hjl:=(List.getElem?_eq_some_iff.1 hj).1
  rw [flatR_len] at hjl
  obtain ⟨q,c,hq,hc⟩:∃ q c,j=q * 3+c∧c<3:=⟨j / 3,j % 3,by omega,by omega⟩
  subst hq
  have hql:q<((l.drop i).take n).length:=by omega
  rw [flatR_get (List.getElem?_eq_getElem hql) hc] at hj
  have hx2:l[i+q]?=some (((l.drop i).take n)[q]):=by
    have:=List.getElem?_eq_getElem hql
    rw [List.getElem?_take] at this
    split at this
    · rw [List.getElem?_drop] at this; exact this
    · cases this
  obtain ⟨b',o',e,_,k1,k2,k3,_⟩:=h (i+q) _ hx2
  cases e
  rw [add_plain]
  generalize ((l.drop i).take n)[q]=y at *
  have e0:off+i * 3+(q * 3+0)=off+(i+q) * 3:=by omega
  have e1:off+i * 3+(q * 3+(0+1))=off+(i+q) * 3+1:=by omega
  have e2:off+i * 3+(q * 3+(0+1+1))=off+(i+q) * 3+2:=by omega
  rcases c with _ | _ | _ | c
  · simp [encR] at hj; subst hj
    rw [e0]; exact k1
  · simp [encR] at hj; subst hj
    rw [e1]; exact k2
  · simp [encR] at hj; subst hj
    rw [e2]; exact k3
  · omega
def RBox (x:Ir) (n:Nat) (W:World):Prop:=n<W.heap.size∧W.cell? ⟨n,0,none⟩=some (.int .i64 x.1)∧W.cell? ⟨n,1,none⟩=some (.int .i64 x.2.1)∧W.cell? ⟨n,2,none⟩=some (.int .i64 x.2.2)
theorem RBox.next {x:Ir} {n:Nat} {W W':World} (h:RBox x n W) (hb:Below W.heap.size W W'):RBox x n W' :=
  ⟨Nat.lt_of_lt_of_le h.1 hb.size,(hb.cell (p:=⟨n,0,none⟩) h.1).trans h.2.1,(hb.cell (p:=⟨n,1,none⟩) h.1).trans h.2.2.1,(hb.cell (p:=⟨n,2,none⟩) h.1).trans h.2.2.2⟩
theorem RBox.new (x:Ir) (t:TypeId) (w:World):RBox x w.heap.size (w.alloc (Obj.cells #[.int .i64 x.1,.int .i64 x.2.1,.int .i64 x.2.2] t)):=by
  refine ⟨by simp,?_,?_,?_⟩ <;> simp
theorem slT_whole (f:Fl) (hp:f.n≤600) (t:TypeId) (w:World) (b:Nat) (hb:w.heap.size=b) :
    SlT [wholeI f] (.slice (some ⟨b,0,none⟩) 1 1) (w.alloc (Obj.cells #[.int .i64 f.terms.length,.string ⟨#[]⟩,.string ⟨#[]⟩] t)):=by
  subst hb
  refine ⟨_,1,rfl,fun i x hi=>?_,(fun h=>by cases h),by simp,by omega⟩
  rcases i with _ | i
  · simp at hi; subst hi
    refine ⟨_,_,rfl,by simp,?_,?_,?_,?_,Nat.zero_le _,Nat.zero_le _⟩
    · simp [wholeI]
    · simp [wholeI]
    · simp [wholeI]
    · unfold wholeI i64B; unfold Fl.n at hp; simp only; omega
  · simp at hi
set_option maxRecDepth 100000 in
set_option maxHeartbeats 1000000 in
theorem right_any (f:Fl) (a:FlA) (p:Int) (w:World) (hf:FlAt f a w) (hn:f.n≤600) (h1:-1≤p) (h2:p<f.prods.length) :
    Calls Tryz.prog 100 #[a.val f,.int .i64 p] w fun e w'=>∃ v,e=.returned v∧SlT (rightI f p) v w'∧Below w.heap.size w w':=by
  obtain ⟨ta,tc,na,nc,pa,pc⟩:=a
  have X0:=FBox.new f ⟨ta,tc,na,nc,pa,pc⟩ 25 w
  have B0:Below w.heap.size w (w.alloc (fobj f ⟨ta,tc,na,nc,pa,pc⟩ 25)):=(Below.refl _ _).alloc (Nat.le_refl _) _
  have hP:=hf.2.2.1
  clear hf
  unfold fobj at X0 B0
  unfold FlA.val
  simp only at *
  by_cases hw:p=-1
  · subst hw
    have HW:=slT_whole f hn 55 (w.alloc (Obj.cells #[Value.slice ta f.terms.length tc,Value.slice na f.nons.length nc,Value.slice pa f.prods.length pc] 25)) (w.heap.size+1) (by simp)
    have HR:Hid (SlT (rightI f (-1)) (.slice (some ⟨w.heap.size+1,0,none⟩) 1 1) ((w.alloc (Obj.cells #[Value.slice ta f.terms.length tc,Value.slice na f.nons.length nc,Value.slice pa f.prods.length pc] 25)).alloc (Obj.cells #[.int .i64 f.terms.length,.string ⟨#[]⟩,.string ⟨#[]⟩] 55))):=by
      rw [rightI_neg (by omega)]; exact HW
    clear HW hP
    go_enter Tryz.func100,Tryz.ntmps100
    go_wp2_with fail
    go_ret
    exact ⟨_,rfl,HR.out,B0.alloc B0.size _⟩
  · obtain ⟨k,rfl⟩:∃ k:Nat,p=k:=⟨p.toNat,by omega⟩
    have hk:k<f.prods.length:=by omega
    obtain ⟨b,off,v,rfl,hb,c0,c1,c2,hv,_⟩:=hP.at B0 hk
    have HR:Hid (SlT (rightI f k) v (w.alloc (Obj.cells #[Value.slice ta f.terms.length tc,Value.slice na f.nons.length nc,Value.slice (some ⟨b,off,none⟩) f.prods.length pc] 25))):=by
      rw [rightI_nat (List.getElem?_eq_getElem hk)]; exact hv
    have hw':((k:Int) == -1)=false:=by simp
    obtain ⟨va,vc,rfl,_⟩:=hv
    generalize f.prods[k]=q at *
    clear hP
    go_enter Tryz.func100,Tryz.ntmps100
    go_wp2_with fail
    go_ret
    exact ⟨_,rfl,HR.out,B0⟩
set_option maxRecDepth 100000 in
set_option maxHeartbeats 1000000 in
theorem rright_any (f:Fl) (a:FlA) (p:Int) (w:World) (hf:FlAt f a w) (hn:f.n≤600) (h1:-1≤p) (h2:p<f.prods.length) :
    Calls Tryz.prog 71 #[a.val f,.int .i64 p] w fun e w'=>∃ v,e=.returned v∧SlT (rightI f p) v w'∧Below w.heap.size w w':=by
  obtain ⟨ta,tc,na,nc,pa,pc⟩:=a
  have X0:=FBox.new f ⟨ta,tc,na,nc,pa,pc⟩ 25 w
  have B0:Below w.heap.size w (w.alloc (fobj f ⟨ta,tc,na,nc,pa,pc⟩ 25)):=(Below.refl _ _).alloc (Nat.le_refl _) _
  have hP:=hf.2.2.1
  clear hf
  unfold fobj at X0 B0
  unfold FlA.val
  simp only at *
  by_cases hw:p=-1
  · subst hw
    have HW:=slT_whole f hn 55 (w.alloc (Obj.cells #[Value.slice ta f.terms.length tc,Value.slice na f.nons.length nc,Value.slice pa f.prods.length pc] 25)) (w.heap.size+1) (by simp)
    have HR:Hid (SlT (rightI f (-1)) (.slice (some ⟨w.heap.size+1,0,none⟩) 1 1) ((w.alloc (Obj.cells #[Value.slice ta f.terms.length tc,Value.slice na f.nons.length nc,Value.slice pa f.prods.length pc] 25)).alloc (Obj.cells #[.int .i64 f.terms.length,.string ⟨#[]⟩,.string ⟨#[]⟩] 55))):=by
      rw [rightI_neg (by omega)]; exact HW
    clear HW hP
    go_enter Tryz.func71,Tryz.ntmps71
    go_wp2_with fail
    go_ret
    exact ⟨_,rfl,HR.out,B0.alloc B0.size _⟩
  · obtain ⟨k,rfl⟩:∃ k:Nat,p=k:=⟨p.toNat,by omega⟩
    have hk:k<f.prods.length:=by omega
    obtain ⟨b,off,v,rfl,hb,c0,c1,c2,hv,_⟩:=hP.at B0 hk
    have HR:Hid (SlT (rightI f k) v (w.alloc (Obj.cells #[Value.slice ta f.terms.length tc,Value.slice na f.nons.length nc,Value.slice (some ⟨b,off,none⟩) f.prods.length pc] 25))):=by
      rw [rightI_nat (List.getElem?_eq_getElem hk)]; exact hv
    obtain ⟨va,vc,rfl,_⟩:=hv
    generalize f.prods[k]=q at *
    clear hP
    go_enter Tryz.func71,Tryz.ntmps71
    go_wp2_with fail
    go_ret
    exact ⟨_,rfl,HR.out,B0⟩
set_option maxHeartbeats 400000 in
theorem end_any (f:Fl) (a:FlA) (w:World) :
    Calls Tryz.prog 127 #[a.val f] w fun e w'=>e=.returned (.int .i64 f.terms.length)∧Below w.heap.size w w':=by
  obtain ⟨ta,tc,na,nc,pa,pc⟩:=a
  unfold FlA.val
  simp only
  go_enter Tryz.func127,Tryz.ntmps127
  go_wp2_with fail
  go_ret
  exact ⟨rfl,(Below.refl _ _).alloc (Nat.le_refl _) _⟩
set_option maxRecDepth 100000 in
set_option maxHeartbeats 2000000 in
theorem fit_item (f:Fl) (a:FlA) (x:Ir) (w:World) (hf:FlAt f a w) (hn:f.n≤600) :
    Calls Tryz.prog 99 #[a.val f,valR x] w fun e w'=>e=.returned (.bool (fitI f x))∧Below w.heap.size w w':=by
  have hR:=fun W (hb:Below w.heap.size w W) (h1:-1≤x.1) (h2:x.1<f.prods.length)=>right_any f a x.1 W (hf.next hb) hn h1 h2
  have hE:=fun W=>end_any f a W
  obtain ⟨ta,tc,na,nc,pa,pc⟩:=a
  obtain ⟨x0,x1,x2⟩:=x
  have X0:=FBox.new f ⟨ta,tc,na,nc,pa,pc⟩ 25 w
  have B0:Below w.heap.size w (w.alloc (fobj f ⟨ta,tc,na,nc,pa,pc⟩ 25)):=(Below.refl _ _).alloc (Nat.le_refl _) _
  have Y0:=RBox.new (x0,x1,x2) 77 (w.alloc (fobj f ⟨ta,tc,na,nc,pa,pc⟩ 25))
  have X1:=X0.next ((Below.refl _ _).alloc (Nat.le_refl _) (Obj.cells #[.int .i64 x0,.int .i64 x1,.int .i64 x2] 77))
  have B1:=B0.alloc B0.size (Obj.cells #[.int .i64 x0,.int .i64 x1,.int .i64 x2] 77)
  have hz:(w.alloc (fobj f ⟨ta,tc,na,nc,pa,pc⟩ 25)).heap.size=w.heap.size+1:=by simp
  rw [hz] at Y0
  clear X0 B0 hf hz
  unfold fobj at X1 B1 Y0
  unfold FlA.val at hR hE ⊢
  unfold valR
  simp only at *
  have HW:Hid (fitI f (x0,x1,x2)=decide (-1≤x0∧x0<f.prods.length∧0≤x1∧x1≤(rightI f x0).length∧0≤x2∧x2≤f.terms.length)):=rfl
  obtain ⟨b1,y0,y1,y2⟩:=id Y0
  obtain ⟨b0,z0,z1,z2⟩:=id X1
  simp only at y0 y1 y2 z0 z1 z2
  by_cases g1:x0 < -1
  · have HZ:Hid (fitI f (x0,x1,x2)=false):=by show _=_; rw [HW.out]; exact decide_eq_false (by omega)
    clear hR hE HW X1 Y0
    go_enter Tryz.func99,Tryz.ntmps99
    go_wp2_with fail
    go_ret
    exact ⟨ret_bool HZ.out.symm,B1⟩
  by_cases g2:(f.prods.length:Int)≤x0
  · have HZ:Hid (fitI f (x0,x1,x2)=false):=by show _=_; rw [HW.out]; exact decide_eq_false (by omega)
    clear hR hE HW X1 Y0
    go_enter Tryz.func99,Tryz.ntmps99
    go_wp2_with fail
    go_ret
    exact ⟨ret_bool HZ.out.symm,B1⟩
  have g1':decide (x0 < -1)=false:=decide_eq_false g1
  have g2':decide ((f.prods.length:Int)≤x0)=false:=decide_eq_false g2
  go_enter Tryz.func99,Tryz.ntmps99
  go_wp2_with fail
  generalize (w.alloc (Obj.cells #[Value.slice ta f.terms.length tc,Value.slice na f.nons.length nc,Value.slice pa f.prods.length pc] 25)).alloc (Obj.cells #[.int .i64 x0,.int .i64 x1,.int .i64 x2] 77)=w0 at *
  have hstep:∀ W w',(W.cell? ⟨w.heap.size,0,none⟩=some (.slice ta f.terms.length tc)∧W.cell? ⟨w.heap.size,1,none⟩=some (.slice na f.nons.length nc)∧W.cell? ⟨w.heap.size,2,none⟩=some (.slice pa f.prods.length pc)∧W.cell? ⟨w.heap.size+1,0,none⟩=some (.int .i64 x0)∧W.cell? ⟨w.heap.size+1,1,none⟩=some (.int .i64 x1)∧W.cell? ⟨w.heap.size+1,2,none⟩=some (.int .i64 x2)∧Below w0.heap.size w0 W)→Below W.heap.size W w'→(w'.cell? ⟨w.heap.size,0,none⟩=some (.slice ta f.terms.length tc)∧w'.cell? ⟨w.heap.size,1,none⟩=some (.slice na f.nons.length nc)∧w'.cell? ⟨w.heap.size,2,none⟩=some (.slice pa f.prods.length pc)∧w'.cell? ⟨w.heap.size+1,0,none⟩=some (.int .i64 x0)∧w'.cell? ⟨w.heap.size+1,1,none⟩=some (.int .i64 x1)∧w'.cell? ⟨w.heap.size+1,2,none⟩=some (.int .i64 x2)∧Below w0.heap.size w0 w'):=by
    rintro W w' ⟨_,_,_,_,_,_,h⟩ hb
    have h':=below_then h hb h.size
    obtain ⟨_,k0,k1,k2⟩:=X1.next h'
    obtain ⟨_,l0,l1,l2⟩:=Y0.next h'
    exact ⟨k0,k1,k2,l0,l1,l2,h'⟩
  have hR':∀ W,(W.cell? ⟨w.heap.size,0,none⟩=some (.slice ta f.terms.length tc)∧W.cell? ⟨w.heap.size,1,none⟩=some (.slice na f.nons.length nc)∧W.cell? ⟨w.heap.size,2,none⟩=some (.slice pa f.prods.length pc)∧W.cell? ⟨w.heap.size+1,0,none⟩=some (.int .i64 x0)∧W.cell? ⟨w.heap.size+1,1,none⟩=some (.int .i64 x1)∧W.cell? ⟨w.heap.size+1,2,none⟩=some (.int .i64 x2)∧Below w0.heap.size w0 W)→Calls Tryz.prog 100 #[.agg #[.slice ta f.terms.length tc,.slice na f.nons.length nc,.slice pa f.prods.length pc],.int .i64 x0] W fun e w'=>∃ va vc,e=.returned (.slice va (rightI f x0).length vc)∧(w'.cell? ⟨w.heap.size,0,none⟩=some (.slice ta f.terms.length tc)∧w'.cell? ⟨w.heap.size,1,none⟩=some (.slice na f.nons.length nc)∧w'.cell? ⟨w.heap.size,2,none⟩=some (.slice pa f.prods.length pc)∧w'.cell? ⟨w.heap.size+1,0,none⟩=some (.int .i64 x0)∧w'.cell? ⟨w.heap.size+1,1,none⟩=some (.int .i64 x1)∧w'.cell? ⟨w.heap.size+1,2,none⟩=some (.int .i64 x2)∧Below w0.heap.size w0 w'):=by
    intro W hS
    refine (hR W (below_then B1 hS.2.2.2.2.2.2 B1.size) (by omega) (by omega)).mono ?_
    rintro e w' ⟨v,rfl,⟨va,vc,rfl,_⟩,hb⟩
    exact ⟨va,vc,rfl,hstep _ _ hS hb⟩
  have hE':∀ W,(W.cell? ⟨w.heap.size,0,none⟩=some (.slice ta f.terms.length tc)∧W.cell? ⟨w.heap.size,1,none⟩=some (.slice na f.nons.length nc)∧W.cell? ⟨w.heap.size,2,none⟩=some (.slice pa f.prods.length pc)∧W.cell? ⟨w.heap.size+1,0,none⟩=some (.int .i64 x0)∧W.cell? ⟨w.heap.size+1,1,none⟩=some (.int .i64 x1)∧W.cell? ⟨w.heap.size+1,2,none⟩=some (.int .i64 x2)∧Below w0.heap.size w0 W)→Calls Tryz.prog 127 #[.agg #[.slice ta f.terms.length tc,.slice na f.nons.length nc,.slice pa f.prods.length pc]] W fun e w'=>e=.returned (.int .i64 f.terms.length)∧(w'.cell? ⟨w.heap.size,0,none⟩=some (.slice ta f.terms.length tc)∧w'.cell? ⟨w.heap.size,1,none⟩=some (.slice na f.nons.length nc)∧w'.cell? ⟨w.heap.size,2,none⟩=some (.slice pa f.prods.length pc)∧w'.cell? ⟨w.heap.size+1,0,none⟩=some (.int .i64 x0)∧w'.cell? ⟨w.heap.size+1,1,none⟩=some (.int .i64 x1)∧w'.cell? ⟨w.heap.size+1,2,none⟩=some (.int .i64 x2)∧Below w0.heap.size w0 w'):=by
    intro W hS
    refine (hE W).mono ?_
    rintro e w' ⟨rfl,hb⟩
    exact ⟨rfl,hstep _ _ hS hb⟩
  have HS0:Hid (w0.drew.cell? ⟨w.heap.size,0,none⟩=some (.slice ta f.terms.length tc)∧w0.drew.cell? ⟨w.heap.size,1,none⟩=some (.slice na f.nons.length nc)∧w0.drew.cell? ⟨w.heap.size,2,none⟩=some (.slice pa f.prods.length pc)∧w0.drew.cell? ⟨w.heap.size+1,0,none⟩=some (.int .i64 x0)∧w0.drew.cell? ⟨w.heap.size+1,1,none⟩=some (.int .i64 x1)∧w0.drew.cell? ⟨w.heap.size+1,2,none⟩=some (.int .i64 x2)∧Below w0.heap.size w0 w0.drew):=⟨z0,z1,z2,y0,y1,y2,(Below.refl _ _).drew⟩
  have HBB:Hid (∀ W,Below w0.heap.size w0 W→Below w.heap.size w W):=fun W hb=>below_then B1 hb B1.size
  generalize (rightI f x0).length=L at *
  clear hR hE hstep X1 Y0 B1 b0 b1 z0 z1 z2 y0 y1 y2
  by_cases d1:0≤x1
  · by_cases d2:x1≤L
    · by_cases d3:0≤x2
      · have HZ:Hid (fitI f (x0,x1,x2)=decide (x2≤f.terms.length)):=by
          show _=_; rw [HW.out,Bool.eq_iff_iff,decide_eq_true_eq,decide_eq_true_eq]; omega
        have d1':decide (0≤x1)=true:=decide_eq_true d1
        have d2':decide (x1≤(L:Int))=true:=decide_eq_true d2
        have d3':decide (0≤x2)=true:=decide_eq_true d3
        clear HW
        go_region_held3 (fun W=>W.cell? ⟨w.heap.size,0,none⟩=some (.slice ta f.terms.length tc)∧W.cell? ⟨w.heap.size,1,none⟩=some (.slice na f.nons.length nc)∧W.cell? ⟨w.heap.size,2,none⟩=some (.slice pa f.prods.length pc)∧W.cell? ⟨w.heap.size+1,0,none⟩=some (.int .i64 x0)∧W.cell? ⟨w.heap.size+1,1,none⟩=some (.int .i64 x1)∧W.cell? ⟨w.heap.size+1,2,none⟩=some (.int .i64 x2)∧Below w0.heap.size w0 W) (first | exact HS0.out | assumption) (first
          | (go_at_call 100; refine (hR' _ (by assumption)).mono ?_; rintro e w' ⟨va,vc,rfl,hS⟩)
          | (go_at_call 127; refine (hE' _ (by assumption)).mono ?_; rintro e w'' ⟨rfl,hS2⟩))
        have HBx:Hid (Below w.heap.size w w''):=HBB.out _ hS2.2.2.2.2.2.2
        clear hS2 hR' hE' HBB
        go_wp2_with fail
        go_ret
        exact ⟨ret_bool HZ.out.symm,HBx.out⟩
      · have HZ:Hid (fitI f (x0,x1,x2)=false):=by show _=_; rw [HW.out]; exact decide_eq_false (by omega)
        have d1':decide (0≤x1)=true:=decide_eq_true d1
        have d2':decide (x1≤(L:Int))=true:=decide_eq_true d2
        have d3':decide (0≤x2)=false:=decide_eq_false d3
        clear HW hE'
        refine wp_region_L (fun W=>W.cell? ⟨w.heap.size,0,none⟩=some (.slice ta f.terms.length tc)∧W.cell? ⟨w.heap.size,1,none⟩=some (.slice na f.nons.length nc)∧W.cell? ⟨w.heap.size,2,none⟩=some (.slice pa f.prods.length pc)∧W.cell? ⟨w.heap.size+1,0,none⟩=some (.int .i64 x0)∧W.cell? ⟨w.heap.size+1,1,none⟩=some (.int .i64 x1)∧W.cell? ⟨w.heap.size+1,2,none⟩=some (.int .i64 x2)∧Below w0.heap.size w0 W) 26 (by kernel_rfl) 26 rfl ?_
        refine lk ⟨some 16,.fieldAddr 77 (.tmp 3) 1,0, "item.go:52",#[],none⟩ HS0.out ?_;simp only [Act.put,sA,s0,sS]
        refine lk ⟨some 17,.load 3 (.tmp 16),3, "item.go:52",#[⟨0,.data⟩],none⟩ HS0.out ?_;simp only [Act.put,sA,s0,sS]
        refine lk ⟨some 18,.binOp .leq 3 (.const (.int .i64 0)) (.tmp 17) 3,4, "item.go:52",#[⟨1,.data⟩],none⟩ HS0.out ?_;simp only [Act.put,sA,s0,sS]
        refine lk ⟨some 19,.move (.tmp 18),4, "item.go:52",#[⟨2,.data⟩],none⟩ HS0.out ?_;simp only [Act.put,sA,s0,sS]
        refine lk ⟨some 20,.fieldAddr 77 (.tmp 3) 1,0, "item.go:52",#[⟨3,.guard⟩],some (3,true)⟩ HS0.out ?_;simp only [Act.put,sA,s0,sS]
        refine lk ⟨some 21,.load 3 (.tmp 20),3, "item.go:52",#[⟨4,.data⟩,⟨3,.guard⟩],some (3,true)⟩ HS0.out ?_;simp only [Act.put,sA,s0,sS]
        refine lk ⟨some 22,.load 25 (.tmp 2),25, "item.go:52",#[⟨3,.guard⟩],some (3,true)⟩ HS0.out ?_;simp only [Act.put,sA,s0,sS]
        refine lk ⟨some 23,.fieldAddr 77 (.tmp 3) 0,0, "item.go:52",#[⟨3,.guard⟩],some (3,true)⟩ HS0.out ?_;simp only [Act.put,sA,s0,sS]
        refine lk ⟨some 24,.load 3 (.tmp 23),3, "item.go:52",#[⟨7,.data⟩,⟨3,.guard⟩],some (3,true)⟩ HS0.out ?_;simp only [Act.put,sA,s0,sS]
        refine wpL_one (o:=⟨some 25,.call ⟨.value (.func 100),#[.tmp 22,.tmp 24],#[25,3]⟩,56, "item.go:52",#[⟨6,.data⟩,⟨8,.data⟩,⟨3,.chain⟩,⟨3,.guard⟩],some (3,true)⟩) (by decide) (by kernel_rfl) rfl (fun K hK=>?_)
        go_simp
        refine (hR' _ HS0.out).mono ?_
        rintro e w' ⟨va,vc,rfl,hS⟩
        refine hK.out _ _ (fun _=>hS) ?_
        clear hK
        refine lk ⟨some 26,.call ⟨.builtin .len,#[.tmp 25],#[56]⟩,3, "item.go:52",#[⟨9,.data⟩,⟨3,.guard⟩],some (3,true)⟩ hS ?_;simp only [Act.put,sA,s0,sS]
        refine lk ⟨some 27,.binOp .leq 3 (.tmp 21) (.tmp 26) 3,4, "item.go:52",#[⟨5,.data⟩,⟨10,.data⟩,⟨3,.guard⟩],some (3,true)⟩ hS ?_;simp only [Act.put,sA,s0,sS]
        refine lk ⟨some 28,.pick (.tmp 19) (.tmp 27) (.const (.bool false)),4, "item.go:52",#[⟨3,.data⟩,⟨11,.data⟩],none⟩ hS ?_;simp only [Act.put,sA,s0,sS]
        refine lk ⟨some 29,.move (.tmp 28),4, "item.go:52",#[⟨12,.data⟩,⟨9,.chain⟩],none⟩ hS ?_;simp only [Act.put,sA,s0,sS]
        refine lk ⟨some 30,.fieldAddr 77 (.tmp 3) 2,0, "item.go:52",#[⟨13,.guard⟩],some (13,true)⟩ hS ?_;simp only [Act.put,sA,s0,sS]
        refine lk ⟨some 31,.load 3 (.tmp 30),3, "item.go:52",#[⟨14,.data⟩,⟨13,.guard⟩],some (13,true)⟩ hS ?_;simp only [Act.put,sA,s0,sS]
        refine lk ⟨some 32,.binOp .leq 3 (.const (.int .i64 0)) (.tmp 31) 3,4, "item.go:52",#[⟨15,.data⟩,⟨13,.guard⟩],some (13,true)⟩ hS ?_;simp only [Act.put,sA,s0,sS]
        refine lk ⟨some 33,.pick (.tmp 29) (.tmp 32) (.const (.bool false)),4, "item.go:52",#[⟨13,.data⟩,⟨16,.data⟩],none⟩ hS ?_;simp only [Act.put,sA,s0,sS]
        refine lk ⟨some 34,.move (.tmp 33),4, "item.go:52",#[⟨17,.data⟩,⟨13,.chain⟩],none⟩ hS ?_;simp only [Act.put,sA,s0,sS]
        refine lu ⟨some 35,.fieldAddr 77 (.tmp 3) 2,0, "item.go:52",#[⟨18,.guard⟩],some (18,true)⟩ hS ?_;simp only [Act.put,sA,s0,sS]
        refine lu ⟨some 36,.load 3 (.tmp 35),3, "item.go:52",#[⟨19,.data⟩,⟨18,.guard⟩],some (18,true)⟩ hS ?_;simp only [Act.put,sA,s0,sS]
        refine lu ⟨some 37,.load 25 (.tmp 2),25, "item.go:52",#[⟨18,.guard⟩],some (18,true)⟩ hS ?_;simp only [Act.put,sA,s0,sS]
        refine lu ⟨some 38,.call ⟨.value (.func 127),#[.tmp 37],#[25]⟩,3, "item.go:52",#[⟨21,.data⟩,⟨18,.chain⟩,⟨18,.guard⟩],some (18,true)⟩ hS ?_;simp only [Act.put,sA,s0,sS]
        refine lu ⟨some 39,.binOp .leq 3 (.tmp 36) (.tmp 38) 3,4, "item.go:52",#[⟨20,.data⟩,⟨22,.data⟩,⟨18,.guard⟩],some (18,true)⟩ hS ?_;simp only [Act.put,sA,s0,sS]
        refine lk ⟨some 40,.pick (.tmp 34) (.tmp 39) (.const (.bool false)),4, "item.go:52",#[⟨18,.data⟩,⟨23,.data⟩],none⟩ hS ?_;simp only [Act.put,sA,s0,sS]
        refine lk ⟨some 4,.assign (.tmp 40),4, "item.go:52",#[⟨24,.data⟩,⟨22,.chain⟩,⟨0,.phase⟩,⟨1,.phase⟩,⟨2,.phase⟩,⟨3,.phase⟩,⟨4,.phase⟩,⟨5,.phase⟩,⟨6,.phase⟩,⟨7,.phase⟩,⟨8,.phase⟩,⟨9,.phase⟩,⟨10,.phase⟩,⟨11,.phase⟩,⟨12,.phase⟩,⟨13,.phase⟩,⟨14,.phase⟩,⟨15,.phase⟩,⟨16,.phase⟩,⟨17,.phase⟩,⟨18,.phase⟩,⟨19,.phase⟩,⟨20,.phase⟩,⟨21,.phase⟩,⟨22,.phase⟩,⟨23,.phase⟩,⟨24,.phase⟩],none⟩ hS ?_;simp only [Act.put,sA,s0,sS]
        refine wpAnyL_done (by kernel_rfl) ?_ _
        have HBx:Hid (Below w.heap.size w w'):=HBB.out _ hS.2.2.2.2.2.2
        clear hS hR' HBB
        go_wp2_with fail
        go_ret
        exact ⟨ret_bool HZ.out.symm,HBx.out⟩
    · have HZ:Hid (fitI f (x0,x1,x2)=false):=by show _=_; rw [HW.out]; exact decide_eq_false (by omega)
      have d1':decide (0≤x1)=true:=decide_eq_true d1
      have d2':decide (x1≤(L:Int))=false:=decide_eq_false d2
      clear HW hE'
      refine wp_region_L (fun W=>W.cell? ⟨w.heap.size,0,none⟩=some (.slice ta f.terms.length tc)∧W.cell? ⟨w.heap.size,1,none⟩=some (.slice na f.nons.length nc)∧W.cell? ⟨w.heap.size,2,none⟩=some (.slice pa f.prods.length pc)∧W.cell? ⟨w.heap.size+1,0,none⟩=some (.int .i64 x0)∧W.cell? ⟨w.heap.size+1,1,none⟩=some (.int .i64 x1)∧W.cell? ⟨w.heap.size+1,2,none⟩=some (.int .i64 x2)∧Below w0.heap.size w0 W) 26 (by kernel_rfl) 26 rfl ?_
      refine lk ⟨some 16,.fieldAddr 77 (.tmp 3) 1,0, "item.go:52",#[],none⟩ HS0.out ?_;simp only [Act.put,sA,s0,sS]
      refine lk ⟨some 17,.load 3 (.tmp 16),3, "item.go:52",#[⟨0,.data⟩],none⟩ HS0.out ?_;simp only [Act.put,sA,s0,sS]
      refine lk ⟨some 18,.binOp .leq 3 (.const (.int .i64 0)) (.tmp 17) 3,4, "item.go:52",#[⟨1,.data⟩],none⟩ HS0.out ?_;simp only [Act.put,sA,s0,sS]
      refine lk ⟨some 19,.move (.tmp 18),4, "item.go:52",#[⟨2,.data⟩],none⟩ HS0.out ?_;simp only [Act.put,sA,s0,sS]
      refine lk ⟨some 20,.fieldAddr 77 (.tmp 3) 1,0, "item.go:52",#[⟨3,.guard⟩],some (3,true)⟩ HS0.out ?_;simp only [Act.put,sA,s0,sS]
      refine lk ⟨some 21,.load 3 (.tmp 20),3, "item.go:52",#[⟨4,.data⟩,⟨3,.guard⟩],some (3,true)⟩ HS0.out ?_;simp only [Act.put,sA,s0,sS]
      refine lk ⟨some 22,.load 25 (.tmp 2),25, "item.go:52",#[⟨3,.guard⟩],some (3,true)⟩ HS0.out ?_;simp only [Act.put,sA,s0,sS]
      refine lk ⟨some 23,.fieldAddr 77 (.tmp 3) 0,0, "item.go:52",#[⟨3,.guard⟩],some (3,true)⟩ HS0.out ?_;simp only [Act.put,sA,s0,sS]
      refine lk ⟨some 24,.load 3 (.tmp 23),3, "item.go:52",#[⟨7,.data⟩,⟨3,.guard⟩],some (3,true)⟩ HS0.out ?_;simp only [Act.put,sA,s0,sS]
      refine wpL_one (o:=⟨some 25,.call ⟨.value (.func 100),#[.tmp 22,.tmp 24],#[25,3]⟩,56, "item.go:52",#[⟨6,.data⟩,⟨8,.data⟩,⟨3,.chain⟩,⟨3,.guard⟩],some (3,true)⟩) (by decide) (by kernel_rfl) rfl (fun K hK=>?_)
      go_simp
      refine (hR' _ HS0.out).mono ?_
      rintro e w' ⟨va,vc,rfl,hS⟩
      refine hK.out _ _ (fun _=>hS) ?_
      clear hK
      refine lk ⟨some 26,.call ⟨.builtin .len,#[.tmp 25],#[56]⟩,3, "item.go:52",#[⟨9,.data⟩,⟨3,.guard⟩],some (3,true)⟩ hS ?_;simp only [Act.put,sA,s0,sS]
      refine lk ⟨some 27,.binOp .leq 3 (.tmp 21) (.tmp 26) 3,4, "item.go:52",#[⟨5,.data⟩,⟨10,.data⟩,⟨3,.guard⟩],some (3,true)⟩ hS ?_;simp only [Act.put,sA,s0,sS]
      refine lk ⟨some 28,.pick (.tmp 19) (.tmp 27) (.const (.bool false)),4, "item.go:52",#[⟨3,.data⟩,⟨11,.data⟩],none⟩ hS ?_;simp only [Act.put,sA,s0,sS]
      refine lk ⟨some 29,.move (.tmp 28),4, "item.go:52",#[⟨12,.data⟩,⟨9,.chain⟩],none⟩ hS ?_;simp only [Act.put,sA,s0,sS]
      refine lu ⟨some 30,.fieldAddr 77 (.tmp 3) 2,0, "item.go:52",#[⟨13,.guard⟩],some (13,true)⟩ hS ?_;simp only [Act.put,sA,s0,sS]
      refine lu ⟨some 31,.load 3 (.tmp 30),3, "item.go:52",#[⟨14,.data⟩,⟨13,.guard⟩],some (13,true)⟩ hS ?_;simp only [Act.put,sA,s0,sS]
      refine lu ⟨some 32,.binOp .leq 3 (.const (.int .i64 0)) (.tmp 31) 3,4, "item.go:52",#[⟨15,.data⟩,⟨13,.guard⟩],some (13,true)⟩ hS ?_;simp only [Act.put,sA,s0,sS]
      refine lk ⟨some 33,.pick (.tmp 29) (.tmp 32) (.const (.bool false)),4, "item.go:52",#[⟨13,.data⟩,⟨16,.data⟩],none⟩ hS ?_;simp only [Act.put,sA,s0,sS]
      refine lk ⟨some 34,.move (.tmp 33),4, "item.go:52",#[⟨17,.data⟩,⟨13,.chain⟩],none⟩ hS ?_;simp only [Act.put,sA,s0,sS]
      refine lu ⟨some 35,.fieldAddr 77 (.tmp 3) 2,0, "item.go:52",#[⟨18,.guard⟩],some (18,true)⟩ hS ?_;simp only [Act.put,sA,s0,sS]
      refine lu ⟨some 36,.load 3 (.tmp 35),3, "item.go:52",#[⟨19,.data⟩,⟨18,.guard⟩],some (18,true)⟩ hS ?_;simp only [Act.put,sA,s0,sS]
      refine lu ⟨some 37,.load 25 (.tmp 2),25, "item.go:52",#[⟨18,.guard⟩],some (18,true)⟩ hS ?_;simp only [Act.put,sA,s0,sS]
      refine lu ⟨some 38,.call ⟨.value (.func 127),#[.tmp 37],#[25]⟩,3, "item.go:52",#[⟨21,.data⟩,⟨18,.chain⟩,⟨18,.guard⟩],some (18,true)⟩ hS ?_;simp only [Act.put,sA,s0,sS]
      refine lu ⟨some 39,.binOp .leq 3 (.tmp 36) (.tmp 38) 3,4, "item.go:52",#[⟨20,.data⟩,⟨22,.data⟩,⟨18,.guard⟩],some (18,true)⟩ hS ?_;simp only [Act.put,sA,s0,sS]
      refine lk ⟨some 40,.pick (.tmp 34) (.tmp 39) (.const (.bool false)),4, "item.go:52",#[⟨18,.data⟩,⟨23,.data⟩],none⟩ hS ?_;simp only [Act.put,sA,s0,sS]
      refine lk ⟨some 4,.assign (.tmp 40),4, "item.go:52",#[⟨24,.data⟩,⟨22,.chain⟩,⟨0,.phase⟩,⟨1,.phase⟩,⟨2,.phase⟩,⟨3,.phase⟩,⟨4,.phase⟩,⟨5,.phase⟩,⟨6,.phase⟩,⟨7,.phase⟩,⟨8,.phase⟩,⟨9,.phase⟩,⟨10,.phase⟩,⟨11,.phase⟩,⟨12,.phase⟩,⟨13,.phase⟩,⟨14,.phase⟩,⟨15,.phase⟩,⟨16,.phase⟩,⟨17,.phase⟩,⟨18,.phase⟩,⟨19,.phase⟩,⟨20,.phase⟩,⟨21,.phase⟩,⟨22,.phase⟩,⟨23,.phase⟩,⟨24,.phase⟩],none⟩ hS ?_;simp only [Act.put,sA,s0,sS]
      refine wpAnyL_done (by kernel_rfl) ?_ _
      have HBx:Hid (Below w.heap.size w w'):=HBB.out _ hS.2.2.2.2.2.2
      clear hS hR' HBB
      go_wp2_with fail
      go_ret
      exact ⟨ret_bool HZ.out.symm,HBx.out⟩
  · have HZ:Hid (fitI f (x0,x1,x2)=false):=by show _=_; rw [HW.out]; exact decide_eq_false (by omega)
    have d1':decide (0≤x1)=false:=decide_eq_false d1
    obtain ⟨z0,z1,z2,y0,y1,y2,hb0⟩:=HS0.out
    have HBx:Hid (Below w.heap.size w w0.drew):=HBB.out _ hb0
    clear HW hE' hR' HBB hb0
    refine wp_region_L (fun W=>W.cell? ⟨w.heap.size,0,none⟩=some (.slice ta f.terms.length tc)∧W.cell? ⟨w.heap.size,1,none⟩=some (.slice na f.nons.length nc)∧W.cell? ⟨w.heap.size,2,none⟩=some (.slice pa f.prods.length pc)∧W.cell? ⟨w.heap.size+1,0,none⟩=some (.int .i64 x0)∧W.cell? ⟨w.heap.size+1,1,none⟩=some (.int .i64 x1)∧W.cell? ⟨w.heap.size+1,2,none⟩=some (.int .i64 x2)∧Below w0.heap.size w0 W) 26 (by kernel_rfl) 26 rfl ?_
    refine lk ⟨some 16,.fieldAddr 77 (.tmp 3) 1,0, "item.go:52",#[],none⟩ HS0.out ?_;simp only [Act.put,sA,s0,sS]
    refine lk ⟨some 17,.load 3 (.tmp 16),3, "item.go:52",#[⟨0,.data⟩],none⟩ HS0.out ?_;simp only [Act.put,sA,s0,sS]
    refine lk ⟨some 18,.binOp .leq 3 (.const (.int .i64 0)) (.tmp 17) 3,4, "item.go:52",#[⟨1,.data⟩],none⟩ HS0.out ?_;simp only [Act.put,sA,s0,sS]
    refine lk ⟨some 19,.move (.tmp 18),4, "item.go:52",#[⟨2,.data⟩],none⟩ HS0.out ?_;simp only [Act.put,sA,s0,sS]
    refine lu ⟨some 20,.fieldAddr 77 (.tmp 3) 1,0, "item.go:52",#[⟨3,.guard⟩],some (3,true)⟩ HS0.out ?_;simp only [Act.put,sA,s0,sS]
    refine lu ⟨some 21,.load 3 (.tmp 20),3, "item.go:52",#[⟨4,.data⟩,⟨3,.guard⟩],some (3,true)⟩ HS0.out ?_;simp only [Act.put,sA,s0,sS]
    refine lu ⟨some 22,.load 25 (.tmp 2),25, "item.go:52",#[⟨3,.guard⟩],some (3,true)⟩ HS0.out ?_;simp only [Act.put,sA,s0,sS]
    refine lu ⟨some 23,.fieldAddr 77 (.tmp 3) 0,0, "item.go:52",#[⟨3,.guard⟩],some (3,true)⟩ HS0.out ?_;simp only [Act.put,sA,s0,sS]
    refine lu ⟨some 24,.load 3 (.tmp 23),3, "item.go:52",#[⟨7,.data⟩,⟨3,.guard⟩],some (3,true)⟩ HS0.out ?_;simp only [Act.put,sA,s0,sS]
    refine lu ⟨some 25,.call ⟨.value (.func 100),#[.tmp 22,.tmp 24],#[25,3]⟩,56, "item.go:52",#[⟨6,.data⟩,⟨8,.data⟩,⟨3,.chain⟩,⟨3,.guard⟩],some (3,true)⟩ HS0.out ?_;simp only [Act.put,sA,s0,sS]
    refine lu ⟨some 26,.call ⟨.builtin .len,#[.tmp 25],#[56]⟩,3, "item.go:52",#[⟨9,.data⟩,⟨3,.guard⟩],some (3,true)⟩ HS0.out ?_;simp only [Act.put,sA,s0,sS]
    refine lu ⟨some 27,.binOp .leq 3 (.tmp 21) (.tmp 26) 3,4, "item.go:52",#[⟨5,.data⟩,⟨10,.data⟩,⟨3,.guard⟩],some (3,true)⟩ HS0.out ?_;simp only [Act.put,sA,s0,sS]
    refine lk ⟨some 28,.pick (.tmp 19) (.tmp 27) (.const (.bool false)),4, "item.go:52",#[⟨3,.data⟩,⟨11,.data⟩],none⟩ HS0.out ?_;simp only [Act.put,sA,s0,sS]
    refine lk ⟨some 29,.move (.tmp 28),4, "item.go:52",#[⟨12,.data⟩,⟨9,.chain⟩],none⟩ HS0.out ?_;simp only [Act.put,sA,s0,sS]
    refine lu ⟨some 30,.fieldAddr 77 (.tmp 3) 2,0, "item.go:52",#[⟨13,.guard⟩],some (13,true)⟩ HS0.out ?_;simp only [Act.put,sA,s0,sS]
    refine lu ⟨some 31,.load 3 (.tmp 30),3, "item.go:52",#[⟨14,.data⟩,⟨13,.guard⟩],some (13,true)⟩ HS0.out ?_;simp only [Act.put,sA,s0,sS]
    refine lu ⟨some 32,.binOp .leq 3 (.const (.int .i64 0)) (.tmp 31) 3,4, "item.go:52",#[⟨15,.data⟩,⟨13,.guard⟩],some (13,true)⟩ HS0.out ?_;simp only [Act.put,sA,s0,sS]
    refine lk ⟨some 33,.pick (.tmp 29) (.tmp 32) (.const (.bool false)),4, "item.go:52",#[⟨13,.data⟩,⟨16,.data⟩],none⟩ HS0.out ?_;simp only [Act.put,sA,s0,sS]
    refine lk ⟨some 34,.move (.tmp 33),4, "item.go:52",#[⟨17,.data⟩,⟨13,.chain⟩],none⟩ HS0.out ?_;simp only [Act.put,sA,s0,sS]
    refine lu ⟨some 35,.fieldAddr 77 (.tmp 3) 2,0, "item.go:52",#[⟨18,.guard⟩],some (18,true)⟩ HS0.out ?_;simp only [Act.put,sA,s0,sS]
    refine lu ⟨some 36,.load 3 (.tmp 35),3, "item.go:52",#[⟨19,.data⟩,⟨18,.guard⟩],some (18,true)⟩ HS0.out ?_;simp only [Act.put,sA,s0,sS]
    refine lu ⟨some 37,.load 25 (.tmp 2),25, "item.go:52",#[⟨18,.guard⟩],some (18,true)⟩ HS0.out ?_;simp only [Act.put,sA,s0,sS]
    refine lu ⟨some 38,.call ⟨.value (.func 127),#[.tmp 37],#[25]⟩,3, "item.go:52",#[⟨21,.data⟩,⟨18,.chain⟩,⟨18,.guard⟩],some (18,true)⟩ HS0.out ?_;simp only [Act.put,sA,s0,sS]
    refine lu ⟨some 39,.binOp .leq 3 (.tmp 36) (.tmp 38) 3,4, "item.go:52",#[⟨20,.data⟩,⟨22,.data⟩,⟨18,.guard⟩],some (18,true)⟩ HS0.out ?_;simp only [Act.put,sA,s0,sS]
    refine lk ⟨some 40,.pick (.tmp 34) (.tmp 39) (.const (.bool false)),4, "item.go:52",#[⟨18,.data⟩,⟨23,.data⟩],none⟩ HS0.out ?_;simp only [Act.put,sA,s0,sS]
    refine lk ⟨some 4,.assign (.tmp 40),4, "item.go:52",#[⟨24,.data⟩,⟨22,.chain⟩,⟨0,.phase⟩,⟨1,.phase⟩,⟨2,.phase⟩,⟨3,.phase⟩,⟨4,.phase⟩,⟨5,.phase⟩,⟨6,.phase⟩,⟨7,.phase⟩,⟨8,.phase⟩,⟨9,.phase⟩,⟨10,.phase⟩,⟨11,.phase⟩,⟨12,.phase⟩,⟨13,.phase⟩,⟨14,.phase⟩,⟨15,.phase⟩,⟨16,.phase⟩,⟨17,.phase⟩,⟨18,.phase⟩,⟨19,.phase⟩,⟨20,.phase⟩,⟨21,.phase⟩,⟨22,.phase⟩,⟨23,.phase⟩,⟨24,.phase⟩],none⟩ HS0.out ?_;simp only [Act.put,sA,s0,sS]
    refine wpAnyL_done (by kernel_rfl) ?_ _
    go_wp2_with fail
    go_ret
    exact ⟨ret_bool HZ.out.symm,HBx.out⟩
end Go.Proofs.YtbilbgjojdlobaaGreatDoor
