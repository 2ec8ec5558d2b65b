import Derived.Test.YtiamjafecbpfpaaGreatDoorJ01
import Derived.Test.YtiamjafecbpfpaaGreatDoorJ02
import Derived.Test.YtiamjafecbpfpaaGreatDoorJ03
import Derived.Test.YtiamjafecbpfpaaGreatDoorJ05
import Derived.Shelf.SlicesQ.IndexFunc
import Derived.Shelf.Lay
import Derived.Ground.SlgfProg
import Derived.Lib.TrailingZeros
import Derived.Laws.BitsAllLaws
import Derived.Shelf.Spec.TrailingZeros
import Derived.Ground.Names7Prog

namespace Go.Proofs.YtiamjafecbpfpaaGreatDoor
open Go.RowKit Go.Shelf
structure FeedsW {α:Type} (n:Nat) (P:Program) (l:Nat) (encs:α→Array Value) (Ok:(Nat→Prop)→List α→α→World→Prop) (Fx:World→Prop) (J:(Nat→Prop)→List α→World→Prop) (St:World→Prop):Prop extends Leaving J where
  fx:∀ A pre W,J A pre W→Fx W
  yield:∀ A pre x W1,J A pre W1→Ok A pre x W1→YieldAt Fence.wide n P l (encs x) W1 fun e W'=>(e=.returned (.bool true)∧J A (pre++[x]) W'∧But (fun k=>¬ A k) W1 W')∨(e=.returned (.bool false)∧St W')
def GivesW {α:Type} (n:Nat) (P:Program) (g:Nat) (lb:Array Value) (encs:α→Array Value) (Pre:World→World→Prop) (S:List α→Prop) (Ok:(Nat→Prop)→List α→α→World→Prop) (A0:Nat→Prop) (Fx:World→Prop) (W:World):Prop :=
  ∀ (l:Nat) (J:(Nat→Prop)→List α→World→Prop) (St:World→Prop),FeedsW (n - 1) P l encs Ok Fx J St→(∀ W',Pre W W'→J A0 [] W') →
    CallsIn Fence.wide n P g (#[.func (.yield l) #[] #[]]++lb) W fun e W'=>(∃ v,e=.returned v)∧((∃ xs,S xs∧J A0 xs W')∨St W')
theorem wpIn_range_W {n:Nat} {P:Program} {α:Type} {g:Operand} {ps:Array Tmp} {assign body:Code} {Q:Exit→Act→World→Prop} {a:Act} {w:World} (h1:1≤n)
    {gf:Nat} {lb:Array Value} (hg:a.eval g=.func (.func gf) #[] lb) (eg:∀ args w,(callFunc gf args).run P w=.ok (.enter gf args) w)
    {encs:α→Array Value} {Pre:World→World→Prop} {S:List α→Prop} {Ok:(Nat→Prop)→List α→α→World→Prop} {A0:Nat→Prop} {Fx:World→Prop} (hps:∀ x,(encs x).size=ps.size)
    (hseq:∀ W,Below w.heap.size w W→GivesW (n - 1) P gf lb encs Pre S Ok A0 Fx W)
    (I:(Nat→Prop)→List α→World→Prop) (hI:Leaving I) (hfx:∀ A pre W,I A pre W→Fx W)
    (hturn:∀ A pre W W',I A pre W→But (fun k=>k=w.heap.size+1) W W'→A (w.heap.size+1)→(∃ r,W.heap[w.heap.size+1]?=some (.loop r))→I A pre W')
    (hok:∀ A pre x W W',Ok A pre x W→But (fun k=>k=w.heap.size+1) W W'→(∃ r,W.heap[w.heap.size+1]?=some (.loop r))→Ok A pre x W')
    (h0:∀ W W',Below w.heap.size w W→W.heap.size=w.heap.size+2→Pre W W'→I (fun k=>A0 k∨k=w.heap.size∨k=w.heap.size+1) [] W'∧W'.heap[w.heap.size]?=W.heap[w.heap.size]?∧W'.heap[w.heap.size+1]?=W.heap[w.heap.size+1]?)
    (Ax:α→Act→Prop) (Ix:World→Prop)
    (hassign:∀ (l:Nat) (x:α) (W:World) (K:Act→World→Prop),(∀ a',Ax x a'→K a' W) →
      assign.wpIn (Fence.wide.inRound l) (n - 1 - 1) P (Exit.then K (fun _ _ _=>False)) { tmps:=(ps.zip (encs x)).foldl (fun t (p,v)=>t.setIfInBounds p v) a.tmps,defers:=[] } W)
    (hbody:∀ (l:Nat) (A:Nat→Prop) (pre:List α) (x:α) (a':Act) (W:World),I (fun k=>A k∨k=w.heap.size∨k=w.heap.size+1) pre W→Ax x a'→Ok A pre x W →
      body.wpIn (Fence.wide.inRound l) (n - 1 - 1) P (fun e _ W'=>(e=.normal∧I (fun k=>A k∨k=w.heap.size∨k=w.heap.size+1) (pre++[x]) W'∧But (fun k=>¬ (A k∨k=w.heap.size∨k=w.heap.size+1)) W W')∨(e=.ret∧Ix W'∧But (fun k=>¬ (A k∨k=w.heap.size∨k=w.heap.size+1)) W W')) a' W)
    (hdone:∀ (xs:List α) (W:World),S xs→I (fun k=>A0 k∨k=w.heap.size∨k=w.heap.size+1) xs W→W.heap[w.heap.size]?=some (.deferred (some []))→Q .normal { a with defers:={ target:=.collected w.heap.size,args:=#[] } :: a.defers } W)
    (hleft:∀ (W W':World),Ix W→But (fun k=>k=w.heap.size+1) W W'→(∃ r,W.heap[w.heap.size+1]?=some (.loop r))→W'.heap[w.heap.size]?=some (.deferred (some []))→Q .ret { a with defers:={ target:=.collected w.heap.size,args:=#[] } :: a.defers } W') :
    (Code.rangeFunc g ps assign body).wpIn Fence.wide n P Q a w:=by
  refine wpIn_rangeFunc fun fn hfn=>?_
  let rd:Loop:={ state:=.ready,pending:=none,fn:=fn,tmps:=a.tmps,params:=ps,assign:=assign,body:=body,defers:=w.heap.size }
  let bs:Loop:={ rd with state:=.busy }
  let dn:Loop:={ rd with state:=.done,pending:=some .ret }
  have hen:(Instr.enterLoop fn a.tmps ps assign body Fence.wide.round).run P w=.ok (w.heap.size+1,[{ target:=.collected w.heap.size,args:=#[] }]) ((w.alloc (.deferred (some []))).alloc (.loop rd)):=run_enterLoop_outer fn a.tmps ps assign body
  have e1:((w.alloc (.deferred (some []))).alloc (.loop rd)).heap[w.heap.size+1]?=some (.loop rd):=by
    have:=World.alloc_heap_new (w.alloc (.deferred (some []))) (.loop rd)
    rwa [World.size_alloc] at this
  have e0:((w.alloc (.deferred (some []))).alloc (.loop rd)).heap[w.heap.size]?=some (.deferred (some [])) :=
    (Below.heap_alloc _ _ _ (by simp)).trans (World.alloc_heap_new w _)
  have eB:Below w.heap.size w ((w.alloc (.deferred (some []))).alloc (.loop rd)):=((Below.refl _ w).alloc (Nat.le_refl _) _).alloc (by simp) _
  have eS:((w.alloc (.deferred (some []))).alloc (.loop rd)).heap.size=w.heap.size+2:=by simp
  generalize (w.alloc (.deferred (some []))).alloc (.loop rd)=W1 at *
  refine ⟨w.heap.size+1,_,W1,{ target:=.fn (.func gf) lb,args:=#[.func (.yield (w.heap.size+1)) #[] #[]] },W1,gf,#[.func (.yield (w.heap.size+1)) #[] #[]]++lb,W1,hen,?_,fun _ _=>trivial,?_,fun _=>h1,?_⟩
  · simp only [resolve,hg]
    simp [go_sem]
  · simp [invoke,go_sem,eg]
  refine (hseq W1 eB (w.heap.size+1) (fun A pre W=>I (fun k=>A k∨k=w.heap.size∨k=w.heap.size+1) pre W∧W.heap[w.heap.size+1]?=some (.loop rd)∧W.heap[w.heap.size]?=some (.deferred (some []))) (fun W=>W.heap[w.heap.size+1]?=some (.loop dn)∧W.heap[w.heap.size]?=some (.deferred (some []))∧∃ W0,Ix W0∧But (fun k=>k=w.heap.size+1) W0 W∧∃ r,W0.heap[w.heap.size+1]?=some (.loop r)) ⟨⟨?_,?_,?_⟩,?_,?_⟩ ?_).mono ?_
  · rintro A pre W W' ⟨k0,k1,k2⟩ hb
    have h2:=hI.new _ _ _ _ k0 hb
    refine ⟨hI.less _ _ _ _ h2 (fun k hk=>?_),(hb.block _ (Array.getElem?_eq_some_iff.1 k1).1).trans k1,(hb.block _ (Array.getElem?_eq_some_iff.1 k2).1).trans k2⟩
    rcases hk with (hk | hk) | hk
    · exact .inl (.inl hk)
    · exact .inr hk
    · exact .inl (.inr hk)
  · rintro A pre W k ⟨k0,k1,k2⟩ hk
    exact hI.old _ _ _ k k0 (.inl hk)
  · rintro A B pre W ⟨k0,k1,k2⟩ hk
    exact ⟨hI.less _ _ _ _ k0 (fun k h=>h.imp (hk k) id),k1,k2⟩
  · rintro A pre W ⟨k0,_,_⟩
    exact hfx _ _ _ k0
  · -- a round
    rintro A pre x W ⟨k0,k1,k2⟩ hOk
    have hy:(Instr.yield (w.heap.size+1) (encs x)).run P W=_:=run_yield k1 (hps x)
    refine ⟨fn,_,assign,body,hy,roundIn_of_wpIn hfn (hassign _ x W _ ?_)⟩
    intro a' f4
    have mlt:=(Array.getElem?_eq_some_iff.1 k1).1
    have u1:(W.putObj (w.heap.size+1) (.loop bs)).heap[w.heap.size+1]?=some (.loop bs):=World.putObj_heap_same mlt
    have u2:(W.putObj (w.heap.size+1) (.loop bs)).heap[w.heap.size]?=some (.deferred (some [])):=(World.putObj_heap_other (by omega)).trans k2
    refine ⟨_,run_beginRound k1 rfl,?_⟩
    have q1:=But.putObj W (w.heap.size+1) (.loop bs)
    refine wpIn_mono (hbody _ A pre x a' _ (hturn _ _ _ _ k0 q1 (.inr (.inr rfl)) ⟨_,k1⟩) f4 (hok _ _ _ _ _ hOk q1 ⟨_,k1⟩)) ?_
    rintro e a3 W3 (⟨rfl,p3,p1⟩ | ⟨rfl,p3,p1⟩)
    · have v1:=p1.same u1 (fun h=>h (.inr (.inr rfl)))
      have v2:=p1.same u2 (fun h=>h (.inr (.inl rfl)))
      have q2:=But.putObj W3 (w.heap.size+1) (.loop rd)
      refine ⟨_,_,run_endRound none v1,.inl ⟨rfl,⟨hturn _ _ _ _ p3 q2 (.inr (.inr rfl)) ⟨_,v1⟩,?_,?_⟩,?_⟩⟩
      · exact World.putObj_heap_same (Array.getElem?_eq_some_iff.1 v1).1
      · exact (World.putObj_heap_other (by omega)).trans v2
      · refine ⟨q2.os.trans (p1.os.trans q1.os),q2.tape.trans (p1.tape.trans q1.tape),q2.output.trans (p1.output.trans q1.output),Nat.le_trans q1.size (Nat.le_trans p1.size q2.size),fun k hk hd=>?_⟩
        have hA:A k:=Classical.byContradiction hd
        by_cases hkD:k=w.heap.size+1
        · subst hkD
          rw [k1]
          exact World.putObj_heap_same (Array.getElem?_eq_some_iff.1 v1).1
        · have r1:=q1.block k hk hkD
          have r2:=p1.block k (Nat.lt_of_lt_of_le hk q1.size) (fun h=>h (.inl hA))
          have r3:=q2.block k (Nat.lt_of_lt_of_le hk (Nat.le_trans q1.size p1.size)) hkD
          exact r3.trans (r2.trans r1)
    · have v1:=p1.same u1 (fun h=>h (.inr (.inr rfl)))
      have v2:=p1.same u2 (fun h=>h (.inr (.inl rfl)))
      have q2:=But.putObj W3 (w.heap.size+1) (.loop dn)
      refine ⟨_,_,run_endRound (some .ret) v1,.inr ⟨rfl,?_,?_,W3,p3,q2,_,v1⟩⟩
      · exact World.putObj_heap_same (Array.getElem?_eq_some_iff.1 v1).1
      · exact (World.putObj_heap_other (by omega)).trans v2
  · intro W' hpre
    obtain ⟨j0,j1,j2⟩:=h0 W1 W' eB eS hpre
    exact ⟨j0,j2.trans e1,j1.trans e0⟩
  · -- behind it
    rintro e W2 ⟨⟨v,rfl⟩,⟨xs,hS,k0,k1,k2⟩ | ⟨k1,k2,W0,k3,k4,r,k5⟩⟩
    · refine ⟨none,_,run_endLoop k1 (by simp [rd]),?_⟩
      exact hdone xs _ hS (hturn _ _ _ _ k0 (But.putObj _ _ _) (.inr (.inr rfl)) ⟨_,k1⟩) ((World.putObj_heap_other (by omega)).trans k2)
    · refine ⟨some .ret,_,run_endLoop k1 (by simp [dn]),?_⟩
      have q3:=But.putObj W2 (w.heap.size+1) (.loop { dn with state:=.exhausted })
      exact wpIn_ret (hleft W0 _ k3 ⟨q3.os.trans k4.os,q3.tape.trans k4.tape,q3.output.trans k4.output,Nat.le_trans k4.size q3.size,fun k hk hd=>(q3.block k (Nat.lt_of_lt_of_le hk k4.size) hd).trans (k4.block k hk hd)⟩ ⟨r,k5⟩ ((World.putObj_heap_other (by omega)).trans k2))
end Go.Proofs.YtiamjafecbpfpaaGreatDoor
namespace Go.Proofs.YtiamjafecbpfpaaGreatDoor
open Go.RowKit Go.Shelf Go.Proofs
shelf_lay_g SlLaysH0.n8 Slgf 8 at Tryz 94 as Tryz.containsI
shelf_lay_g SlLaysH0.n8 Slgf 8 at Tryz 89 as Tryz.containsP
def encIt (x:It):List Value:=[.int .i64 x.sym,.string x.fld,.string x.als]
set_option maxHeartbeats 400000 in
theorem containsI_none (ao:Option Addr) (cap:Nat) (fv:Value) (w:World) :
    Calls Tryz.prog 94 #[.slice ao 0 cap,fv] w fun e w'=>e=.returned (.bool false)∧Below w.heap.size w w':=by
  go_enter Tryz.func94,Tryz.ntmps94
  go_wp2
  refine wp_loop_once ?_
  go_wp2
  go_ret
  exact ⟨rfl,Below.refl _ _⟩
set_option maxHeartbeats 400000 in
theorem containsP_none (ao:Option Addr) (cap:Nat) (fv:Value) (w:World) :
    Calls Tryz.prog 89 #[.slice ao 0 cap,fv] w fun e w'=>e=.returned (.bool false)∧Below w.heap.size w w':=by
  go_enter Tryz.func89,Tryz.ntmps89
  go_wp2
  refine wp_loop_once ?_
  go_wp2
  go_ret
  exact ⟨rfl,Below.refl _ _⟩
theorem range_any {α:Type} (l:List α) (l0:α) (p:α→Bool):((List.range l.length).take l.length).any (fun i=>p (l.getD i l0))=l.any p:=by
  rw [List.take_of_length_le (by simp)]
  rw [Bool.eq_iff_iff,List.any_eq_true,List.any_eq_true]
  constructor
  · rintro ⟨i,hi,h⟩
    have hi':i<l.length:=by simpa using hi
    refine ⟨l[i],List.getElem_mem hi',?_⟩
    rwa [List.getD_eq_getElem?_getD,List.getElem?_eq_getElem hi'] at h
  · rintro ⟨x,hx,h⟩
    obtain ⟨i,hi,rfl⟩:=List.getElem_of_mem hx
    refine ⟨i,by simpa using hi,?_⟩
    rw [List.getD_eq_getElem?_getD,List.getElem?_eq_getElem hi]
    exact h
theorem getD_mem {α:Type} {l:List α} {l0:α} (h0:l0∈l) (i:Nat):l.getD i l0∈l:=by
  rw [List.getD_eq_getElem?_getD]
  cases h:l[i]? with
  | none=>exact h0
  | some x=>exact List.mem_of_getElem? h
theorem anyItems (g:Nat) (lb:Array Value) (eg:∀ args w,(callFunc g args).run Tryz.prog w=.ok (.enter g args) w) (p:It→Bool) (l:List It) (v:Value) (w:World) (hl:SlT l v w) (hlen:l.length≤1000)
    (hp:∀ (W:World) (x:It),x∈l→Below w.heap.size w W→Calls Tryz.prog g (#[.agg #[.int .i64 x.sym,.string x.fld,.string x.als]]++lb) W fun e w'=>e=.returned (.bool (p x))∧Below w.heap.size w w') :
    Calls Tryz.prog 94 #[v,.func (.func g) #[] lb] w fun e w'=>e=.returned (.bool (l.any p))∧Below w.heap.size w w':=by
  obtain ⟨ao,cap,rfl,hI,_⟩:=hl
  by_cases h0:l=[]
  · subst h0
    exact containsI_none ao cap _ w
  · obtain ⟨l0,hl0⟩:∃ l0,l0∈l:=List.exists_mem_of_ne_nil l h0
    have hpos:0<l.length:=List.length_pos_of_mem hl0
    obtain ⟨b,off,rfl,hb,_⟩:=hI.at (Below.refl _ _) hpos
    have h:=AnyQ.slices_ContainsFunc Tryz.containsI 3 Tryz.isAgg44 Tryz.sizeOf44 (fun i:Nat=>encIt (l.getD i l0)) (fun _=>rfl) (fun i=>p (l.getD i l0)) g lb eg b off l.length cap (List.range l.length) w
      (fun W x hW=>hp W _ (getD_mem hl0 x) hW) (by simp) (by omega) hb (fun j hj i v hi=>by
        have hj':j<l.length:=by simpa using hj
        rw [getElem!_pos (List.range l.length) j hj,List.getElem_range] at hi
        rw [List.getD_eq_getElem?_getD,List.getElem?_eq_getElem hj'] at hi
        obtain ⟨b',off',e1,_,k0,k1,k2,_⟩:=hI.at (Below.refl _ _) hj'
        cases e1
        match i,hi with
        | 0,hi=>simp [encIt] at hi; rw [← hi]; exact k0
        | 1,hi=>simp [encIt] at hi; rw [← hi]; exact k1
        | 2,hi=>simp [encIt] at hi; rw [← hi]; exact k2
        | i+3,hi=>simp [encIt] at hi)
    rw [range_any] at h
    exact h
theorem noProds (g:Nat) (lb:Array Value) (eg:∀ args w,(callFunc g args).run Tryz.prog w=.ok (.enter g args) w) (l:List Pr) (ao:Option Addr) (cap:Nat) (w:World) (hl:PrsAt l ao w) (hlen:l.length≤1000)
    (hp:∀ (W:World) (x:Pr) (v:Value),x∈l→SlT x.right v W→Below w.heap.size w W→Calls Tryz.prog g (#[.agg #[.int .i64 x.left,v,.int .i64 x.prec]]++lb) W fun e w'=>e=.returned (.bool false)∧Below w.heap.size w w') :
    Calls Tryz.prog 89 #[.slice ao l.length cap,.func (.func g) #[] lb] w fun e w'=>e=.returned (.bool false)∧Below w.heap.size w w':=by
  by_cases h0:l=[]
  · subst h0
    exact containsP_none ao cap _ w
  · obtain ⟨l0,hl0⟩:∃ l0,l0∈l:=List.exists_mem_of_ne_nil l h0
    have hpos:0<l.length:=List.length_pos_of_mem hl0
    obtain ⟨b,off,_,hao,hb,_⟩:=hl.at (Below.refl _ _) hpos
    subst hao
    have hall:∀ i:Nat,∃ q:Pr × Value,q.1∈l∧SlT q.1.right q.2 w∧(i<l.length→w.cell? ⟨b,off+i * 3,none⟩=some (.int .i64 q.1.left)∧w.cell? ⟨b,off+i * 3+1,none⟩=some q.2∧w.cell? ⟨b,off+i * 3+2,none⟩=some (.int .i64 q.1.prec)):=fun i=>by
      by_cases hi:i<l.length
      · obtain ⟨b',off',v,e,_,k0,k1,k2,hv,_⟩:=hl.at (Below.refl _ _) hi
        cases e
        exact ⟨(l[i],v),List.getElem_mem hi,hv,fun _=>⟨k0,k1,k2⟩⟩
      · obtain ⟨b',off',v,e,_,k0,k1,k2,hv,_⟩:=hl.at (Below.refl _ _) hpos
        exact ⟨(l[0],v),List.getElem_mem hpos,hv,fun h=>absurd h hi⟩
    obtain ⟨q,hq⟩:=Classical.axiomOfChoice hall
    have h:=AnyQ.slices_ContainsFunc Tryz.containsP 3 Tryz.isAgg47 Tryz.sizeOf47 (fun i:Nat=>[.int .i64 (q i).1.left,(q i).2,.int .i64 (q i).1.prec]) (fun _=>rfl) (fun _=>false) g lb eg b off l.length cap (List.range l.length) w
      (fun W x hW=>hp W (q x).1 (q x).2 (hq x).1 ((hq x).2.1.next hW) hW) (by simp) (by omega) hb (fun j hj i v hi=>by
        have hj':j<l.length:=by simpa using hj
        rw [getElem!_pos (List.range l.length) j hj,List.getElem_range] at hi
        obtain ⟨k0,k1,k2⟩:=(hq j).2.2 hj'
        match i,hi with
        | 0,hi=>simp at hi; rw [← hi]; exact k0
        | 1,hi=>simp at hi; rw [← hi]; exact k1
        | 2,hi=>simp at hi; rw [← hi]; exact k2
        | i+3,hi=>simp at hi)
    rw [show ((List.range l.length).take l.length).any (fun _=>false)=false by simp] at h
    exact h
end Go.Proofs.YtiamjafecbpfpaaGreatDoor
namespace Go.Proofs.YtiamjafecbpfpaaGreatDoor
open Go.RowKit
set_option maxRecDepth 100000 in
set_option maxHeartbeats 800000 in
theorem symbols_any (f:Fl) (a:FlA) (w:World) (hp:f.n≤600) :
    Calls Tryz.prog 88 #[a.val f] w fun e w'=>e=.returned (.int .i64 f.n)∧Below w.heap.size w w':=by
  obtain ⟨ta,tc,na,nc,pa,pc⟩:=a
  unfold FlA.val
  simp only
  unfold Fl.n at *
  go_enter Tryz.func88,Tryz.ntmps88
  go_wp2_with fail
  go_ret
  exact ⟨ret_int (by omega),(Below.refl _ _).alloc (Nat.le_refl _) _⟩
set_option maxRecDepth 100000 in
set_option maxHeartbeats 800000 in
theorem isSymbol_any (f:Fl) (a:FlA) (x:Int) (w:World) (hp:f.n≤600) :
    Calls Tryz.prog 112 #[a.val f,.int .i64 x] w fun e w'=>e=.returned (.bool (decide (0≤x∧x<(f.n:Int))))∧Below w.heap.size w w':=by
  have hS:=fun W=>symbols_any f a W hp
  obtain ⟨ta,tc,na,nc,pa,pc⟩:=a
  unfold FlA.val at hS ⊢
  simp only at *
  have HS:Hid (∀ W,Calls Tryz.prog 88 #[.agg #[.slice ta f.terms.length tc,.slice na f.nons.length nc,.slice pa f.prods.length pc]] W fun e w'=>e=.returned (.int .i64 f.n)∧Below W.heap.size W w'):=hS
  clear hS
  have B0:Below w.heap.size w (w.alloc (Obj.cells #[Value.slice ta f.terms.length tc,Value.slice na f.nons.length nc,Value.slice pa f.prods.length pc] 50)):=(Below.refl _ _).alloc (Nat.le_refl _) _
  by_cases hx:0≤x
  · have hd:decide (0≤x)=true:=by simpa using hx
    go_enter Tryz.func112,Tryz.ntmps112
    go_wp2_with fail
    refine (HS.out _).mono ?_
    rintro e w1 ⟨rfl,hb1⟩
    have HB:Hid (Below w.heap.size w w1):=below_then B0 hb1 B0.size
    clear B0 hb1
    go_wp2_with fail
    go_ret
    exact ⟨ret_bool (by simp [hx]),HB.out⟩
  · have hd:decide (0≤x)=false:=by simpa using hx
    go_enter Tryz.func112,Tryz.ntmps112
    go_wp2_with fail
    go_ret
    exact ⟨rfl,B0⟩
set_option maxRecDepth 100000 in
set_option maxHeartbeats 800000 in
theorem soundProd1_any (f:Fl) (a:FlA) (x:It) (B:Nat) (w:World) (hp:f.n≤600) (hB:FBox f a B w) (hx:0≤x.sym∧x.sym<(f.n:Int)) :
    Calls Tryz.prog 113 #[.agg #[.int .i64 x.sym,.string x.fld,.string x.als],.pointer (some ⟨B,0,none⟩)] w fun e w'=>e=.returned (.bool false)∧Below w.heap.size w w':=by
  have hS:=fun W=>isSymbol_any f a x.sym W hp
  rw [show decide (0≤x.sym∧x.sym<(f.n:Int))=true from decide_eq_true hx] at hS
  obtain ⟨xs,xf,xa⟩:=x
  obtain ⟨ta,tc,na,nc,pa,pc⟩:=a
  obtain ⟨b0,b1,b2,b3⟩:=hB
  unfold FlA.val at hS
  simp only at *
  have HS:Hid (∀ W,Calls Tryz.prog 112 #[.agg #[Value.slice ta f.terms.length tc,Value.slice na f.nons.length nc,Value.slice pa f.prods.length pc],.int .i64 xs] W fun e w'=>e=.returned (.bool true)∧Below W.heap.size W w'):=hS
  clear hS
  have B0:Below w.heap.size w (w.alloc (Obj.cells #[Value.int .i64 xs,.string xf,.string xa] 44)):=(Below.refl _ _).alloc (Nat.le_refl _) _
  have hne:B≠w.heap.size:=by omega
  go_enter Tryz.func113,Tryz.ntmps113
  go_wp2_with fail
  refine (HS.out _).mono ?_
  rintro e w1 ⟨rfl,hb1⟩
  have HB:Hid (Below w.heap.size w w1):=below_then B0 hb1 B0.size
  clear B0 hb1
  go_wp2_with fail
  go_ret
  exact ⟨rfl,HB.out⟩
set_option maxRecDepth 100000 in
set_option maxHeartbeats 800000 in
theorem soundProd_any (f:Fl) (a:FlA) (p:Pr) (v:Value) (w:World) (hp:f.n≤600) (hv:SlT p.right v w) (hl:0≤p.left∧p.left<(f.n:Int)) (hr:p.right.length≤64) (hs:∀ x∈p.right,0≤x.sym∧x.sym<(f.n:Int)) :
    Calls Tryz.prog 91 #[a.val f,.agg #[.int .i64 p.left,v,.int .i64 p.prec]] w fun e w'=>e=.returned (.bool true)∧Below w.heap.size w w':=by
  have hS:=fun W=>isSymbol_any f a p.left W hp
  rw [show decide (0≤p.left∧p.left<(f.n:Int))=true from decide_eq_true hl] at hS
  have hC:=fun W (hb:Below w.heap.size w W) B (hB:FBox f a B W)=>anyItems 113 #[.pointer (some ⟨B,0,none⟩)] (enters_of Tryz.func113 (by kernel_rfl) rfl) (fun _=>false) p.right v W (hv.next hb) (by omega)
    (fun W' x hx hb'=>(soundProd1_any f a x B W' hp (hB.next hb') (hs x hx)).mono fun e w' ⟨h1,h2⟩=>⟨h1,below_then hb' h2 hb'.size⟩)
  have hany:p.right.any (fun _=>false)=false:=by simp
  rw [hany] at hC
  have X0:=FBox.new f a 50 w
  have B0:Below w.heap.size w (w.alloc (fobj f a 50)):=(Below.refl _ _).alloc (Nat.le_refl _) _
  obtain ⟨ta,tc,na,nc,pa,pc⟩:=a
  obtain ⟨va,vc,rfl,_⟩:=hv
  obtain ⟨pl,pr,pp⟩:=p
  unfold fobj at X0 B0
  unfold FlA.val at hS ⊢
  simp only at *
  have HS:Hid (∀ W,Calls Tryz.prog 112 #[.agg #[Value.slice ta f.terms.length tc,Value.slice na f.nons.length nc,Value.slice pa f.prods.length pc],.int .i64 pl] W fun e w'=>e=.returned (.bool true)∧Below W.heap.size W w'):=hS
  have HC:Hid (∀ W,Below w.heap.size w W→∀ B,FBox f ⟨ta,tc,na,nc,pa,pc⟩ B W→Calls Tryz.prog 94 #[.slice va pr.length vc,.func (.func 113) #[] #[.pointer (some ⟨B,0,none⟩)]] W fun e w'=>e=.returned (.bool false)∧Below W.heap.size W w'):=hC
  clear hS hC hany hs
  have hr':decide ((64:Int)<pr.length)=false:=by simp; omega
  have hr2:¬ (64:Int)<pr.length:=by omega
  have B1:Below w.heap.size w ((w.alloc (Obj.cells #[Value.slice ta f.terms.length tc,Value.slice na f.nons.length nc,Value.slice pa f.prods.length pc] 50)).alloc (Obj.cells #[Value.int IntKind.i64 pl,Value.slice va pr.length vc,Value.int IntKind.i64 pp] 47)):=B0.alloc B0.size _
  have X1:FBox f ⟨ta,tc,na,nc,pa,pc⟩ w.heap.size ((w.alloc (Obj.cells #[Value.slice ta f.terms.length tc,Value.slice na f.nons.length nc,Value.slice pa f.prods.length pc] 50)).alloc (Obj.cells #[Value.int IntKind.i64 pl,Value.slice va pr.length vc,Value.int IntKind.i64 pp] 47)):=X0.next ((Below.refl _ _).alloc (Nat.le_refl _) _)
  have P1:((w.alloc (Obj.cells #[Value.slice ta f.terms.length tc,Value.slice na f.nons.length nc,Value.slice pa f.prods.length pc] 50)).alloc (Obj.cells #[Value.int IntKind.i64 pl,Value.slice va pr.length vc,Value.int IntKind.i64 pp] 47)).cell? ⟨w.heap.size+1,1,none⟩=some (.slice va pr.length vc):=by go_simp
  have Z1:((w.alloc (Obj.cells #[Value.slice ta f.terms.length tc,Value.slice na f.nons.length nc,Value.slice pa f.prods.length pc] 50)).alloc (Obj.cells #[Value.int IntKind.i64 pl,Value.slice va pr.length vc,Value.int IntKind.i64 pp] 47)).heap.size=w.heap.size+2:=by simp
  clear X0 B0
  go_enter Tryz.func91,Tryz.ntmps91
  go_wp2_with fail
  generalize ((w.alloc (Obj.cells #[Value.slice ta f.terms.length tc,Value.slice na f.nons.length nc,Value.slice pa f.prods.length pc] 50)).alloc (Obj.cells #[Value.int IntKind.i64 pl,Value.slice va pr.length vc,Value.int IntKind.i64 pp] 47))=W1 at *
  refine (HS.out _).mono ?_
  rintro e w1 ⟨rfl,hb1⟩
  have B2:=below_then B1 hb1 B1.size
  have X2:=X1.next hb1
  have P2:=(hb1.cell (p:=⟨w.heap.size+1,1,none⟩) (by show w.heap.size+1<_; omega)).trans P1
  have HC2:=HC.out w1 B2 w.heap.size X2
  clear HC HS X1 P1 B1 X2 hb1
  go_wp2_with fail
  refine HC2.mono ?_
  rintro e w2 ⟨rfl,hb2⟩
  have HB:Hid (Below w.heap.size w w2):=below_then B2 hb2 B2.size
  clear B2 hb2 HC2
  go_wp2_with fail
  go_ret
  exact ⟨rfl,HB.out⟩
set_option maxRecDepth 100000 in
set_option maxHeartbeats 800000 in
theorem sound1_any (f:Fl) (a:FlA) (p:Pr) (v:Value) (B:Nat) (w:World) (hn:f.n≤600) (hB:FBox f a B w) (hv:SlT p.right v w) (hl:0≤p.left∧p.left<(f.n:Int)) (hr:p.right.length≤64) (hs:∀ x∈p.right,0≤x.sym∧x.sym<(f.n:Int)) :
    Calls Tryz.prog 90 #[.agg #[.int .i64 p.left,v,.int .i64 p.prec],.pointer (some ⟨B,0,none⟩)] w fun e w'=>e=.returned (.bool false)∧Below w.heap.size w w':=by
  have hS:=fun W (hb:Below w.heap.size w W)=>soundProd_any f a p v W hn (hv.next hb) hl hr hs
  obtain ⟨ta,tc,na,nc,pa,pc⟩:=a
  obtain ⟨va,vc,rfl,_⟩:=hv
  obtain ⟨pl,pr,pp⟩:=p
  obtain ⟨b0,b1,b2,b3⟩:=hB
  unfold FlA.val at hS
  simp only at *
  have HS:Hid (∀ W,Below w.heap.size w W→Calls Tryz.prog 91 #[.agg #[Value.slice ta f.terms.length tc,Value.slice na f.nons.length nc,Value.slice pa f.prods.length pc],.agg #[.int .i64 pl,.slice va pr.length vc,.int .i64 pp]] W fun e w'=>e=.returned (.bool true)∧Below W.heap.size W w'):=hS
  clear hS hs
  have B0:Below w.heap.size w (w.alloc (Obj.cells #[Value.int .i64 pl,.slice va pr.length vc,.int .i64 pp] 47)):=(Below.refl _ _).alloc (Nat.le_refl _) _
  have hne:B≠w.heap.size:=by omega
  go_enter Tryz.func90,Tryz.ntmps90
  go_wp2_with fail
  refine (HS.out _ B0).mono ?_
  rintro e w1 ⟨rfl,hb1⟩
  have HB:Hid (Below w.heap.size w w1):=below_then B0 hb1 B0.size
  clear B0 hb1
  go_wp2_with fail
  go_ret
  exact ⟨rfl,HB.out⟩
set_option maxRecDepth 100000 in
set_option maxHeartbeats 800000 in
theorem sound_any (f:Fl) (a:FlA) (w:World) (hf:FlAt f a w) (hp:FitP f) :
    Calls Tryz.prog 73 #[a.val f] w fun e w'=>e=.returned (.bool true)∧Below w.heap.size w w':=by
  have hn:f.n≤600:=hp.size
  have hS:=fun W=>symbols_any f a W hn
  have hC:=fun W (hb:Below w.heap.size w W) B (hB:FBox f a B W)=>noProds 90 #[.pointer (some ⟨B,0,none⟩)] (enters_of Tryz.func90 (by kernel_rfl) rfl) f.prods a.pa a.pc W (hf.2.2.1.next hb) (by have:=hp.prods; omega)
    (fun W' x v hx hv hb'=>(sound1_any f a x v B W' hn (hB.next hb') hv (by have:=hp.left x hx; unfold Fl.n; omega) (hp.right x hx) (fun y hy=>by have:=hp.sym x hx y hy; unfold Fl.n; omega)).mono fun e w' ⟨h1,h2⟩=>⟨h1,below_then hb' h2 hb'.size⟩)
  have X0:=FBox.new f a 50 w
  have B0:Below w.heap.size w (w.alloc (fobj f a 50)):=(Below.refl _ _).alloc (Nat.le_refl _) _
  have k1:=hp.nons
  have k2:=hp.prods
  clear hf hp
  obtain ⟨ta,tc,na,nc,pa,pc⟩:=a
  unfold fobj at X0 B0
  unfold FlA.val at hS ⊢
  simp only at *
  have HS:Hid (∀ W,Calls Tryz.prog 88 #[.agg #[Value.slice ta f.terms.length tc,Value.slice na f.nons.length nc,Value.slice pa f.prods.length pc]] W fun e w'=>e=.returned (.int .i64 f.n)∧Below W.heap.size W w'):=hS
  have HC:Hid (∀ W,Below w.heap.size w W→∀ B,FBox f ⟨ta,tc,na,nc,pa,pc⟩ B W→Calls Tryz.prog 89 #[.slice pa f.prods.length pc,.func (.func 90) #[] #[.pointer (some ⟨B,0,none⟩)]] W fun e w'=>e=.returned (.bool false)∧Below W.heap.size W w'):=hC
  clear hS hC
  have e1:((f.nons.length:Int) == 0)=false:=beq_eq_false_iff_ne.2 (by omega)
  have e2:decide ((600:Int)<(f.n:Int))=false:=by simp; omega
  have e3:decide ((400:Int)<(f.prods.length:Int))=false:=by simp; omega
  go_enter Tryz.func73,Tryz.ntmps73
  go_wp2_with fail
  generalize (w.alloc (Obj.cells #[Value.slice ta f.terms.length tc,Value.slice na f.nons.length nc,Value.slice pa f.prods.length pc] 50))=W1 at *
  refine (HS.out _).mono ?_
  rintro e w1 ⟨rfl,hb1⟩
  have B2:=below_then B0 hb1 B0.size
  have X2:=X0.next hb1
  have HC2:=HC.out w1 B2 w.heap.size X2
  obtain ⟨x0,x1,x2,x3⟩:=X2
  simp only at x1 x2 x3
  clear HC HS X0 B0 hb1
  go_wp2_with fail
  refine HC2.mono ?_
  rintro e w2 ⟨rfl,hb2⟩
  have HB:Hid (Below w.heap.size w w2):=below_then B2 hb2 B2.size
  clear B2 hb2 HC2 x0 x1 x2 x3
  go_wp2_with fail
  go_ret
  exact ⟨rfl,HB.out⟩
end Go.Proofs.YtiamjafecbpfpaaGreatDoor
namespace Go.Proofs.YtiamjafecbpfpaaGreatDoor
open Go.RowKit
end Go.Proofs.YtiamjafecbpfpaaGreatDoor
namespace Go.Proofs.YtiamjafecbpfpaaGreatDoor
def W64 (x:Nat):Prop:=x<18446744073709551616
def wOf (ws:List Nat) (i:Nat):Nat:=ws.getD i 0
def bin (ws:List Nat) (t:Nat):Bool:=(wOf ws (t / 64)).testBit (t % 64)
theorem wOf_get {ws:List Nat} {i:Nat} (h:i<ws.length):wOf ws i=ws[i]:=by
  unfold wOf; rw [List.getD_eq_getElem?_getD,List.getElem?_eq_getElem h]; rfl
theorem wOf_out {ws:List Nat} {i:Nat} (h:ws.length≤i):wOf ws i=0:=by
  unfold wOf; rw [List.getD_eq_getElem?_getD,List.getElem?_eq_none h]; rfl
theorem bin_lt {ws:List Nat} {t:Nat} (h:bin ws t=true):t<64 * ws.length:=by
  rcases Nat.lt_or_ge (t / 64) ws.length with h1 | h1
  · omega
  · unfold bin at h; rw [wOf_out h1] at h; simp at h
theorem andNot_zero {s o:Nat} (hs:W64 s) (ho:W64 o):o &&& (18446744073709551615 - s)=0↔s ||| o=s:=by
  unfold W64 at *
  have e:18446744073709551615 - s=2 ^ 64 - (s+1):=by omega
  rw [e]
  constructor
  · intro h
    apply Nat.eq_of_testBit_eq
    intro i
    have h1:=congrArg (fun x=>x.testBit i) h
    simp only [Nat.testBit_and,Nat.zero_testBit,Nat.testBit_two_pow_sub_succ (show s<2 ^ 64 by omega)] at h1
    rw [Nat.testBit_or]
    by_cases hi:i<64
    · simp [hi] at h1
      cases hb:o.testBit i with
      | false=>simp
      | true=>simp [h1 hb]
    · have:o.testBit i=false:=Nat.testBit_lt_two_pow (Nat.lt_of_lt_of_le (show o<2 ^ 64 by omega) (Nat.pow_le_pow_right (by omega) (by omega)))
      simp [this]
  · intro h
    apply Nat.eq_of_testBit_eq
    intro i
    simp only [Nat.testBit_and,Nat.zero_testBit,Nat.testBit_two_pow_sub_succ (show s<2 ^ 64 by omega)]
    have h1:=congrArg (fun x=>x.testBit i) h
    simp only [Nat.testBit_or] at h1
    cases hb:o.testBit i <;> cases hc:s.testBit i <;> simp_all
theorem or_lt {s o:Nat} (hs:W64 s) (ho:W64 o):W64 (s ||| o):=by
  unfold W64 at *
  have:s ||| o<2 ^ 64:=Nat.or_lt_two_pow (by omega) (by omega)
  omega
def joinTo (j:Nat) (s o:List Nat):List Nat:=(List.range s.length).map fun i=>if i<j then wOf s i ||| wOf o i else wOf s i
theorem joinTo_len (j:Nat) (s o:List Nat):(joinTo j s o).length=s.length:=by simp [joinTo]
theorem joinTo_get {j:Nat} {s o:List Nat} {i:Nat} (h:i<s.length):wOf (joinTo j s o) i=if i<j then wOf s i ||| wOf o i else wOf s i:=by
  rw [wOf_get (by rw [joinTo_len]; exact h)]
  simp [joinTo]
theorem wOf_ext {a b:List Nat} (hl:a.length=b.length) (h:∀ i,i<a.length→wOf a i=wOf b i):a=b:=by
  apply List.ext_getElem hl
  intro i h1 h2
  rw [← wOf_get h1,← wOf_get h2]
  exact h i h1
theorem joinTo_zero (s o:List Nat):joinTo 0 s o=s:=wOf_ext (joinTo_len _ _ _) fun i hi=>by rw [joinTo_len] at hi; rw [joinTo_get hi]; simp
theorem joinTo_succ {j:Nat} {s o:List Nat}:joinTo (j+1) s o=(joinTo j s o).set j (wOf s j ||| wOf o j):=by
  apply wOf_ext (by simp [joinTo_len])
  intro i hi
  rw [joinTo_len] at hi
  rw [joinTo_get hi,wOf_get (ws:=(joinTo j s o).set j (wOf s j ||| wOf o j)) (by simpa [joinTo_len] using hi),List.getElem_set]
  split <;> split
  · rename_i h1 h2; subst h2; rfl
  · rename_i h1 h2; rw [← wOf_get (by rw [joinTo_len]; exact hi),joinTo_get hi,if_pos (by omega)]
  · rename_i h1 h2; omega
  · rename_i h1 h2; rw [← wOf_get (by rw [joinTo_len]; exact hi),joinTo_get hi,if_neg (by omega)]
theorem joinTo_same {j:Nat} {s o:List Nat} (hj:j<s.length) (h:wOf s j ||| wOf o j=wOf s j):joinTo (j+1) s o=joinTo j s o:=by
  apply wOf_ext (by simp [joinTo_len])
  intro i hi
  rw [joinTo_len] at hi
  rw [joinTo_get hi,joinTo_get hi]
  by_cases h1:i<j
  · rw [if_pos h1,if_pos (by omega)]
  · by_cases h2:i=j
    · subst h2; rw [if_pos (by omega),if_neg (by omega),h]
    · rw [if_neg (by omega),if_neg (by omega)]
def orW (s o:List Nat):List Nat:=joinTo s.length s o
theorem orW_len (s o:List Nat):(orW s o).length=s.length:=joinTo_len _ _ _
theorem orW_get {s o:List Nat} {i:Nat} (h:i<s.length):wOf (orW s o) i=wOf s i ||| wOf o i:=by
  unfold orW; rw [joinTo_get h,if_pos h]
theorem bin_or {s o:List Nat} (hl:o.length≤s.length) (t:Nat):bin (orW s o) t=(bin s t || bin o t):=by
  unfold bin
  rcases Nat.lt_or_ge (t / 64) s.length with h | h
  · rw [orW_get h,Nat.testBit_or]
  · rw [wOf_out (by rw [orW_len]; exact h),wOf_out h,wOf_out (by omega)]; simp
def Words (n:Nat) (ws:List Nat):Prop:=ws.length=n∧∀ x∈ws,W64 x
theorem Words.at {n:Nat} {ws:List Nat} (h:Words n ws) (i:Nat):W64 (wOf ws i):=by
  rcases Nat.lt_or_ge i ws.length with h1 | h1
  · rw [wOf_get h1]; exact h.2 _ (List.getElem_mem h1)
  · rw [wOf_out h1]; unfold W64; omega
theorem Words.or {n:Nat} {s o:List Nat} (h:Words n s) (k:Words n o):Words n (orW s o):=by
  refine ⟨by rw [orW_len]; exact h.1,fun x hx=>?_⟩
  obtain ⟨i,hi,rfl⟩:=List.getElem_of_mem hx
  rw [← wOf_get hi,orW_get (by rw [orW_len] at hi; exact hi)]
  exact or_lt (h.at i) (k.at i)
theorem Words.set {n:Nat} {s:List Nat} (h:Words n s) {i x:Nat} (hx:W64 x):Words n (s.set i x):=by
  refine ⟨by rw [List.length_set]; exact h.1,fun y hy=>?_⟩
  rcases List.mem_or_eq_of_mem_set hy with h1 | h1
  · exact h.2 y h1
  · rw [h1]; exact hx
def newTo (j:Nat) (s o:List Nat):Bool:=(List.range j).any fun i=>decide (wOf s i ||| wOf o i≠wOf s i)
theorem newTo_succ (j:Nat) (s o:List Nat):newTo (j+1) s o=(newTo j s o || decide (wOf s j ||| wOf o j≠wOf s j)):=by
  unfold newTo; rw [List.range_succ,List.any_append]; simp
def newW (s o:List Nat):Bool:=newTo s.length s o
theorem newW_false {s o:List Nat} (h:newW s o=false):orW s o=s:=wOf_ext (orW_len _ _) fun i hi=>by
  rw [orW_len] at hi
  rw [orW_get hi]
  unfold newW newTo at h
  have:=List.any_eq_false.1 h i (by simpa using hi)
  simpa using this
theorem newW_true {n:Nat} {s o:List Nat} (ho:Words n o) (h:newW s o=true):∃ t,bin o t=true∧bin s t=false:=by
  unfold newW newTo at h
  obtain ⟨i,hi,hn⟩:=List.any_eq_true.1 h
  have hn':¬ wOf s i ||| wOf o i=wOf s i:=by simpa using hn
  have:∃ k,(wOf o i).testBit k=true∧(wOf s i).testBit k=false:=by
    refine Classical.byContradiction fun hc=>hn' ?_
    apply Nat.eq_of_testBit_eq
    intro k
    rw [Nat.testBit_or]
    cases ho:(wOf o i).testBit k with
    | false=>simp
    | true =>
      cases hs:(wOf s i).testBit k with
      | true=>simp
      | false=>exact absurd ⟨k,ho,hs⟩ hc
  obtain ⟨k,hk1,hk2⟩:=this
  have hk:k<64:=by
    rcases Nat.lt_or_ge k 64 with h1 | h1
    · exact h1
    · have hw:=ho.at i
      unfold W64 at hw
      have:(wOf o i).testBit k=false:=Nat.testBit_lt_two_pow (Nat.lt_of_lt_of_le (show wOf o i<2 ^ 64 by omega) (Nat.pow_le_pow_right (by omega) h1))
      rw [this] at hk1; cases hk1
  refine ⟨64 * i+k,?_,?_⟩
  · unfold bin; rw [show (64 * i+k) / 64=i by omega,show (64 * i+k) % 64=k by omega]; exact hk1
  · unfold bin; rw [show (64 * i+k) / 64=i by omega,show (64 * i+k) % 64=k by omega]; exact hk2
def lowBits (b x:Nat):List Int:=((List.range 64).filter fun k=>x.testBit k).map fun k=>((64 * b+k:Nat):Int)
def listTo (j:Nat) (ws:List Nat):List Int:=((List.range (64 * j)).filter fun k=>bin ws k).map fun k:Nat=>(k:Int)
def listW (ws:List Nat):List Int:=listTo ws.length ws
theorem rising_map {l:List Nat} {g:Nat→Int} (hl:l.Pairwise (· < ·)) (hg:∀ a b,a<b→g a<g b):Rising (l.map g):=by
  unfold Rising
  rw [List.pairwise_map]
  exact hl.imp (fun h=>hg _ _ h)
theorem rising_lowBits (b x:Nat):Rising (lowBits b x):=rising_map (List.Pairwise.filter _ List.pairwise_lt_range) (fun a c h=>by omega)
theorem rising_listTo (j:Nat) (ws:List Nat):Rising (listTo j ws):=rising_map (List.Pairwise.filter _ List.pairwise_lt_range) (fun a c h=>by omega)
theorem rising_listW (ws:List Nat):Rising (listW ws):=rising_listTo _ _
theorem mem_lowBits {b x:Nat} {t:Int}:t∈lowBits b x↔∃ k,k<64∧x.testBit k=true∧t=((64 * b+k:Nat):Int):=by
  unfold lowBits
  simp only [List.mem_map,List.mem_filter,List.mem_range]
  exact ⟨fun ⟨k,⟨h1,h2⟩,h3⟩=>⟨k,h1,h2,h3.symm⟩,fun ⟨k,h1,h2,h3⟩=>⟨k,⟨h1,h2⟩,h3.symm⟩⟩
theorem mem_listTo {j:Nat} {ws:List Nat} {t:Int}:t∈listTo j ws↔∃ n:Nat,n<64 * j∧bin ws n=true∧t=n:=by
  unfold listTo
  simp only [List.mem_map,List.mem_filter,List.mem_range]
  exact ⟨fun ⟨k,⟨h1,h2⟩,h3⟩=>⟨k,h1,h2,h3.symm⟩,fun ⟨k,h1,h2,h3⟩=>⟨k,⟨h1,h2⟩,h3.symm⟩⟩
theorem mem_listW {ws:List Nat} {t:Int}:t∈listW ws↔∃ n:Nat,bin ws n=true∧t=n:=by
  unfold listW
  rw [mem_listTo]
  exact ⟨fun ⟨n,_,h⟩=>⟨n,h⟩,fun ⟨n,h1,h2⟩=>⟨n,bin_lt h1,h1,h2⟩⟩
theorem mem_listW_nat {ws:List Nat} {n:Nat}:(n:Int)∈listW ws↔bin ws n=true:=by
  rw [mem_listW]
  exact ⟨fun ⟨m,h1,h2⟩=>by
    have:n=m:=by omega
    subst this; exact h1,fun h=>⟨n,h,rfl⟩⟩
theorem listTo_zero (ws:List Nat):listTo 0 ws=[]:=by simp [listTo]
theorem listTo_succ (j:Nat) (ws:List Nat):listTo (j+1) ws=listTo j ws++lowBits j (wOf ws j):=by
  unfold listTo lowBits
  rw [show 64 * (j+1)=64 * j+64 by omega,List.range_add,List.filter_append,List.map_append]
  congr 1
  rw [List.filter_map,List.map_map]
  congr 1
  apply List.filter_congr
  intro k hk
  have hk':k<64:=by simpa using hk
  show bin ws (64 * j+k)=_
  unfold bin
  rw [show (64 * j+k) / 64=j by omega,show (64 * j+k) % 64=k by omega]
theorem lowBits_zero (b:Nat):lowBits b 0=[]:=by
  unfold lowBits
  rw [List.filter_eq_nil_iff.2 (fun k _=>by simp)]
  rfl
theorem lowBits_length (b x:Nat):(lowBits b x).length≤64:=by
  unfold lowBits
  rw [List.length_map]
  have:=List.length_filter_le (fun k=>x.testBit k) (List.range 64)
  simpa using this
theorem listTo_length (j:Nat) (ws:List Nat):(listTo j ws).length≤64 * j:=by
  unfold listTo
  rw [List.length_map]
  have:=List.length_filter_le (fun k=>bin ws k) (List.range (64 * j))
  simpa using this
theorem strike_bit {x k m:Nat} (hx:x=2 ^ k * (2 * m+1)) (i:Nat):(x &&& (x - 1)).testBit i=(x.testBit i && decide (i≠k))∧(i<k→x.testBit i=false)∧x.testBit k=true:=by
  have hp:0<2 ^ k:=Nat.two_pow_pos k
  have e1:x - 1=2 ^ k * (2 * m)+(2 ^ k - 1):=by rw [hx,Nat.mul_add]; omega
  have t0:∀ i,x.testBit i=(decide (k≤i) && (2 * m+1).testBit (i - k)):=fun i=>by rw [hx,Nat.mul_comm,Nat.testBit_mul_two_pow]
  refine ⟨?_,?_,?_⟩
  · rw [Nat.testBit_and,e1,Nat.testBit_two_pow_mul_add (2 * m) (by omega),t0]
    by_cases h1:i<k
    · simp [show ¬ k≤i by omega]
    · by_cases h2:i=k
      · subst h2; simp [Nat.testBit_zero]
      · have h3:i - k=(i - k - 1)+1:=by omega
        rw [if_neg h1,h3,Nat.testBit_succ,Nat.testBit_succ,show (2 * m+1) / 2=m by omega,show 2 * m / 2=m by omega]
        simp [h2,show k≤i by omega]
  · intro h1; rw [t0]; simp [show ¬ k≤i by omega]
  · rw [t0]; simp [Nat.testBit_zero]
theorem lowBits_step {b x:Nat} (hx:W64 x) (h0:x≠0):lowBits b x=((64 * b+Lib.ctz 64 x:Nat):Int) :: lowBits b (x &&& (x - 1))∧Lib.ctz 64 x<64∧W64 (x &&& (x - 1))∧x &&& (x - 1)<x:=by
  unfold W64 at *
  obtain ⟨m,hm,hk⟩:=Lib.ctzFrom_spec 64 x (by omega) (by omega)
  have hc:Lib.ctz 64 x=Lib.ctzFrom 64 x:=by unfold Lib.ctz; rw [if_neg h0]
  rw [hc]
  generalize Lib.ctzFrom 64 x=k at *
  have hle:x &&& (x - 1)≤x - 1:=Nat.and_le_right
  refine ⟨?_,hk,by omega,by omega⟩
  refine rising_ext (rising_lowBits _ _) (List.pairwise_cons.2 ⟨fun t ht=>?_,rising_lowBits _ _⟩) (fun t=>?_)
  · obtain ⟨i,hi,h1,rfl⟩:=mem_lowBits.1 ht
    have h2:=strike_bit hm i
    rw [h2.1] at h1
    simp at h1
    have:¬ i<k:=fun h=>by rw [h2.2.1 h] at h1; simp at h1
    omega
  · rw [List.mem_cons,mem_lowBits,mem_lowBits]
    constructor
    · rintro ⟨i,hi,h1,rfl⟩
      by_cases h:i=k
      · subst h; exact .inl rfl
      · exact .inr ⟨i,hi,by rw [(strike_bit hm i).1]; simp [h1,h],rfl⟩
    · rintro (rfl | ⟨i,hi,h1,rfl⟩)
      · exact ⟨k,hk,(strike_bit hm 0).2.2,rfl⟩
      · rw [(strike_bit hm i).1] at h1; simp at h1; exact ⟨i,hi,h1.1,rfl⟩
theorem listW_or {n:Nat} {s o:List Nat} (hs:Words n s) (ho:Words n o):listW (orW s o)=unionL (listW s) (listW o):=by
  refine rising_ext (rising_listW _) (rising_unionL (rising_listW _)) (fun t=>?_)
  rw [mem_unionL,mem_listW,mem_listW,mem_listW]
  constructor
  · rintro ⟨k,h,rfl⟩
    rw [bin_or (by rw [hs.1,ho.1]; exact Nat.le_refl _)] at h
    simp at h
    rcases h with h | h
    · exact .inl ⟨k,h,rfl⟩
    · exact .inr ⟨k,h,rfl⟩
  · rintro (⟨k,h,rfl⟩ | ⟨k,h,rfl⟩) <;> exact ⟨k,by rw [bin_or (by rw [hs.1,ho.1]; exact Nat.le_refl _),h]; simp,rfl⟩
theorem newW_iff {n:Nat} {s o:List Nat} (hs:Words n s) (ho:Words n o):newW s o=decide ((listW s).length<(unionL (listW s) (listW o)).length):=by
  cases h:newW s o with
  | false =>
    have e:=newW_false h
    rw [← listW_or hs ho,e]
    simp
  | true =>
    obtain ⟨t,h1,h2⟩:=newW_true ho h
    symm
    rw [decide_eq_true_eq]
    refine Nat.lt_of_not_le fun hle=>?_
    have:=sub_of_length_unionL (rising_listW s) hle t (mem_listW_nat.2 h1)
    rw [mem_listW_nat] at this
    rw [this] at h2; cases h2
def putW (ws:List Nat) (n:Nat):List Nat:=ws.set (n / 64) (wOf ws (n / 64) ||| 2 ^ (n % 64))
theorem pow_lt (k:Nat):W64 (2 ^ (k % 64)):=by
  unfold W64
  have:2 ^ (k % 64)<2 ^ 64:=Nat.pow_lt_pow_right (by omega) (Nat.mod_lt _ (by omega))
  omega
theorem Words.put {n:Nat} {ws:List Nat} (h:Words n ws) (t:Nat):Words n (putW ws t):=h.set (or_lt (h.at _) (pow_lt t))
theorem bin_put {ws:List Nat} {n t:Nat} (hn:n<64 * ws.length):bin (putW ws n) t=(bin ws t || decide (t=n)):=by
  unfold bin putW
  have hi:n / 64<ws.length:=by omega
  rcases Nat.lt_or_ge (t / 64) ws.length with h | h
  · rw [wOf_get (ws:=ws.set (n / 64) (wOf ws (n / 64) ||| 2 ^ (n % 64))) (by simpa using h),List.getElem_set]
    split
    · rename_i e
      rw [Nat.testBit_or,Nat.testBit_two_pow,e]
      congr 1
      have:(n % 64=t % 64)↔t=n:=by omega
      simp only [this]
    · rename_i e
      rw [← wOf_get h]
      have:¬ t=n:=fun h'=>e (by rw [h'])
      simp [this]
  · rw [wOf_out (by simpa using h),wOf_out h]
    have:¬ t=n:=by omega
    simp [this]
theorem words_zero (n:Nat):Words n (List.replicate n 0):=⟨by simp,fun x hx=>by rw [(List.mem_replicate.1 hx).2]; unfold W64; omega⟩
theorem bin_zero (n t:Nat):bin (List.replicate n 0) t=false:=by
  unfold bin
  have:wOf (List.replicate n 0) (t / 64)=0:=by
    rcases Nat.lt_or_ge (t / 64) n with h | h
    · rw [wOf_get (by simpa using h)]; simp
    · exact wOf_out (by simpa using h)
  rw [this]; simp
theorem listW_zero (n:Nat):listW (List.replicate n 0)=[]:=by
  refine rising_ext (rising_listW _) List.Pairwise.nil (fun t=>?_)
  rw [mem_listW]
  simp [bin_zero]
theorem listW_put {ws:List Nat} {n:Nat} (hn:n<64 * ws.length):listW (putW ws n)=putL n (listW ws):=by
  refine rising_ext (rising_listW _) (rising_putL (rising_listW _)) (fun t=>?_)
  rw [mem_putL,mem_listW,mem_listW]
  constructor
  · rintro ⟨k,h,rfl⟩
    rw [bin_put hn] at h
    simp at h
    rcases h with h | h
    · exact .inr ⟨k,h,rfl⟩
    · subst h; exact .inl rfl
  · rintro (rfl | ⟨k,h,rfl⟩)
    · exact ⟨n,by rw [bin_put hn]; simp,rfl⟩
    · exact ⟨k,by rw [bin_put hn,h]; simp,rfl⟩
end Go.Proofs.YtiamjafecbpfpaaGreatDoor
namespace Go.Proofs.YtiamjafecbpfpaaGreatDoor
open Go.RowKit
def encU (x:Nat):Value:=.int .u64 (x:Int)
def SetB (b m:Nat) (ws:List Nat) (W:World):Prop:=W.heap[b]?=some (Obj.cells (ws.map encU).toArray 203 (0,0))∧Words m ws
theorem SetB.lt {b m ws W} (h:SetB b m ws W):b<W.heap.size:=(Array.getElem?_eq_some_iff.1 h.1).1
theorem SetB.cell {b m ws W} (h:SetB b m ws W) {i:Nat} (hi:i<m):W.cell? ⟨b,i,none⟩=some (.int .u64 (wOf ws i)):=by
  have hl:i<ws.length:=by rw [h.2.1]; exact hi
  rw [wOf_get hl]
  have:=h.1
  simp [World.cell?,this,hl,encU]
theorem SetB.frozen {b m ws W} (h:SetB b m ws W) (i:Nat):W.frozen? ⟨b,i,none⟩=false:=by
  have:=h.1
  simp [World.frozen?,this]
theorem block_set {W:World} {b i:Nat} {cs:Array Value} {t:TypeId} (v:Value) (h:W.heap[b]?=some (Obj.cells cs t (0,0))):(W.setCell ⟨b,i,none⟩ v).heap[b]?=some (Obj.cells (cs.setIfInBounds i v) t (0,0)):=by
  have hlt:=(Array.getElem?_eq_some_iff.1 h).1
  have h':W.heap[b]=Obj.cells cs t (0,0):=(Array.getElem?_eq_some_iff.1 h).2
  show (W.heap.modify b _)[b]?=_
  rw [Array.getElem?_eq_getElem (by simpa using hlt),Array.getElem_modify_self,h']
  rfl
theorem SetB.set {b m ws W} (h:SetB b m ws W) {i x:Nat} (hx:W64 x):SetB b m (ws.set i x) (W.setCell ⟨b,i,none⟩ (.int .u64 x)):=by
  refine ⟨(block_set _ h.1).trans ?_,h.2.set hx⟩
  simp [encU,List.map_set]
theorem SetB.but {b m ws W W'} {D:Nat→Prop} (h:SetB b m ws W) (hb:But D W W') (hd:¬ D b):SetB b m ws W':=⟨(hb.block b h.lt hd).trans h.1,h.2⟩
set_option maxHeartbeats 1000000 in
theorem join_any (s o:List Nat) (b c m:Nat) (w:World) (hs:SetB b m s w) (ho:SetB c m o w) (hm:m≤1000) :
    Calls Tryz.prog 118 #[.slice (some ⟨b,0,none⟩) m m,.slice (some ⟨c,0,none⟩) m m] w fun e w'=>e=.returned (.bool (newW s o))∧SetB b m (orW s o) w'∧But (fun k=>k=b) w w':=by
  go_enter Tryz.func118,Tryz.ntmps118
  go_wp2
  go_loopw [5,10] (fun g i wr=>∃ (j:Nat),i=.int .i64 j∧j≤m∧g=.bool (newTo j s o)∧SetB b m (joinTo j s o) wr∧SetB c m o wr∧But (fun k=>k=b) w wr) (fun _ i _=>m - (intOf i).toNat)
  case atStart=>exact ⟨0,rfl,Nat.zero_le _,rfl,by rw [joinTo_zero]; exact hs,ho,But.refl _ _⟩
  case round =>
    obtain ⟨j,rfl,hj,rfl,h1,h2,h3⟩:=hrel
    by_cases hlt:j<m
    · have hjs:j<s.length:=by rw [hs.2.1]; exact hlt
      have c1:=h1.cell hlt
      have c2:=h2.cell hlt
      have fz:=h1.frozen j
      rw [joinTo_get hjs,if_neg (Nat.lt_irrefl _)] at c1
      have w1:=hs.2.at j
      have w2:=ho.2.at j
      have HN:Hid (newTo (j+1) s o=(newTo j s o || decide (wOf s j ||| wOf o j≠wOf s j))):=newTo_succ j s o
      have HJ:Hid (joinTo (j+1) s o=(joinTo j s o).set j (wOf s j ||| wOf o j)):=joinTo_succ
      have HJ2:Hid (wOf s j ||| wOf o j=wOf s j→joinTo (j+1) s o=joinTo j s o):=joinTo_same hjs
      have HST:Hid (SetB b m ((joinTo j s o).set j (wOf s j ||| wOf o j)) (wr.setCell ⟨b,j,none⟩ (.int .u64 ((wOf s j ||| wOf o j:Nat):Int)))):=h1.set (or_lt w1 w2)
      have HBC:Hid (b=c→wOf s j=wOf o j):=fun e=>by
        subst e
        have e1:=hs.1.symm.trans ho.1
        simp only [Option.some.injEq,Obj.cells.injEq,and_true] at e1
        have e2:s.map encU=o.map encU:=by simpa using e1
        have e3:s=o:=by
          refine List.map_inj_right (f:=encU) (fun x y h=>?_) |>.1 e2
          simp only [encU,Value.int.injEq,true_and] at h
          omega
        rw [e3]
      have HZ:=andNot_zero w1 w2
      have e1:=u64_andNot_nat (wOf o j) (wOf s j) w2 w1
      have e2:=u64_or_nat (wOf s j) (wOf o j) w1 w2
      unfold W64 at w1 w2
      generalize wOf s j=x at *
      generalize wOf o j=y at *
      obtain ⟨z,hz⟩:∃ z:Int,bits .andNot .u64 (y:Int) (x:Int)=z:=⟨_,rfl⟩
      obtain ⟨u,hu⟩:∃ u:Int,bits .or .u64 (x:Int) (y:Int)=u:=⟨_,rfl⟩
      have HU:Hid (((x ||| y:Nat):Int)=u):=by show _=_; rw [← hu,e2]
      by_cases hn:x ||| y=x
      · have hz0:(z != 0)=false:=by rw [← hz,e1,HZ.2 hn]; rfl
        have HN2:Hid (newTo (j+1) s o=newTo j s o):=by show _=_; rw [HN.out]; simp [hn]
        have HJ3:Hid (SetB b m (joinTo (j+1) s o) wr):=by show SetB _ _ _ _; rw [HJ2.out hn]; exact h1
        clear HN HJ HJ2 HST HBC HZ e1 e2 hn hs ho h1
        generalize newTo j s o=g at *
        go_wp2_with fail
        exact ⟨⟨j+1,by go_num,by omega,by rw [HN2.out],HJ3.out,h2,h3⟩,by simp [intOf]; omega⟩
      · have hz0:(z != 0)=true:=by
          rw [← hz,e1]
          have:¬ (y &&& (18446744073709551615 - x)=0):=fun h=>hn (HZ.1 h)
          simp; omega
        have HN2:Hid (newTo (j+1) s o=true):=by show _=_; rw [HN.out]; simp [hn]
        have hbc:b≠c:=fun e=>hn (by rw [HBC.out e,Nat.or_self])
        have HJ3:Hid (SetB b m (joinTo (j+1) s o) (wr.setCell ⟨b,j,none⟩ (.int .u64 u))∧SetB c m o (wr.setCell ⟨b,j,none⟩ (.int .u64 u))∧But (fun k=>k=b) w (wr.setCell ⟨b,j,none⟩ (.int .u64 u))):=by
          refine ⟨?_,⟨(Below.heap_setCell wr ⟨b,j,none⟩ _ c (fun e=>hbc e.symm)).trans h2.1,h2.2⟩,h3.setCell _ _ (.inr rfl)⟩
          rw [HJ.out,← HU.out]; exact HST.out
        clear HN HJ HJ2 HST HBC HZ e1 e2 hn hs ho h1 h3 hbc
        generalize newTo j s o=g at *
        go_wp2_with fail
        exact ⟨⟨j+1,by go_num,by omega,by rw [HN2.out],HJ3.out.1,HJ3.out.2.1,HJ3.out.2.2⟩,by simp [intOf]; omega⟩
    · obtain rfl:j=m:=by omega
      have HE:Hid (newW s o=newTo j s o∧orW s o=joinTo j s o):=⟨by unfold newW; rw [hs.2.1],by unfold orW; rw [hs.2.1]⟩
      clear hs ho h2
      generalize newTo j s o=g at *
      go_wp2_with fail
      go_ret
      exact ⟨ret_bool HE.out.1.symm,by rw [HE.out.2]; exact h1,h3⟩
set_option maxHeartbeats 400000 in
theorem sput_any (s:List Nat) (b m n:Nat) (w:World) (hs:SetB b m s w) (hm:m≤1000) (hn:n<64 * m) :
    Calls Tryz.prog 98 #[.slice (some ⟨b,0,none⟩) m m,.int .i64 n] w fun e w'=>(∃ v,e=.returned v)∧SetB b m (putW s n) w'∧But (fun k=>k=b) w w':=by
  have hi:n / 64<m:=by omega
  have c1:=hs.cell hi
  have fz:=hs.frozen (n / 64)
  have w1:=hs.2.at (n / 64)
  have HS:Hid (SetB b m s w):=hs
  have HP:Hid (putW s n=s.set (n / 64) (wOf s (n / 64) ||| 2 ^ (n % 64))):=rfl
  have HPL:Hid (W64 (2 ^ (n % 64))):=pow_lt n
  have hq:((n:Int) / 64)=((n / 64:Nat):Int):=by omega
  have hr:((n:Int) % 64)=((n % 64:Nat):Int):=by omega
  have hr2:n % 64<64:=by omega
  generalize n / 64=q at *
  generalize n % 64=r at *
  generalize wOf s q=x at *
  clear hs
  go_enter Tryz.func98,Tryz.ntmps98
  go_wp2
  go_big_region
  go_wp2
  go_end0
  have hwr:IntKind.u64.wrap (2 ^ r)=((2 ^ r:Nat):Int):=by
    have:=HPL.out
    unfold W64 at this
    rw [IntKind.wrap_u64]
    have e:((2:Int) ^ r)=((2 ^ r:Nat):Int):=by push_cast; rfl
    rw [e]
    generalize 2 ^ r=p at this
    omega
  have h2:SetB b m (putW s n) (w.setCell ⟨b,q,none⟩ (.int .u64 (bits .or .u64 (x:Int) (IntKind.u64.wrap (2 ^ r))))):=by
    rw [hwr,u64_or_nat x (2 ^ r) w1 HPL.out,HP.out]
    exact HS.out.set (or_lt w1 HPL.out)
  exact ⟨⟨_,rfl⟩,⟨h2.1,h2.2⟩,((But.refl (fun k=>k=b) w).setCell _ _ (.inr rfl)).drew⟩
theorem info39:(Tryz.prog.info? 203).map (fun i=>(i.zero,i.size,i.bytes))=some (some (.int .u64 0),1,8):=by kernel_rfl
theorem info61:(Tryz.prog.info? 176).map (fun i=>(i.zero,i.size,i.bytes))=some (some (.slice none 0 0),1,24):=by kernel_rfl
theorem setB_made {W:World} {B g M:Nat} (h:W.ownsRow B 203 1 (.slice (some ⟨g,0,none⟩) M M) M (madeCells #[Value.int .u64 0] M).toList):SetB g M (List.replicate M 0) W:=by
  refine ⟨?_,words_zero M⟩
  obtain ⟨h1,h2⟩:=h
  rcases h2 with ⟨h2,_⟩ | ⟨g',cap,cur,hv,hB,hg,hc,hm,hz,hx⟩
  · cases h2
  · cases hv
    rw [hg]
    have e:cur.toList=(List.replicate M 0).map encU:=by
      rw [Nat.mul_one] at hx hz
      rw [List.take_of_length_le (by simp [hz])] at hx
      rw [hx,toList_madeCells_one]
      simp [encU]
    rw [← e]
set_option maxRecDepth 100000 in
set_option maxHeartbeats 400000 in
theorem newSet_any (f:Fl) (a:FlA) (w:World) (hn:f.n≤600) :
    Calls Tryz.prog 117 #[a.val f] w fun e w'=>∃ b,e=.returned (.slice (some ⟨b,0,none⟩) (f.terms.length / 64+1) (f.terms.length / 64+1))∧w.heap.size≤b∧SetB b (f.terms.length / 64+1) (List.replicate (f.terms.length / 64+1) 0) w'∧Below w.heap.size w w':=by
  obtain ⟨i0,hi0,hz0,hz1,hz2⟩:=info_parts info39
  obtain ⟨ta,tc,na,nc,pa,pc⟩:=a
  have X0:=FBox.new f ⟨ta,tc,na,nc,pa,pc⟩ 50 w
  have B0:Below w.heap.size w (w.alloc (fobj f ⟨ta,tc,na,nc,pa,pc⟩ 50)):=(Below.refl _ _).alloc (Nat.le_refl _) _
  unfold fobj at X0 B0
  unfold FlA.val
  simp only
  obtain ⟨x0,x1,x2,x3⟩:=X0
  unfold Fl.n at hn
  have hT:f.terms.length≤600:=by omega
  go_enter Tryz.func117,Tryz.ntmps117
  have hm1:((f.terms.length:Int) / 64+1)=((f.terms.length / 64+1:Nat):Int):=by omega
  have hm2:f.terms.length / 64+1≤1000:=by omega
  generalize f.terms.length / 64+1=M at *
  go_wp2_with (at_make; refine wpList_make_full _ rfl _ _ 176 rfl (w.heap.size+1) 203 i0 _ 1 Tryz.underlying176 hi0 hz0 hz1 _ _ _ _ M rfl rfl rfl rfl (by rw [hz2]; omega) (by unfold maxLen; omega) (by simp) ?_)
  intro w2 hown hg2
  have hown':w2.ownsRow (w.heap.size+1) 203 1 (.slice (some ⟨w.heap.size+1,0,none⟩) M M) M (madeCells #[Value.int .u64 0] M).toList:=by simpa using hown
  have HS:Hid (SetB (w.heap.size+1) M (List.replicate M 0) w2):=setB_made hown'
  have HB:Hid (Below w.heap.size w w2):=B0.grown hg2 (by simp) (fun k e=>by cases e)
  clear hown hown' hg2 x0 x1 x2 x3 B0
  go_wp2_with fail
  go_ret
  exact ⟨w.heap.size+1,by simp,by omega,HS.out,HB.out⟩
def RowK (G N:Nat) (L:List Bool) (W:World):Prop:=W.heap[G]?=some (Obj.cells (L.map encB).toArray 4 (0,0))∧L.length=N
theorem RowK.lt {G N L W} (h:RowK G N L W):G<W.heap.size:=(Array.getElem?_eq_some_iff.1 h.1).1
theorem RowK.cell {G N L W} (h:RowK G N L W) {i:Nat} (hi:i<N):W.cell? ⟨G,i,none⟩=some (.bool (onb L i)):=by
  have hl:i<L.length:=by rw [h.2]; exact hi
  rw [onb_get hl]
  have:=h.1
  simp [World.cell?,this,hl,encB]
theorem RowK.frozen {G N L W} (h:RowK G N L W) (i:Nat):W.frozen? ⟨G,i,none⟩=false:=by
  have:=h.1
  simp [World.frozen?,this]
theorem RowK.set {G N L W} (h:RowK G N L W) (i:Nat) (x:Bool):RowK G N (L.set i x) (W.setCell ⟨G,i,none⟩ (.bool x)):=by
  refine ⟨(block_set _ h.1).trans ?_,by rw [List.length_set]; exact h.2⟩
  simp [encB,List.map_set]
theorem RowK.but {G N L W W'} {D:Nat→Prop} (h:RowK G N L W) (hb:But D W W') (hd:¬ D G):RowK G N L W':=⟨(hb.block G h.lt hd).trans h.1,h.2⟩
theorem RowK.next {G N L W W'} (h:RowK G N L W) (hb:Below W.heap.size W W'):RowK G N L W':=⟨(hb.block G h.lt).trans h.1,h.2⟩
theorem rowK_made {W:World} {B g M:Nat} (h:W.ownsRow B 4 1 (.slice (some ⟨g,0,none⟩) M M) M (madeCells #[Value.bool false] M).toList):RowK g M (List.replicate M false) W:=by
  refine ⟨?_,by simp⟩
  obtain ⟨h1,h2⟩:=h
  rcases h2 with ⟨h2,_⟩ | ⟨g',cap,cur,hv,hB,hg,hc,hm,hz,hx⟩
  · cases h2
  · cases hv
    rw [hg]
    have e:cur.toList=(List.replicate M false).map encB:=by
      rw [Nat.mul_one] at hx hz
      rw [List.take_of_length_le (by simp [hz])] at hx
      rw [hx,made_false]
    rw [← e]
theorem RowK.slB {G N L W} (h:RowK G N L W):SlB L (.slice (some ⟨G,0,none⟩) N N) W:=by
  refine ⟨some ⟨G,0,none⟩,N,(by rw [h.2]),(fun i x hi=>?_),(fun e=>by cases e),(by rw [h.2]; exact Nat.le_refl _)⟩
  obtain ⟨hl,rfl⟩:=List.getElem?_eq_some_iff.1 hi
  refine ⟨G,0,rfl,h.lt,?_⟩
  rw [Nat.zero_add,h.cell (by rw [← h.2]; exact hl),onb_get hl]
  rfl
set_option maxRecDepth 100000 in
set_option maxHeartbeats 800000 in
theorem derived11_any (L:List Bool) (G N KB:Nat) (x:It) (w:World) (hR:RowK G N L w) (hK:w.cell? ⟨KB,0,none⟩=some (.slice (some ⟨G,0,none⟩) N N)) (hx:0≤x.sym∧x.sym<(N:Int)) :
    Calls Tryz.prog 95 #[.agg #[.int .i64 x.sym,.string x.fld,.string x.als],.pointer (some ⟨KB,0,none⟩)] w fun e w'=>e=.returned (.bool (!onb L x.sym.toNat))∧Below w.heap.size w w':=by
  have hKl:KB<w.heap.size:=World.block_lt_of_cell? w _ hK
  have hGl:=hR.lt
  obtain ⟨xs,xf,xa⟩:=x
  simp only at *
  obtain ⟨q,rfl⟩:∃ q:Nat,xs=q:=⟨xs.toNat,by omega⟩
  rw [Int.toNat_natCast]
  have hc:=hR.cell (i:=q) (by omega)
  generalize onb L q=oq at *
  have h1:KB≠w.heap.size:=by omega
  have h2:G≠w.heap.size:=by omega
  clear hR
  go_enter Tryz.func95,Tryz.ntmps95
  go_wp2_with fail
  go_ret
  exact ⟨rfl,(Below.refl _ _).alloc (Nat.le_refl _) _⟩
def grB (L:List Bool) (l:Nat) (sy:List Nat):Bool:=!onb L l && sy.all (onb L)
set_option maxRecDepth 100000 in
set_option maxHeartbeats 800000 in
theorem derived1_any (L:List Bool) (G N KB l:Nat) (r:List It) (v:Value) (w:World) (hR:RowK G N L w) (hK:w.cell? ⟨KB,0,none⟩=some (.slice (some ⟨G,0,none⟩) N N)) (hl:l<N) (hv:SlT r v w) (hr:r.length≤64) (hs:∀ x∈r,0≤x.sym∧x.sym<(N:Int)) :
    Calls Tryz.prog 93 #[.int .i64 l,v,.pointer (some ⟨KB,0,none⟩)] w fun e w'=>e=.returned (.bool (grB L l (r.map fun x=>x.sym.toNat)))∧RowK G N (if grB L l (r.map fun x=>x.sym.toNat) then L.set l true else L) w'∧But (fun k=>k=G) w w':=by
  have hC:=fun W (hb:Below w.heap.size w W)=>anyItems 95 #[.pointer (some ⟨KB,0,none⟩)] (enters_of Tryz.func95 (by kernel_rfl) rfl) (fun x=>!onb L x.sym.toNat) r v W (hv.next hb) (by omega)
    (fun W' x hx hb'=>(derived11_any L G N KB x W' ((hR.next hb).next hb') ((hb'.cell (p:=⟨KB,0,none⟩) (Nat.lt_of_lt_of_le (World.block_lt_of_cell? w _ hK) hb.size)).trans ((hb.cell (p:=⟨KB,0,none⟩) (World.block_lt_of_cell? w _ hK)).trans hK)) (hs x hx)).mono fun e w' ⟨h1,h2⟩=>⟨h1,below_then hb' h2 hb'.size⟩)
  have hany:r.any (fun x=>!onb L x.sym.toNat)=!((r.map fun x=>x.sym.toNat).all (onb L)):=by
    rw [List.all_map,List.any_eq_not_all_not]
    simp [Function.comp_def]
  rw [hany] at hC
  have HG:Hid (grB L l (r.map fun x=>x.sym.toNat)=(!onb L l && (r.map fun x=>x.sym.toNat).all (onb L))):=rfl
  have hcl:=hR.cell hl
  have hfz:=hR.frozen l
  have HS:Hid (RowK G N (L.set l true) (w.setCell ⟨G,l,none⟩ (.bool true))):=hR.set l true
  generalize (r.map fun x=>x.sym.toNat).all (onb L)=al at *
  obtain ⟨va,vc,rfl,_⟩:=hv
  have HC:Hid (∀ W,Below w.heap.size w W→Calls Tryz.prog 94 #[.slice va r.length vc,.func (.func 95) #[] #[.pointer (some ⟨KB,0,none⟩)]] W fun e w'=>e=.returned (.bool (!al))∧Below W.heap.size W w'):=hC
  clear hC hany hs
  have HR:Hid (RowK G N L w):=hR
  have hne:KB≠G:=fun e=>by subst e; rw [show (⟨KB,0,none⟩:Addr)=⟨KB,0,none⟩ from rfl,hR.cell (Nat.lt_of_le_of_lt (Nat.zero_le _) hl)] at hK; cases hK
  cases ho:onb L l with
  | true =>
    rw [ho] at hcl HG
    rw [show grB L l (r.map fun x=>x.sym.toNat)=false from HG.out]
    simp only [Bool.false_eq_true,if_false]
    clear HG
    go_enter Tryz.func93,Tryz.ntmps93
    go_wp2_with fail
    go_ret
    exact ⟨rfl,HR.out,But.refl _ _⟩
  | false =>
    rw [ho] at hcl HG
    cases al with
    | true =>
      rw [show grB L l (r.map fun x=>x.sym.toNat)=true from HG.out]
      simp only [if_true]
      clear HG
      go_enter Tryz.func93,Tryz.ntmps93
      go_wp2_with fail
      refine (HC.out _ (Below.refl _ _)).mono ?_
      rintro e w1 ⟨rfl,hb1⟩
      have hz:=hb1.size
      have R1:=HR.out.next hb1
      have hK1:=(hb1.cell (p:=⟨KB,0,none⟩) (World.block_lt_of_cell? w _ hK)).trans hK
      have hc1:=R1.cell hl
      have hf1:=R1.frozen l
      have HF:Hid (RowK G N (L.set l true) (w1.setCell ⟨G,l,none⟩ (.bool true))∧But (fun k=>k=G) w (w1.setCell ⟨G,l,none⟩ (.bool true))):=⟨R1.set l true,(But.of_next hb1).setCell _ _ (.inr rfl)⟩
      clear hb1 hcl hfz hK R1 HR HS HC hR
      go_wp2_with fail
      go_ret
      exact ⟨rfl,HF.out.1,HF.out.2⟩
    | false =>
      rw [show grB L l (r.map fun x=>x.sym.toNat)=false from HG.out]
      simp only [Bool.false_eq_true,if_false]
      clear HG
      go_enter Tryz.func93,Tryz.ntmps93
      go_wp2_with fail
      refine (HC.out _ (Below.refl _ _)).mono ?_
      rintro e w1 ⟨rfl,hb1⟩
      have HF:Hid (RowK G N L w1∧But (fun k=>k=G) w w1):=⟨HR.out.next hb1,But.of_next hb1⟩
      clear hb1 HR HS HC hR
      go_wp2_with fail
      go_ret
      exact ⟨rfl,HF.out.1,HF.out.2⟩
theorem below_but {w V V':World} {D:Nat→Prop} (h:Below w.heap.size w V) (hb:But D V V') (hd:∀ k,D k→w.heap.size≤k):Below w.heap.size w V':=h.trans (hb.below h.size hd)
def upB (t:Bool) (N k:Nat):List Bool:=(List.range N).map fun i=>t && decide (i<k)
theorem upB_zero (t:Bool) (N:Nat):upB t N 0=List.replicate N false:=by
  unfold upB
  apply List.ext_getElem (by simp)
  intro i h1 h2
  simp
theorem upB_on {t:Bool} {N k s:Nat}:OnB (upB t N k) s↔s<N∧t=true∧s<k:=by
  unfold OnB upB
  rw [List.getElem?_map]
  by_cases h:s<N
  · rw [List.getElem?_range h]; simp [h]
  · rw [List.getElem?_eq_none (by simp; omega)]; simp [h]
theorem upB_set {t:Bool} {N k:Nat}:(upB t N k).set k t=upB t N (k+1):=by
  unfold upB
  apply List.ext_getElem (by simp)
  intro i h1 h2
  rw [List.getElem_set]
  split
  · rename_i h; subst h; simp
  · have e:decide (i<k)=decide (i<k+1):=by rw [decide_eq_decide]; omega
    simp [e]
theorem grB_false {L:List Bool} {l:Nat} {sy:List Nat} (h:grB L l sy=false):ClosedB L (l,sy):=by
  unfold grB at h
  intro hx
  rw [← onb_iff]
  cases ho:onb L l with
  | true=>rfl
  | false =>
    rw [ho] at h
    have:sy.all (onb L)=true:=List.all_eq_true.2 fun x hx'=>onb_iff.2 (hx x hx')
    rw [this] at h
    cases h
theorem grB_true {L:List Bool} {l:Nat} {sy:List Nat} (h:grB L l sy=true):¬ OnB L l∧∀ x∈sy,OnB L x:=by
  unfold grB at h
  simp only [Bool.and_eq_true,Bool.not_eq_true',List.all_eq_true] at h
  exact ⟨(fun ho=>by rw [← onb_iff,h.1] at ho; cases ho),fun x hx=>onb_iff.1 (h.2 x hx)⟩
set_option maxRecDepth 100000 in
set_option maxHeartbeats 2000000 in
theorem derived_any (f:Fl) (a:FlA) (t:Bool) (w:World) (hf:FlAt f a w) (hp:FitP f) :
    Calls Tryz.prog 74 #[a.val f,.bool t] w fun e w'=>∃ G L,e=.returned (.slice (some ⟨G,0,none⟩) f.n f.n)∧w.heap.size≤G∧RowK G f.n L w'∧GivesB (fun s=>t=true∧s<f.terms.length) f.gr f.n L∧Below w.heap.size w w':=by
  have hn:f.n≤600:=hp.size
  have hS:=fun W=>symbols_any f a W hn
  have HSET:Hid (∀ (W:World) (G KB:Nat) (L:List Bool),FlAt f a W→RowK G f.n L W→W.cell? ⟨KB,0,none⟩=some (.slice (some ⟨G,0,none⟩) f.n f.n)→w.heap.size≤G→Below w.heap.size w W→SoundB (fun s=>t=true∧s<f.terms.length) f.gr L→(∀ s,t=true∧s<f.terms.length→OnB L s) →
      Calls Tryz.prog 92 #[a.val f,.func (.func 93) #[] #[.pointer (some ⟨KB,0,none⟩)]] W fun e w'=>(∃ v,e=.returned v)∧w'.cell? ⟨KB,0,none⟩=some (.slice (some ⟨G,0,none⟩) f.n f.n)∧∃ L',RowK G f.n L' w'∧GivesB (fun s=>t=true∧s<f.terms.length) f.gr f.n L'∧Below w.heap.size w w'):=by
    intro W G KB L hfl hR hK hwG hB hs hb
    have hGl:=hR.lt
    have hKl:=World.block_lt_of_cell? W _ hK
    have hne:KB≠G:=fun e=>by
      subst e
      have:=hR.cell (i:=0) (by have:=hp.nons; unfold Fl.n; omega)
      rw [this] at hK; cases hK
    have hpa:∀ ad,a.pa=some ad→f.prods.length≠0→ad.block<w.heap.size:=fun ad h0 h1=>by
      obtain ⟨b,off,v,e,hb',_⟩:=hf.2.2.1.at (Below.refl _ _) (j:=0) (by omega)
      rw [e] at h0; cases h0; exact hb'
    refine (settle_any (σ:=List Bool) f a 93 #[.pointer (some ⟨KB,0,none⟩)] (enters_of Tryz.func93 (by kernel_rfl) rfl)
      (fun L V=>FlAt f a V∧RowK G f.n L V∧V.cell? ⟨KB,0,none⟩=some (.slice (some ⟨G,0,none⟩) f.n f.n)∧Below w.heap.size w V∧SoundB (fun s=>t=true∧s<f.terms.length) f.gr L∧(∀ s,t=true∧s<f.terms.length→OnB L s)) (fun k=>k=G) offs
      (fun j L=>∀ q,f.gr[j]?=some q→ClosedB L q) W hp (fun L V h=>h.1) ?hS (fun k hk=>by rw [hk]; exact hGl) ?hDa ?hg L ⟨hfl,hR,hK,hB,hs,hb⟩).mono ?_
    case hS =>
      rintro L V V' ⟨k1,k2,k3,k4,k5,k6⟩ hVV
      exact ⟨hf.next (k4.trans (hVV.mono hB.size)),⟨(hVV.block G hGl).trans k2.1,k2.2⟩,(hVV.cell (p:=⟨KB,0,none⟩) hKl).trans k3,k4.trans (hVV.mono hB.size),k5,k6⟩
    case hDa =>
      intro hpos ad had hk
      have:=hpa ad had (by omega)
      omega
    case hg =>
      rintro j hj L V v ⟨k1,k2,k3,k4,k5,k6⟩ hv hz -
      have hlf:=hp.left _ (List.getElem_mem hj)
      have hq:f.gr[j]?=some (f.prods[j].left.toNat,f.prods[j].syms):=by unfold Fl.gr; rw [List.getElem?_map,List.getElem?_eq_getElem hj]; rfl
      have hm:=gr_mem hj
      have hln:(f.terms.length+f.nons.length:Nat)=f.n:=rfl
      obtain ⟨l,hl⟩:∃ l:Nat,f.prods[j].left=l:=⟨f.prods[j].left.toNat,by omega⟩
      rw [hl,Int.toNat_natCast] at hq hm
      rw [hl]
      refine (derived1_any L G f.n KB l f.prods[j].right v V k2 k3 (by omega) hv (hp.right _ (List.getElem_mem hj)) (fun x hx=>hp.sym _ (List.getElem_mem hj) x hx)).mono ?_
      rintro e V' ⟨rfl,h1,h2⟩
      have hb':=below_but k4 h2 (fun k hk=>by rw [hk]; exact hwG)
      cases hgb:grB L l (f.prods[j].right.map fun x=>x.sym.toNat) with
      | true =>
        rw [hgb] at h1
        simp only [if_true] at h1
        obtain ⟨g1,g2⟩:=grB_true hgb
        refine ⟨L.set l true,true,rfl,⟨hf.next hb',h1,(h2.cell (p:=⟨KB,0,none⟩) (World.block_lt_of_cell? V _ k3) hne).trans k3,hb',soundB_set k5 (by rw [k2.2]; omega) hm g2,fun s hs=>onB_set (k6 s hs)⟩,h2,fun _=>offs_set (by rw [k2.2]; omega) g1,fun h=>by cases h⟩
      | false =>
        rw [hgb] at h1
        simp only [Bool.false_eq_true,if_false] at h1
        exact ⟨L,false,rfl,⟨hf.next hb',h1,(h2.cell (p:=⟨KB,0,none⟩) (World.block_lt_of_cell? V _ k3) hne).trans k3,hb',k5,k6⟩,h2,(fun h=>by cases h),fun _=>⟨rfl,fun q hq'=>by rw [hq] at hq'; cases hq'; exact grB_false hgb⟩⟩
    · rintro e W' ⟨he,L',⟨k1,k2,k3,k4,k5,k6⟩,hcl,_⟩
      refine ⟨he,k3,L',k2,⟨k2.2,fun s _=>⟨k5 s,fun hd=>complete_B k6 (fun q hq=>?_) hd⟩⟩,k4⟩
      obtain ⟨j,hj,rfl⟩:=List.getElem_of_mem hq
      exact hcl j (by simpa [Fl.gr] using hj) _ (List.getElem?_eq_getElem hj)
  obtain ⟨i0,hi0,hz0,hz1,hz2⟩:=info_parts info4
  have X0:=FBox.new f a 50 w
  have B0:Below w.heap.size w (w.alloc (fobj f a 50)):=(Below.refl _ _).alloc (Nat.le_refl _) _
  have HFL:Hid (∀ W,Below w.heap.size w W→FlAt f a W):=fun W hb=>hf.next hb
  obtain ⟨ta,tc,na,nc,pa,pc⟩:=a
  unfold fobj at X0 B0
  unfold FlA.val at hS HSET ⊢
  simp only at *
  have HS:Hid (∀ W,Calls Tryz.prog 88 #[.agg #[Value.slice ta f.terms.length tc,Value.slice na f.nons.length nc,Value.slice pa f.prods.length pc]] W fun e w'=>e=.returned (.int .i64 f.n)∧Below W.heap.size W w'):=hS
  have hpn:=hp.nons
  clear hS hf hp
  have htN:f.terms.length≤f.n:=by unfold Fl.n; omega
  obtain ⟨N,hN⟩:∃ N,f.n=N:=⟨_,rfl⟩
  rw [hN] at hn HS HSET htN ⊢
  have HNN:Hid (f.n=N):=hN
  clear hN
  go_enter Tryz.func74,Tryz.ntmps74
  go_wp2_with fail
  generalize (w.alloc (Obj.cells #[Value.slice ta f.terms.length tc,Value.slice na f.nons.length nc,Value.slice pa f.prods.length pc] 50))=W1 at *
  refine (HS.out _).mono ?_
  rintro e w1 ⟨rfl,hb1⟩
  have X1:=X0.next hb1
  have B1:=below_then B0 hb1 B0.size
  clear X0 B0 hb1 HS
  go_wp2_with (at_make; refine wpList_make_full _ rfl _ _ 128 rfl w1.heap.size 4 i0 _ 1 Tryz.underlying128 hi0 hz0 hz1 _ _ _ _ N rfl rfl rfl rfl (by rw [hz2]; omega) (by unfold maxLen; omega) (Nat.le_refl _) ?_)
  intro w2 hown hg2
  have hown':w2.ownsRow w1.heap.size 4 1 (.slice (some ⟨w1.heap.size,0,none⟩) N N) N (madeCells #[Value.bool false] N).toList:=by simpa using hown
  have R0:=rowK_made hown'
  have B2:Below w1.heap.size w1 w2:=(Below.refl _ _).grown hg2 (Nat.le_refl _) (fun k e=>by cases e)
  have X2:=X1.next B2
  have hGw:w.heap.size≤w1.heap.size:=B1.size
  obtain ⟨G,hG⟩:∃ G,w1.heap.size=G:=⟨_,rfl⟩
  rw [hG] at R0 hGw ⊢
  have B3:=below_then B1 B2 B1.size
  have hGl:=R0.lt
  have hXl:=X1.1
  rw [hG] at hXl
  have hb3:Below w2.heap.size w2 (w2.alloc (Obj.cells #[Value.slice (some ⟨G,0,none⟩) N N] 128)):=(Below.refl _ _).alloc (Nat.le_refl _) _
  have X3:=X2.next hb3
  have R3:=R0.next hb3
  have B4:=below_then B3 hb3 B3.size
  have K3:(w2.alloc (Obj.cells #[Value.slice (some ⟨G,0,none⟩) N N] 128)).cell? ⟨w2.heap.size,0,none⟩=some (.slice (some ⟨G,0,none⟩) N N):=by simp
  obtain ⟨x0,x1,x2,x3⟩:=id X3
  simp only at x1 x2 x3
  clear hown hown' hg2 X1 B1 B2 hG X2 R0 B3 hb3
  go_wp2_with fail
  generalize w2.alloc (Obj.cells #[Value.slice (some ⟨G,0,none⟩) N N] 128)=W2 at *
  have hW2l:w2.heap.size<W2.heap.size:=World.block_lt_of_cell? W2 _ K3
  have HN:Hid (∀ W,But (fun k=>k=G) W2 W→W.cell? ⟨w.heap.size,0,none⟩=some (.slice ta f.terms.length tc)∧W.cell? ⟨w.heap.size,1,none⟩=some (.slice na f.nons.length nc)∧W.cell? ⟨w.heap.size,2,none⟩=some (.slice pa f.prods.length pc)∧W.cell? ⟨w2.heap.size,0,none⟩=some (.slice (some ⟨G,0,none⟩) N N)∧Below w.heap.size w W):=fun W hb =>
    ⟨(hb.cell (p:=⟨w.heap.size,0,none⟩) (by show w.heap.size<_; omega) (by show w.heap.size≠G; omega)).trans x1,(hb.cell (p:=⟨w.heap.size,1,none⟩) (by show w.heap.size<_; omega) (by show w.heap.size≠G; omega)).trans x2,(hb.cell (p:=⟨w.heap.size,2,none⟩) (by show w.heap.size<_; omega) (by show w.heap.size≠G; omega)).trans x3,(hb.cell (p:=⟨w2.heap.size,0,none⟩) hW2l (by show w2.heap.size≠G; omega)).trans K3,below_but B4 hb (fun k hk=>by rw [hk]; exact hGw)⟩
  have HR3:Hid (RowK G N (upB t N 0) W2):=by show RowK _ _ _ _; rw [upB_zero]; exact R3
  clear x0 x1 x2 x3 X3 R3 B4 K3
  go_loopw [13] (fun i wr=>∃ (j:Nat),i=.int .i64 j∧j≤f.terms.length∧RowK G N (upB t N j) wr∧But (fun k=>k=G) W2 wr) (fun i _=>f.terms.length - (intOf i).toNat)
  case atStart=>exact ⟨0,rfl,Nat.zero_le _,HR3.out,But.refl _ _⟩
  case round =>
  clear HR3
  obtain ⟨j,rfl,hj,R,hb⟩:=hrel
  obtain ⟨d0,d1,d2,d3,d4⟩:=HN.out _ hb
  by_cases hlt:j<f.terms.length
  · have c1:=R.cell (i:=j) (by omega)
    have fz:=R.frozen j
    have HF:Hid (RowK G N (upB t N (j+1)) (wr.setCell ⟨G,j,none⟩ (.bool t))∧But (fun k=>k=G) W2 (wr.setCell ⟨G,j,none⟩ (.bool t))):=⟨by rw [← upB_set]; exact R.set j t,hb.setCell _ _ (.inr rfl)⟩
    generalize onb (upB t N j) j=o at *
    clear R hb d4
    go_wp2_with fail
    exact ⟨⟨j+1,by go_num,by omega,HF.out.1,HF.out.2⟩,by simp [intOf]; omega⟩
  · obtain rfl:j=f.terms.length:=by omega
    have HC:=HSET.out wr G w2.heap.size (upB t N f.terms.length) (HFL.out _ d4) R d3 hGw d4 (fun s hs=>.base ⟨(upB_on.1 hs).2.1,(upB_on.1 hs).2.2⟩) (fun s hs=>upB_on.2 ⟨by omega,hs.1,hs.2⟩)
    clear HSET HFL HN R hb
    go_wp2_with fail
    refine HC.mono ?_
    rintro e w3 ⟨⟨v,rfl⟩,g1,L',g2,g3,g4⟩
    have HF:Hid (RowK G N L' w3∧GivesB (fun s=>t=true∧s<f.terms.length) f.gr N L'∧Below w.heap.size w w3):=⟨g2,g3,g4⟩
    clear g2 g3 g4 HC d0 d1 d2 d3 d4
    go_wp2_with fail
    go_ret
    exact ⟨G,L',rfl,hGw,HF.out.1,HF.out.2.1,HF.out.2.2⟩
end Go.Proofs.YtiamjafecbpfpaaGreatDoor
namespace Go.Proofs.YtiamjafecbpfpaaGreatDoor
open Go.RowKit Go.Shelf
shelf_lay Lays7.n29 Nm7 29 at Tryz as Tryz.tz64
def Tb (W:World):Prop:=TabAt 0 Lib.deBruijn64tab W∧0<W.heap.size
theorem Tb.next {W W':World} (h:Tb W) (hb:Below W.heap.size W W'):Tb W':=⟨fun j hj=>(hb.cell (p:=⟨0,j,none⟩) h.2).trans (h.1 j hj),Nat.lt_of_lt_of_le h.2 hb.size⟩
theorem tz_any (x:Nat) (hx:W64 x) (w:World) (h:Tb w):Calls Tryz.prog 116 #[.int .u64 x] w fun e w'=>e=.returned (.int .i64 (Lib.ctz 64 x))∧w'=w :=
  Any7.bits_TrailingZeros64 Tryz.tz64 x hx w (fun _=>h.1)
set_option maxRecDepth 100000 in
set_option maxHeartbeats 2000000 in
theorem list_any (s:List Nat) (b m:Nat) (w:World) (hs:SetB b m s w) (hm:m≤20) (hT:Tb w) :
    Calls Tryz.prog 96 #[.slice (some ⟨b,0,none⟩) m m] w fun e w'=>∃ v,e=.returned v∧Own1 3 encI w.heap.size (listW s) v w'∧Below w.heap.size w w':=by
  obtain ⟨i0,hi0,hz0,hz1,hz2⟩:=info_parts info3
  have hlen:s.length=m:=hs.2.1
  have HL:Hid (listW s=listTo m s):=by show _=_; unfold listW; rw [hlen]
  have HSL:Hid (∀ j,(listTo j s).length≤64 * j):=fun j=>listTo_length j s
  have HTS:Hid (∀ j,listTo (j+1) s=listTo j s++lowBits j (wOf s j)):=fun j=>listTo_succ j s
  have HSB:Hid (∀ W,Below w.heap.size w W→SetB b m s W):=fun W hb=>hs.but (But.of_below hb) (by have:=hs.lt; omega)
  have HTB:Hid (∀ W,Below w.heap.size w W→Tb W):=fun W hb=>hT.next hb
  have HW:Hid (∀ j,W64 (wOf s j)):=fun j=>hs.2.at j
  clear hs hT hlen
  go_enter Tryz.func96,Tryz.ntmps96
  go_wp2_with fail
  go_loopw [3,8] (fun l i wr=>∃ (j:Nat),i=.int .i64 j∧j≤m∧Own1 3 encI w.heap.size (listTo j s) l wr∧Below w.heap.size w wr) (fun _ i _=>m - (intOf i).toNat)
  case atStart=>exact ⟨0,rfl,Nat.zero_le _,by rw [listTo_zero]; exact Own1.nil _ _ _ _,Below.refl _ _⟩
  case round =>
    obtain ⟨j,rfl,hj,hO,hB⟩:=hrel
    by_cases hlt:j<m
    · have c1:=(HSB.out _ hB).cell hlt
      have HO:Hid (Own1 3 encI w.heap.size (listTo j s) u3 wr):=hO
      have HXW:Hid (W64 (wOf s j)):=HW.out j
      have HT1:=HTS.out j
      have hsl:=HSL.out j
      clear hO
      generalize wOf s j=x at *
      generalize listTo j s=L0 at *
      go_wp2_with fail
      go_loopg [3,5] x (fun gx l wd wq=>∃ (y:Nat) (L:List Int),gx=y∧wd=.int .u64 y∧W64 y∧L.length≤64 * j+64∧L0++lowBits j x=L++lowBits j y∧Own1 3 encI w.heap.size L l wq∧Below w.heap.size w wq)
      case atStart=>exact ⟨x,L0,rfl,rfl,HXW.out,by omega,rfl,HO.out,hB⟩
      case round =>
        clear HO hB c1
        obtain ⟨y,L,hgy,rfl,hy,hLl,hLe,hO,hB⟩:=hrel
        subst hgy
        obtain ⟨va,vc,rfl⟩:=slice_of_own hO
        have hown:wr.ownsRow w.heap.size 3 1 (.slice va L.length vc) L.length (L.map encI):=hO
        clear hO
        by_cases hy0:gk=0
        · subst hy0
          have HE:Hid (listTo (j+1) s=L):=by show _=_; rw [HT1,hLe,lowBits_zero,List.append_nil]
          have HO:Hid (Own1 3 encI w.heap.size L (.slice va L.length vc) wr):=hown
          clear HT1 hLe hown
          go_wp2_with fail
          exact ⟨⟨j+1,by go_num,by omega,by rw [HE.out]; exact HO.out,hB⟩,by simp [intOf]; omega⟩
        · obtain ⟨st,hct,hy2,hlt2⟩:=lowBits_step (b:=j) hy hy0
          rw [st] at hLe
          have HLE:Hid (L0++lowBits j x=(L++[((64 * j+Lib.ctz 64 gk:Nat):Int)])++lowBits j (gk &&& (gk - 1))):=by show _=_; rw [hLe]; simp
          have HLL:Hid ((L++[((64 * j+Lib.ctz 64 gk:Nat):Int)]).length≤64 * j+64):=by
            have e1:=congrArg List.length HLE.out
            have e2:=lowBits_length j x
            rw [List.length_append,List.length_append] at e1
            show _≤_
            omega
          have HCA:Hid (Calls Tryz.prog 116 #[.int .u64 gk] wr fun e w'=>e=.returned (.int .i64 (Lib.ctz 64 gk))∧w'=wr):=tz_any gk hy wr (HTB.out wr hB)
          have hne:(((gk:Nat):Int) != 0)=true:=by simp; omega
          have hsub:IntKind.u64.wrap ((gk:Int) - 1)=((gk - 1:Nat):Int):=by unfold W64 at hy; rw [IntKind.wrap_u64]; omega
          have hand:bits .and .u64 (gk:Int) ((gk - 1:Nat):Int)=((gk &&& (gk - 1):Nat):Int):=u64_and_nat gk (gk - 1) hy (by unfold W64 at hy; omega)
          have HY:Hid (W64 (gk &&& (gk - 1))∧gk &&& (gk - 1)<gk):=⟨hy2,hlt2⟩
          generalize gk &&& (gk - 1)=y2 at *
          have hle:L.length+1≤64 * j+64:=by have:=HLL.out; rwa [List.length_append] at this
          have hwm:((j:Int) * 64)=((64 * j:Nat):Int):=by omega
          have hwa:(((64 * j:Nat):Int)+(Lib.ctz 64 gk:Nat))=((64 * j+Lib.ctz 64 gk:Nat):Int):=by omega
          clear st hLe HT1 hy hy2 hlt2
          generalize Lib.ctz 64 gk=k at *
          go_wp2_with fail
          refine HCA.out.mono ?_
          rintro e w1 ⟨rfl,rfl⟩
          have hsz:=hB.size
          go_wp2_with (at_builtin; refine wpList_append_own _ rfl _ _ 39 rfl w.heap.size 3 i0 _ 1 8 Tryz.underlying39 hi0 hz0 hz1 hz2 rfl (by decide) _ L.length (L.map encI) rfl (World.ownsRow.alloc hown _) ⟨w1.heap.size,0,none⟩ 1 1 [encI (64 * (j:Int)+k)] rfl rfl (new_cell _ _ _) (by simp [encI]; rfl) (by unfold maxLen; omega) (by omega) (by simp; omega) ?_)
          intro v2 w2 hown2 hg2 _
          have B2:Below w.heap.size w w2:=(hB.alloc hsz _).grown hg2 (by simp; omega) (fun q e=>(World.ownsRow.lt hown q e).1)
          have HO2:Hid (Own1 3 encI w.heap.size (L++[((64 * j+k:Nat):Int)]) v2 w2):=by
            show w2.ownsRow _ _ _ _ _ _
            rw [List.length_append,List.map_append]
            push_cast
            simpa using hown2
          obtain ⟨a2,c2,rfl⟩:=slice_of_own hown2
          clear hown2 hg2 hown
          go_wp2_with fail
          go_roundg y2
          case measure=>exact HY.out.2
          case rel=>exact ⟨y2,_,rfl,rfl,HY.out.1,HLL.out,HLE.out,HO2.out,B2⟩
    · obtain rfl:j=m:=by omega
      go_wp2_with fail
      go_ret
      exact ⟨_,rfl,by rw [HL.out]; exact hO,hB⟩
end Go.Proofs.YtiamjafecbpfpaaGreatDoor
namespace Go.Proofs.YtiamjafecbpfpaaGreatDoor
open Go.RowKit
theorem symsN_all {N:Nat} {l:List It} (h:∀ x∈l,0≤x.sym∧x.sym<N):symsN N l=l.map fun x=>x.sym.toNat:=by
  unfold symsN
  rw [List.filter_eq_self.2]
  intro x hx
  have:=h x hx
  simp
  omega
def WR (R:List (List Nat)) (s:Nat):List Nat:=R.getD s []
theorem WR_set {R:List (List Nat)} {l s:Nat} {A:List Nat} (hl:l<R.length):WR (R.set l A) s=if l=s then A else WR R s:=by
  unfold WR
  rw [List.getD_eq_getElem?_getD,List.getD_eq_getElem?_getD,List.getElem?_set]
  split
  · rename_i h; subst h; simp
  · rfl
structure WOk (m N:Nat) (R:List (List Nat)):Prop where
  len:R.length=N
  words:∀ s,s<N→Words m (WR R s)
theorem WOk.set {m N R} (h:WOk m N R) {l:Nat} {A:List Nat} (hl:l<N) (hA:Words m A):WOk m N (R.set l A):=by
  refine ⟨by rw [List.length_set]; exact h.len,fun s hs=>?_⟩
  rw [WR_set (by rw [h.len]; exact hl)]
  split
  · exact hA
  · exact h.words s hs
def bulkW (R:List (List Nat)):Nat:=bulk (R.map listW)
theorem bulkW_set {R:List (List Nat)} {l:Nat} {A:List Nat} (hl:l<R.length):bulkW (R.set l A)+(listW (WR R l)).length=bulkW R+(listW A).length:=by
  unfold bulkW WR
  rw [List.map_set]
  have:=bulk_set (R:=R.map listW) (s:=l) (l:=listW A) (by simpa using hl)
  rw [List.getElem_map] at this
  rw [List.getD_eq_getElem?_getD,List.getElem?_eq_getElem hl]
  exact this
theorem listW_length {m:Nat} {ws:List Nat} (h:Words m ws):(listW ws).length≤64 * m:=by
  have:=listTo_length ws.length ws
  rw [h.1] at this
  unfold listW
  rw [h.1]
  exact this
theorem bulkW_max {m N R} (h:WOk m N R):bulkW R≤N * (64 * m):=by
  have:=bulk_le (R:=R.map listW) (k:=64 * m) (fun l hl=>by
    obtain ⟨i,hi,rfl⟩:=List.getElem_of_mem hl
    rw [List.getElem_map]
    have hi':i<R.length:=by simpa using hi
    have:=h.words i (by rw [← h.len]; exact hi')
    unfold WR at this
    rw [List.getD_eq_getElem?_getD,List.getElem?_eq_getElem hi'] at this
    exact listW_length this)
  rw [List.length_map,h.len] at this
  exact this
def begW (F:Nat→List Nat) (E:Nat→Bool):List Nat→List Nat→List Nat × Bool × Bool
  | A,[]=>(A,false,true)
  | A,x :: xs=>if E x then ((begW F E (orW A (F x)) xs).1,newW A (F x) || (begW F E (orW A (F x)) xs).2.1,(begW F E (orW A (F x)) xs).2.2) else (orW A (F x),newW A (F x),false)
theorem begW_words {F E m}:∀ {sy:List Nat} {A:List Nat},Words m A→(∀ x∈sy,Words m (F x))→Words m (begW F E A sy).1
  | [],A,h,_=>h
  | x :: xs,A,h,hF=>by
    have h1:=h.or (hF x (by simp))
    rw [begW]
    split
    · exact begW_words h1 (fun y hy=>hF y (by simp [hy]))
    · exact h1
theorem begW_mem {F E m}:∀ {sy:List Nat} {A:List Nat},Words m A→(∀ x∈sy,Words m (F x))→∀ t,t∈listW (begW F E A sy).1↔t∈listW A∨Beg (fun x=>E x=true) (fun x t=>t∈listW (F x)) (fun _=>False) sy t
  | [],A,_,_=>fun t=>by
    rw [begW]
    constructor
    · exact .inl
    · rintro (h | h)
      · exact h
      · cases h with | behind h=>exact h.elim
  | x :: xs,A,h,hF=>fun t=>by
    have h1:=h.or (hF x (by simp))
    have e:t∈listW (orW A (F x))↔t∈listW A∨t∈listW (F x):=by rw [listW_or h (hF x (by simp)),mem_unionL]
    rw [begW]
    split
    · rename_i hE
      simp only
      rw [begW_mem h1 (fun y hy=>hF y (by simp [hy])),e]
      constructor
      · rintro ((h | h) | h)
        · exact .inl h
        · exact .inr (.here h)
        · exact .inr (.next hE h)
      · rintro (h | h)
        · exact .inl (.inl h)
        · cases h with
          | here h=>exact .inl (.inr h)
          | next _ h=>exact .inr h
    · rename_i hE
      simp only
      rw [e]
      constructor
      · rintro (h | h)
        · exact .inl h
        · exact .inr (.here h)
      · rintro (h | h)
        · exact .inl h
        · cases h with
          | here h=>exact .inr h
          | next hE' _=>exact absurd hE' hE
theorem begW_no {F E}:∀ {sy:List Nat} {A:List Nat},(begW F E A sy).2.1=false→(begW F E A sy).1=A
  | [],A,_=>by rw [begW]
  | x :: xs,A,h=>by
    rw [begW] at h ⊢
    split
    · rename_i hE
      rw [if_pos hE] at h
      simp only [Bool.or_eq_false_iff] at h
      have e:=newW_false h.1
      simp only
      rw [e] at h ⊢
      exact begW_no h.2
    · rename_i hE
      rw [if_neg hE] at h
      exact newW_false h
theorem begW_len {F E m}:∀ {sy:List Nat} {A:List Nat},Words m A→(∀ x∈sy,Words m (F x))→(listW A).length≤(listW (begW F E A sy).1).length∧((begW F E A sy).2.1=true→(listW A).length<(listW (begW F E A sy).1).length)
  | [],A,_,_=>by rw [begW]; exact ⟨Nat.le_refl _,fun h=>by cases h⟩
  | x :: xs,A,h,hF=>by
    have hx:=hF x (by simp)
    have h1:=h.or hx
    have e1:(listW A).length≤(listW (orW A (F x))).length:=by rw [listW_or h hx]; exact (length_unionL _ _).1
    have e2:newW A (F x)=true→(listW A).length<(listW (orW A (F x))).length:=fun hn=>by
      rw [newW_iff h hx,decide_eq_true_eq] at hn
      rw [listW_or h hx]; exact hn
    have ih:=begW_len (E:=E) (sy:=xs) h1 (fun y hy=>hF y (List.mem_cons_of_mem _ hy))
    rw [begW]
    split
    · simp only [Bool.or_eq_true]
      refine ⟨by omega,fun h=>?_⟩
      rcases h with h | h
      · have:=e2 h; omega
      · have:=ih.2 h; omega
    · exact ⟨e1,e2⟩
theorem within_orW {m:Nat} {A B:List Nat} (hA:Words m A) (hB:Words m B) (h:∀ t,t∈listW B→t∈listW A):newW A B=false∧orW A B=A:=by
  have e:newW A B=false:=by
    rw [newW_iff hA hB,decide_eq_false_iff_not,unionL_of_sub (rising_listW A) h]
    omega
  exact ⟨e,newW_false e⟩
structure StW (f:Fl) (m:Nat) (R:List (List Nat)):Prop where
  ok:WOk m f.n R
  sound:∀ s,s<f.n→∀ t,t∈listW (WR R s)→FstP f s t
  basic:∀ t:Nat,t<f.terms.length→(t:Int)∈listW (WR R t)
def ClosF (f:Fl) (R:List (List Nat)) (q:Nat × List Nat):Prop:=∀ pre x post,q.2=pre++x :: post→(∀ y∈pre,EmpP f y)→∀ t,t∈listW (WR R x)→t∈listW (WR R q.1)
theorem beg_split {emp:Nat→Prop} {fst:Nat→Int→Prop} {sy:List Nat} {t:Int} (h:Beg emp fst (fun _=>False) sy t):∃ pre x post,sy=pre++x :: post∧(∀ y∈pre,emp y)∧fst x t:=by
  induction h with
  | here h=>exact ⟨[],_,_,rfl,by simp,h⟩
  | next he _ ih =>
    obtain ⟨pre,x,post,rfl,h1,h2⟩:=ih
    exact ⟨_ :: pre,x,post,rfl,fun y hy=>by rcases List.mem_cons.1 hy with rfl | hy; exact he; exact h1 y hy,h2⟩
  | behind h=>exact h.elim
theorem beg_join {emp:Nat→Prop} {fst:Nat→Int→Prop} {pre:List Nat} {x:Nat} {post:List Nat} {t:Int} (h1:∀ y∈pre,emp y) (h2:fst x t):Beg emp fst (fun _=>False) (pre++x :: post) t:=by
  induction pre with
  | nil=>exact .here h2
  | cons y ys ih=>exact .next (h1 y (by simp)) (ih (fun z hz=>h1 z (by simp [hz])))
theorem StW.step {f:Fl} {m:Nat} {R:List (List Nat)} {E:Nat→Bool} {l:Nat} {sy:List Nat} (h:StW f m R) (hE:∀ s,s<f.n→(E s=true↔EmpP f s)) (hg:(l,sy)∈f.gr) (hl:l<f.n) (hsy:∀ x∈sy,x<f.n) :
    StW f m (R.set l (begW (WR R) E (WR R l) sy).1)∧((begW (WR R) E (WR R l) sy).2.1=true→bulkW R<bulkW (R.set l (begW (WR R) E (WR R l) sy).1))∧((begW (WR R) E (WR R l) sy).2.1=false→R.set l (begW (WR R) E (WR R l) sy).1=R∧ClosF f R (l,sy)):=by
  have hw:=h.ok.words l hl
  have hF:∀ x∈sy,Words m (WR R x):=fun x hx=>h.ok.words x (hsy x hx)
  have hlR:l<R.length:=by rw [h.ok.len]; exact hl
  have hA:=begW_words (E:=E) hw hF
  have hb:=begW_mem (E:=E) hw hF
  have hlen:=begW_len (E:=E) hw hF
  have hno:=begW_no (F:=WR R) (E:=E) (sy:=sy) (A:=WR R l)
  generalize begW (WR R) E (WR R l) sy=r at *
  have hbk:=bulkW_set (R:=R) (l:=l) (A:=r.1) hlR
  refine ⟨⟨h.ok.set hl hA,fun s hs t ht=>?_,fun t ht=>?_⟩,fun hb'=>?_,fun hb'=>?_⟩
  · rw [WR_set hlR] at ht
    split at ht
    · rename_i e
      subst e
      rcases (hb t).1 ht with ht | ht
      · exact h.sound l hl t ht
      · obtain ⟨pre,x,post,rfl,h1,h2⟩:=beg_split ht
        exact .prod hg (fun y hy=>(hE y (hsy y (by simp [hy]))).1 (h1 y hy)) (h.sound x (hsy x (by simp)) t h2)
    · exact h.sound s hs t ht
  · rw [WR_set hlR]
    split
    · rename_i e
      subst e
      exact (hb _).2 (.inl (h.basic _ ht))
    · exact h.basic t ht
  · have:=hlen.2 hb'; omega
  · have e:=hno hb'
    refine ⟨?_,fun pre x post hp he t ht=>?_⟩
    · rw [e]
      apply List.ext_getElem (by simp)
      intro i h1 h2
      rw [List.getElem_set]
      split
      · rename_i hi; subst hi; unfold WR; rw [List.getD_eq_getElem?_getD,List.getElem?_eq_getElem h2]; rfl
      · rfl
    · simp only at hp ⊢
      rw [← e]
      refine (hb t).2 (.inr ?_)
      rw [hp]
      exact beg_join (fun y hy=>(hE y (hsy y (by rw [hp]; simp [hy]))).2 (he y hy)) ht
theorem StW.done {f:Fl} {m:Nat} {R:List (List Nat)} (h:StW f m R) (hc:∀ q∈f.gr,ClosF f R q) {s:Nat} {t:Int} (hf:FstP f s t):t∈listW (WR R s):=by
  induction hf with
  | term ht=>exact h.basic _ ht
  | prod hm he _ ih=>exact hc _ hm _ _ _ rfl he _ ih
theorem StW.gives {f:Fl} {m:Nat} {R:List (List Nat)} (h:StW f m R) (hc:∀ q∈f.gr,ClosF f R q):GivesR (FstP f) f.n (R.map listW):=by
  refine ⟨by rw [List.length_map]; exact h.ok.len,fun l hl=>?_,fun s hs t=>?_⟩
  · obtain ⟨ws,_,rfl⟩:=List.mem_map.1 hl
    exact rising_listW ws
  · have hs':s<R.length:=by rw [h.ok.len]; exact hs
    rw [inR_get (by simpa using hs'),List.getElem_map]
    have e:WR R s=R[s]:=by unfold WR; rw [List.getD_eq_getElem?_getD,List.getElem?_eq_getElem hs']; rfl
    rw [← e]
    exact ⟨h.sound s hs t,fun hf=>h.done hc hf⟩
def putsTo (m N j:Nat):List (List Nat):=(List.range N).map fun s=>if s<j then putW (List.replicate m 0) s else List.replicate m 0
theorem putsTo_len (m N j:Nat):(putsTo m N j).length=N:=by simp [putsTo]
theorem putsTo_get {m N j s:Nat} (hs:s<N):WR (putsTo m N j) s=if s<j then putW (List.replicate m 0) s else List.replicate m 0:=by
  unfold WR putsTo
  rw [List.getD_eq_getElem?_getD,List.getElem?_map,List.getElem?_range hs]
  rfl
theorem putsTo_zero (m N:Nat):putsTo m N 0=List.replicate N (List.replicate m 0):=by
  unfold putsTo
  apply List.ext_getElem (by simp)
  intro i h1 h2
  simp
theorem putsTo_succ {m N j:Nat}:putsTo m N (j+1)=(putsTo m N j).set j (putW (List.replicate m 0) j):=by
  unfold putsTo
  apply List.ext_getElem (by simp)
  intro i h1 h2
  rw [List.getElem_set]
  simp only [List.getElem_map,List.getElem_range]
  split
  · rename_i h
    split
    · rename_i e; subst e; rfl
    · rename_i e; rw [if_pos (by omega)]
  · rename_i h
    rw [if_neg (by omega),if_neg (by omega)]
theorem putsTo_ok {f:Fl}:StW f (f.terms.length / 64+1) (putsTo (f.terms.length / 64+1) f.n f.terms.length):=by
  generalize hM:f.terms.length / 64+1=m at *
  have hl:∀ s,s<f.terms.length→listW (putW (List.replicate m 0) s)=[(s:Int)]:=fun s hs=>by
    rw [listW_put (by rw [List.length_replicate]; omega),listW_zero]
    rfl
  refine ⟨⟨putsTo_len _ _ _,fun s hs=>?_⟩,fun s hs t ht=>?_,fun t ht=>?_⟩
  · rw [putsTo_get hs]
    split
    · exact (words_zero m).put s
    · exact words_zero m
  · rw [putsTo_get hs] at ht
    split at ht
    · rename_i h
      rw [hl s h] at ht
      simp at ht
      subst ht
      exact .term h
    · rw [listW_zero] at ht; cases ht
  · rw [putsTo_get (by unfold Fl.n; omega),if_pos ht,hl t ht]
    simp
def slS (m b:Nat):Value:=.slice (some ⟨b,0,none⟩) m m
structure SetsB (G m:Nat) (bs:List Nat) (R:List (List Nat)) (W:World):Prop where
  row:W.heap[G]?=some (Obj.cells (bs.map (slS m)).toArray 176 (0,0))
  len:bs.length=R.length
  nodup:bs.Nodup
  out:G ∉ bs
  each:∀ s,s<R.length→SetB (bs.getD s 0) m (WR R s) W
theorem block_cell {W:World} {G i:Nat} {cs:List Value} {t:TypeId} {v:Value} (h:W.heap[G]?=some (Obj.cells cs.toArray t (0,0))) (hi:cs[i]?=some v):W.cell? ⟨G,i,none⟩=some v:=by
  simp [World.cell?,h,hi]
theorem block_free {W:World} {G i:Nat} {cs:List Value} {t:TypeId} (h:W.heap[G]?=some (Obj.cells cs.toArray t (0,0))):W.frozen? ⟨G,i,none⟩=false:=by
  simp [World.frozen?,h]
structure NsI (N G m:Nat) (w1:World) (bs:List Nat) (W:World):Prop where
  row:W.heap[G]?=some (Obj.cells (bs.map (slS m)++List.replicate (N - bs.length) (Value.slice none 0 0)).toArray 176 (0,0))
  nodup:bs.Nodup
  out:∀ b∈bs,G<b
  each:∀ b∈bs,SetB b m (List.replicate m 0) W
  below:Below G w1 W
theorem NsI.cell {N G m w1 bs W} (h:NsI N G m w1 bs W) (hj:bs.length<N):W.cell? ⟨G,bs.length,none⟩=some (.slice none 0 0):=by
  refine block_cell h.row ?_
  rw [List.getElem?_append_right (by simp),List.length_map,Nat.sub_self,List.getElem?_replicate]
  simp; omega
theorem NsI.step {N G m w1 bs W W' b} (h:NsI N G m w1 bs W) (hj:bs.length<N) (hb:Below W.heap.size W W') (hG:G<W.heap.size) (hbl:W.heap.size≤b) (hs:SetB b m (List.replicate m 0) W'):NsI N G m w1 (bs++[b]) (W'.setCell ⟨G,bs.length,none⟩ (slS m b)):=by
  have hlt:∀ c∈bs,c<W.heap.size:=fun c hc=>(h.each c hc).lt
  have r1:=(hb.block G hG).trans h.row
  refine ⟨?_,?_,?_,?_,?_⟩
  · refine (block_set _ r1).trans ?_
    congr 2
    rw [List.setIfInBounds_toArray]
    congr 1
    rw [List.set_append_right _ _ (by simp)]
    simp only [List.length_map,Nat.sub_self,List.length_append,List.length_singleton,List.map_append,List.map_cons,List.map_nil,List.append_assoc]
    congr 1
    obtain ⟨d,hd⟩:∃ d,N - bs.length=d+1:=⟨N - bs.length - 1,by omega⟩
    rw [hd,show N - (bs.length+1)=d by omega,List.replicate_succ]
    rfl
  · rw [List.nodup_append]
    refine ⟨h.nodup,by simp,fun x hx y hy=>?_⟩
    simp at hy
    subst hy
    have:=hlt x hx
    omega
  · intro c hc
    rcases List.mem_append.1 hc with hc | hc
    · exact h.out c hc
    · simp at hc; omega
  · intro c hc
    rcases List.mem_append.1 hc with hc | hc
    · have h1:=h.each c hc
      have h2:=h.out c hc
      exact ⟨(Below.heap_setCell W' ⟨G,bs.length,none⟩ _ c (by simp only; omega)).trans ((hb.block c h1.lt).trans h1.1),h1.2⟩
    · simp at hc
      subst hc
      exact ⟨(Below.heap_setCell W' ⟨G,bs.length,none⟩ _ c (by simp only; omega)).trans hs.1,hs.2⟩
  · exact (h.below.trans (hb.mono (Nat.le_of_lt hG))).setCell (p:=⟨G,bs.length,none⟩) (Nat.le_refl _) _
theorem NsI.done {N G m w1 bs W} (h:NsI N G m w1 bs W) (hN:bs.length=N):SetsB G m bs (List.replicate N (List.replicate m 0)) W:=by
  refine ⟨?_,by simp [hN],h.nodup,fun hG=>by have:=h.out G hG; omega,fun s hs=>?_⟩
  · have:=h.row
    rw [hN,Nat.sub_self] at this
    simpa using this
  · have hs':s<N:=by simpa using hs
    have e:WR (List.replicate N (List.replicate m 0)) s=List.replicate m 0:=by
      unfold WR
      rw [List.getD_eq_getElem?_getD,List.getElem?_replicate,if_pos hs']
      rfl
    have hl:s<bs.length:=by omega
    rw [e,List.getD_eq_getElem?_getD,List.getElem?_eq_getElem hl]
    exact h.each _ (List.getElem_mem hl)
set_option maxRecDepth 100000 in
set_option maxHeartbeats 1000000 in
theorem newSets_any (f:Fl) (a:FlA) (w:World) (hp:FitP f) :
    Calls Tryz.prog 97 #[a.val f] w fun e w'=>∃ G bs,e=.returned (.slice (some ⟨G,0,none⟩) f.n f.n)∧w.heap.size≤G∧(∀ b∈bs,w.heap.size≤b)∧SetsB G (f.terms.length / 64+1) bs (List.replicate f.n (List.replicate (f.terms.length / 64+1) 0)) w'∧Below w.heap.size w w':=by
  have hn:f.n≤600:=hp.size
  have hS:=fun W=>symbols_any f a W hn
  have hNS:=fun W=>newSet_any f a W hn
  obtain ⟨i0,hi0,hz0,hz1,hz2⟩:=info_parts info61
  have X0:=FBox.new f a 50 w
  have B0:Below w.heap.size w (w.alloc (fobj f a 50)):=(Below.refl _ _).alloc (Nat.le_refl _) _
  obtain ⟨ta,tc,na,nc,pa,pc⟩:=a
  unfold fobj at X0 B0
  unfold FlA.val at hS hNS ⊢
  simp only at *
  generalize f.terms.length / 64+1=m at *
  have HS:Hid (∀ W,Calls Tryz.prog 88 #[.agg #[Value.slice ta f.terms.length tc,Value.slice na f.nons.length nc,Value.slice pa f.prods.length pc]] W fun e w'=>e=.returned (.int .i64 f.n)∧Below W.heap.size W w'):=hS
  have HNS:Hid (∀ W,Calls Tryz.prog 117 #[.agg #[Value.slice ta f.terms.length tc,Value.slice na f.nons.length nc,Value.slice pa f.prods.length pc]] W fun e w'=>∃ b,e=.returned (.slice (some ⟨b,0,none⟩) m m)∧W.heap.size≤b∧SetB b m (List.replicate m 0) w'∧Below W.heap.size W w'):=hNS
  clear hS hNS
  obtain ⟨N,hN⟩:∃ N,f.n=N:=⟨_,rfl⟩
  rw [hN] at hn HS ⊢
  clear hN hp
  go_enter Tryz.func97,Tryz.ntmps97
  go_wp2_with fail
  generalize (w.alloc (Obj.cells #[Value.slice ta f.terms.length tc,Value.slice na f.nons.length nc,Value.slice pa f.prods.length pc] 50))=W1 at *
  refine (HS.out _).mono ?_
  rintro e w1 ⟨rfl,hb1⟩
  have X1:=X0.next hb1
  have B1:=below_then B0 hb1 B0.size
  clear X0 B0 hb1 HS
  go_wp2_with (at_make; refine wpList_make_full _ rfl _ _ 153 rfl w1.heap.size 176 i0 _ 1 Tryz.underlying153 hi0 hz0 hz1 _ _ _ _ N rfl rfl rfl rfl (by rw [hz2]; omega) (by unfold maxLen; omega) (Nat.le_refl _) ?_)
  intro w2 hown hg2
  have hown':w2.ownsRow w1.heap.size 176 1 (.slice (some ⟨w1.heap.size,0,none⟩) N N) N (madeCells #[Value.slice none 0 0] N).toList:=by simpa using hown
  have R0:NsI N w1.heap.size m w1 [] w2:=by
    refine ⟨?_,List.nodup_nil,by simp,by simp,(Below.refl _ _).grown hg2 (Nat.le_refl _) (fun k e=>by cases e)⟩
    obtain ⟨_,h2⟩:=hown'
    rcases h2 with ⟨h2,_⟩ | ⟨g',cap,cur,hv,hB,hg,hc,hm,hz,hx⟩
    · cases h2
    · cases hv
      rw [hg]
      have e:cur.toList=List.replicate N (.slice none 0 0):=by
        rw [Nat.mul_one] at hx hz
        rw [List.take_of_length_le (by simp [hz])] at hx
        rw [hx,toList_madeCells_one]
      rw [show (List.map (slS m) []++List.replicate (N - ([]:List Nat).length) (Value.slice none 0 0))=List.replicate N (Value.slice none 0 0) by simp,← e]
  have hGw:w.heap.size≤w1.heap.size:=B1.size
  have hXl:=X1.1
  obtain ⟨G,hG⟩:∃ G,w1.heap.size=G:=⟨_,rfl⟩
  have HX:Hid (∀ W,Below G w1 W→FBox f ⟨ta,tc,na,nc,pa,pc⟩ w.heap.size W):=fun W hb=>X1.next (by rw [hG]; exact hb)
  have HB:Hid (∀ W,Below G w1 W→Below w.heap.size w W):=fun W hb=>below_then B1 (by rw [hG]; exact hb) B1.size
  have HR0:Hid (NsI N G m w1 [] w2):=by rw [← hG]; exact R0
  have HGL:Hid (∀ W,Below G w1 W→G≤W.heap.size):=fun W hb=>by have:=hb.size; omega
  rw [hG] at hGw hXl ⊢
  clear hown hown' hg2 R0 X1 B1 hG
  go_wp2_with fail
  go_loopw [10] (fun i wr=>∃ (bs:List Nat),i=.int .i64 bs.length∧bs.length≤N∧NsI N G m w1 bs wr) (fun i _=>N - (intOf i).toNat)
  case atStart=>exact ⟨[],rfl,Nat.zero_le _,HR0.out⟩
  case round =>
  clear HR0
  obtain ⟨bs,rfl,hj,R⟩:=hrel
  obtain ⟨x0,x1,x2,x3⟩:=HX.out _ R.below
  simp only at x1 x2 x3
  have hGl:G<wr.heap.size:=(Array.getElem?_eq_some_iff.1 R.row).1
  by_cases hlt:bs.length<N
  · have HST:=fun W' b hb hbl hs=>R.step (W':=W') (b:=b) hlt hb hGl hbl hs
    have HC:=HNS.out wr
    have hcl:=R.cell hlt
    have hfr:wr.frozen? ⟨G,bs.length,none⟩=false:=block_free R.row
    have HST':Hid (∀ W' b,Below wr.heap.size wr W'→wr.heap.size≤b→SetB b m (List.replicate m 0) W'→NsI N G m w1 (bs++[b]) (W'.setCell ⟨G,bs.length,none⟩ (slS m b))):=HST
    have HC':Hid (Calls Tryz.prog 117 #[.agg #[Value.slice ta f.terms.length tc,Value.slice na f.nons.length nc,Value.slice pa f.prods.length pc]] wr fun e w'=>∃ b,e=.returned (.slice (some ⟨b,0,none⟩) m m)∧wr.heap.size≤b∧SetB b m (List.replicate m 0) w'∧Below wr.heap.size wr w'):=HC
    clear HST HC R
    go_wp2_with fail
    refine HC'.out.mono ?_
    rintro e w3 ⟨b,rfl,hbl,hs,hb3⟩
    have HF:Hid (NsI N G m w1 (bs++[b]) (w3.setCell ⟨G,bs.length,none⟩ (.slice (some ⟨b,0,none⟩) m m))):=HST'.out w3 b hb3 hbl hs
    have c3:=(hb3.cell (p:=⟨G,bs.length,none⟩) hGl).trans hcl
    have f3:=(hb3.frozen (p:=⟨G,bs.length,none⟩) hGl).trans hfr
    clear HST' HC' hs hb3 hcl hfr x0 x1 x2 x3
    go_wp2_with fail
    exact ⟨⟨bs++[b],by simp,by simp; omega,HF.out⟩,by simp [intOf]; omega⟩
  · have hN':bs.length=N:=by omega
    have HF:Hid (SetsB G m bs (List.replicate N (List.replicate m 0)) wr∧(∀ b∈bs,G<b)∧Below w.heap.size w wr):=⟨R.done hN',R.out,HB.out _ R.below⟩
    clear R
    go_wp2_with fail
    go_ret
    exact ⟨G,bs,rfl,hGw,fun b hb=>by have:=HF.out.2.1 b hb; omega,HF.out.1,HF.out.2.2⟩
end Go.Proofs.YtiamjafecbpfpaaGreatDoor
