import Derived.Test.YtiamjafecbpfpaaGreatDoorJ01
import Derived.Test.YtiamjafecbpfpaaGreatDoorJ02
import Derived.Lib.Builder
import Derived.Laws.StructEq
import Derived.Deep.Onto
import Derived.Deep.Upon
import Derived.Recover

namespace Go.Proofs.YtiamjafecbpfpaaGreatDoor
open Go.RowKit
structure Wr where
  bs:List UInt8
  bad:Bool
structure WsAt (B g:Nat) (L:List Wr) (W:World):Prop where
  hB:B≤g
  blk:∃ cs:Array Value,W.heap[g]?=some (.cells cs 71 (0,0))∧cs.size=L.length * 3
  ptr:∀ i x,L[i]?=some x→W.cell? ⟨g,i * 3,none⟩=some (.pointer none)∨W.cell? ⟨g,i * 3,none⟩=some (.pointer (some ⟨g,i * 3,none⟩))
  buf:∀ i x,L[i]?=some x→∃ v,W.cell? ⟨g,i * 3+1,none⟩=some v∧OwnB B x.bs v W
  bad:∀ i x,L[i]?=some x→W.cell? ⟨g,i * 3+2,none⟩=some (.bool x.bad)
  nil:∀ i x v,L[i]?=some x→x.bs=[]→W.cell? ⟨g,i * 3+1,none⟩=some v→v=.slice none 0 0
  apart:∀ i j u v k,i≠j→W.cell? ⟨g,i * 3+1,none⟩=some u→W.cell? ⟨g,j * 3+1,none⟩=some v→u.ownBlock=some k→v.ownBlock=some k→False
def inW (g:Nat) (W:World) (k:Nat):Prop:=k=g∨∃ i v,W.cell? ⟨g,i * 3+1,none⟩=some v∧v.ownBlock=some k
def Wrote (g:Nat) (W W':World):Prop:=But (inW g W) W W'∧∀ k,inW g W' k→inW g W k∨W.heap.size≤k
theorem Wrote.refl (g:Nat) (W:World):Wrote g W W:=⟨But.refl _ _,fun _ h=>.inl h⟩
theorem Wrote.trans {g:Nat} {a b c:World} (h:Wrote g a b) (k:Wrote g b c):Wrote g a c :=
  ⟨⟨k.1.os.trans h.1.os,k.1.tape.trans h.1.tape,k.1.output.trans h.1.output,Nat.le_trans h.1.size k.1.size,fun i hi hd=>(k.1.block i (Nat.lt_of_lt_of_le hi h.1.size) (fun hb=>(h.2 i hb).elim hd (by omega))).trans (h.1.block i hi hd)⟩,
   fun i hi=>(k.2 i hi).elim (h.2 i) (fun h'=>.inr (Nat.le_trans h.1.size h'))⟩
theorem inW_same {g:Nat} {W W':World} (h:W'.heap[g]?=W.heap[g]?) (k:Nat):inW g W' k↔inW g W k:=by
  unfold inW
  have e:∀ i,W'.cell? ⟨g,i * 3+1,none⟩=W.cell? ⟨g,i * 3+1,none⟩:=fun i=>World.cell?_of_block h
  simp only [e]
theorem ownsRow_keep {W W':World} {B n k:Nat} {e:TypeId} {v:Value} {xs:List Value} {D:Nat→Prop} (h:W.ownsRow B e k v n xs) (hb:But D W W') (hd:∀ j,v.ownBlock=some j→¬ D j):W'.ownsRow B e k v n xs:=by
  obtain ⟨h1,h2⟩:=h
  refine ⟨h1,?_⟩
  rcases h2 with ⟨rfl,hn⟩ | ⟨g,cap,cur,rfl,hB,hg,h3⟩
  · exact .inl ⟨rfl,hn⟩
  · exact .inr ⟨g,cap,cur,rfl,hB,(hb.block g (Array.getElem?_eq_some_iff.1 hg).1 (hd g rfl)).trans hg,h3⟩
theorem WsAt.lt {B g:Nat} {L:List Wr} {W:World} (h:WsAt B g L W):g<W.heap.size:=by
  obtain ⟨cs,hc,_⟩:=h.blk
  exact (Array.getElem?_eq_some_iff.1 hc).1
theorem WsAt.inLt {B g:Nat} {L:List Wr} {W:World} (h:WsAt B g L W) {k:Nat} (hk:inW g W k):B≤k∧k<W.heap.size:=by
  rcases hk with rfl | ⟨i,v,hv,hk⟩
  · exact ⟨h.hB,h.lt⟩
  · obtain ⟨cs,hc,hs⟩:=h.blk
    have hl:i<L.length:=by
      have e:=hv
      rw [Lib.cell_of_heap hc] at e
      have:=(Array.getElem?_eq_some_iff.1 e).1
      omega
    obtain ⟨u,hu,ho⟩:=h.buf i L[i] (by simp [hl])
    rw [hv] at hu
    cases hu
    exact World.ownsRow.lt ho k hk
theorem WsAt.keep {B g:Nat} {L:List Wr} {W W':World} {D:Nat→Prop} (h:WsAt B g L W) (hb:But D W W') (hd:∀ k,inW g W k→¬ D k):WsAt B g L W':=by
  have hg:W'.heap[g]?=W.heap[g]?:=hb.block g h.lt (hd g (.inl rfl))
  have e:∀ o,W'.cell? ⟨g,o,none⟩=W.cell? ⟨g,o,none⟩:=fun o=>World.cell?_of_block hg
  refine ⟨h.hB,by rw [hg]; exact h.blk,fun i x hx=>by rw [e]; exact h.ptr i x hx,fun i x hx=>?_,fun i x hx=>by rw [e]; exact h.bad i x hx,fun i x v hx hb hv=>by rw [e] at hv; exact h.nil i x v hx hb hv,fun i j u v k hij hu hv=>?_⟩
  · obtain ⟨v,hv,ho⟩:=h.buf i x hx
    exact ⟨v,by rw [e]; exact hv,ownsRow_keep ho hb (fun k hk=>hd k (.inr ⟨i,v,hv,hk⟩))⟩
  · rw [e] at hu hv; exact h.apart i j u v k hij hu hv
theorem WsAt.next {B g:Nat} {L:List Wr} {W W':World} (h:WsAt B g L W) (hb:Below W.heap.size W W'):WsAt B g L W' :=
  h.keep (D:=fun _=>False) (But.of_next hb) (fun _ _ h=>h)
theorem WsAt.wrote {B g:Nat} {L:List Wr} {W W':World} (h:WsAt B g L W) (hb:Below W.heap.size W W'):Wrote g W W' :=
  ⟨But.of_next hb,fun k hk=>.inl ((inW_same (hb.block g h.lt) k).1 hk)⟩
theorem WsAt.below {B g:Nat} {L:List Wr} {W W':World} (h:WsAt B g L W) (hw:Wrote g W W') (hB:B≤W.heap.size):Below B W W' :=
  hw.1.below hB (fun _ hk=>(h.inLt hk).1)
theorem cell_set_ne (W:World) (g o o':Nat) (v:Value) (h:o≠o'):(W.setCell ⟨g,o,none⟩ v).cell? ⟨g,o',none⟩=W.cell? ⟨g,o',none⟩:=by
  simp only [World.cell?,World.setCell,Array.getElem?_modify,if_true]
  cases W.heap[g]? with
  | none=>rfl
  | some ob=>cases ob <;> simp [h]
theorem blk_set {W:World} {g o:Nat} {cs:Array Value} {T:TypeId} (h:W.heap[g]?=some (.cells cs T (0,0))) (v:Value):(W.setCell ⟨g,o,none⟩ v).heap[g]?=some (.cells (cs.setIfInBounds o v) T (0,0)):=by
  simp [World.setCell,Array.getElem?_modify,h]
theorem cell_set_eq {W:World} {g o:Nat} {cs:Array Value} {T:TypeId} (h:W.heap[g]?=some (.cells cs T (0,0))) (ho:o<cs.size) (v:Value):(W.setCell ⟨g,o,none⟩ v).cell? ⟨g,o,none⟩=some v:=by
  rw [Lib.cell_of_heap (blk_set h v)]
  simp [ho]
theorem set_block (W:World) (g o k:Nat) (v:Value) (h:k≠g):(W.setCell ⟨g,o,none⟩ v).heap[k]?=W.heap[k]?:=by
  simp [World.setCell,Array.getElem?_modify,Ne.symm h]
theorem OwnB.set {B g o:Nat} {l:List UInt8} {v u:Value} {W:World} {cs:Array Value} (h:OwnB B l v W) (hg:W.heap[g]?=some (.cells cs 71 (0,0))):OwnB B l v (W.setCell ⟨g,o,none⟩ u):=by
  have hne:=Lib.ownBlock_ne h hg (by decide)
  exact ownsRow_keep (D:=fun k=>k=g) h ((But.refl _ W).setCell _ _ (.inr rfl)) (fun j hj e=>hne (by rw [hj,e]))
theorem WsAt.setPtr {B g i:Nat} {L:List Wr} {W:World} {x:Wr} (h:WsAt B g L W) (hx:L[i]?=some x) :
    WsAt B g L (W.setCell ⟨g,i * 3,none⟩ (.pointer (some ⟨g,i * 3,none⟩)))∧Wrote g W (W.setCell ⟨g,i * 3,none⟩ (.pointer (some ⟨g,i * 3,none⟩))):=by
  obtain ⟨cs,hc,hs⟩:=h.blk
  have hi:i<L.length:=(List.getElem?_eq_some_iff.1 hx).1
  refine ⟨⟨h.hB,⟨_,blk_set hc _,by simp [hs]⟩,fun j y hy=>?_,fun j y hy=>?_,fun j y hy=>?_,fun j y v hy hb hv=>by rw [cell_set_ne _ _ _ _ _ (by omega)] at hv; exact h.nil j y v hy hb hv,fun a b u v k hab hu hv=>?_⟩,(But.refl _ W).setCell _ _ (.inr (.inl rfl)),fun k hk=>.inl ?_⟩
  · by_cases hij:j=i
    · subst hij; exact .inr (cell_set_eq hc (by omega) _)
    · rw [cell_set_ne _ _ _ _ _ (by omega)]; exact h.ptr j y hy
  · obtain ⟨v,hv,ho⟩:=h.buf j y hy
    exact ⟨v,by rw [cell_set_ne _ _ _ _ _ (by omega)]; exact hv,ho.set hc⟩
  · rw [cell_set_ne _ _ _ _ _ (by omega)]; exact h.bad j y hy
  · rw [cell_set_ne _ _ _ _ _ (by omega)] at hu hv; exact h.apart a b u v k hab hu hv
  · rcases hk with rfl | ⟨j,v,hv,hk⟩
    · exact .inl rfl
    · rw [cell_set_ne _ _ _ _ _ (by omega)] at hv; exact .inr ⟨j,v,hv,hk⟩
theorem WsAt.setBad {B g i:Nat} {L:List Wr} {W:World} {x:Wr} (b:Bool) (h:WsAt B g L W) (hx:L[i]?=some x) :
    WsAt B g (L.set i ⟨x.bs,b⟩) (W.setCell ⟨g,i * 3+2,none⟩ (.bool b))∧Wrote g W (W.setCell ⟨g,i * 3+2,none⟩ (.bool b)):=by
  obtain ⟨cs,hc,hs⟩:=h.blk
  have hi:i<L.length:=(List.getElem?_eq_some_iff.1 hx).1
  have hg:∀ (j:Nat) (y:Wr),(L.set i ⟨x.bs,b⟩)[j]?=some y→(j=i∧y=⟨x.bs,b⟩)∨(j≠i∧L[j]?=some y):=fun j y hy=>by
    rw [List.getElem?_set] at hy
    by_cases hij:i=j
    · rw [if_pos hij,if_pos (by omega)] at hy; exact .inl ⟨hij.symm,by simpa using hy.symm⟩
    · rw [if_neg hij] at hy; exact .inr ⟨fun e=>hij e.symm,hy⟩
  refine ⟨⟨h.hB,⟨_,blk_set hc _,by simp [hs]⟩,fun j y hy=>?_,fun j y hy=>?_,fun j y hy=>?_,fun j y v hy hb hv=>?_,fun a c u v k hab hu hv=>?_⟩,(But.refl _ W).setCell _ _ (.inr (.inl rfl)),fun k hk=>.inl ?_⟩
  · rw [cell_set_ne _ _ _ _ _ (by omega)]
    rcases hg j y hy with ⟨rfl,rfl⟩ | ⟨_,hy'⟩
    · exact h.ptr _ x hx
    · exact h.ptr j y hy'
  · rw [cell_set_ne _ _ _ _ _ (by omega)]
    rcases hg j y hy with ⟨rfl,rfl⟩ | ⟨_,hy'⟩
    · obtain ⟨v,hv,ho⟩:=h.buf _ x hx
      exact ⟨v,hv,ho.set hc⟩
    · obtain ⟨v,hv,ho⟩:=h.buf j y hy'
      exact ⟨v,hv,ho.set hc⟩
  · rcases hg j y hy with ⟨rfl,rfl⟩ | ⟨hn,hy'⟩
    · exact cell_set_eq hc (by omega) _
    · rw [cell_set_ne _ _ _ _ _ (by omega)]; exact h.bad j y hy'
  · rw [cell_set_ne _ _ _ _ _ (by omega)] at hv
    rcases hg j y hy with ⟨rfl,rfl⟩ | ⟨_,hy'⟩
    · exact h.nil _ x v hx hb hv
    · exact h.nil j y v hy' hb hv
  · rw [cell_set_ne _ _ _ _ _ (by omega)] at hu hv; exact h.apart a c u v k hab hu hv
  · rcases hk with rfl | ⟨j,v,hv,hk⟩
    · exact .inl rfl
    · rw [cell_set_ne _ _ _ _ _ (by omega)] at hv; exact .inr ⟨j,v,hv,hk⟩
theorem WsAt.put {B g i:Nat} {L:List Wr} {W W1:World} {x:Wr} {v v':Value} {l:List UInt8} (h:WsAt B g L W) (hx:L[i]?=some x) (hv:W.cell? ⟨g,i * 3+1,none⟩=some v) (hgr:W.grownBy W1 v.ownBlock) (ho:OwnB B l v' W1)
    (hat:v'.ownBlock=v.ownBlock∨v'.ownBlock=some W.heap.size) (hl:l≠[]) :
    WsAt B g (L.set i ⟨l,x.bad⟩) (W1.setCell ⟨g,i * 3+1,none⟩ v')∧Wrote g W (W1.setCell ⟨g,i * 3+1,none⟩ v'):=by
  obtain ⟨cs,hc,hs⟩:=h.blk
  have hi:i<L.length:=(List.getElem?_eq_some_iff.1 hx).1
  obtain ⟨v0,hv0,ho0⟩:=h.buf i x hx
  obtain rfl:v=v0:=by rw [hv] at hv0; exact Option.some.inj hv0
  have hne:=Lib.ownBlock_ne ho0 hc (by decide)
  have hc1:W1.heap[g]?=some (.cells cs 71 (0,0)):=(hgr.block g h.lt (fun e=>hne e.symm)).trans hc
  have e1:∀ o,W1.cell? ⟨g,o,none⟩=W.cell? ⟨g,o,none⟩:=fun o=>World.cell?_of_block (hgr.block g h.lt (fun e=>hne e.symm))
  have hg:∀ (j:Nat) (y:Wr),(L.set i ⟨l,x.bad⟩)[j]?=some y→(j=i∧y=⟨l,x.bad⟩)∨(j≠i∧L[j]?=some y):=fun j y hy=>by
    rw [List.getElem?_set] at hy
    by_cases hij:i=j
    · rw [if_pos hij,if_pos (by omega)] at hy; exact .inl ⟨hij.symm,by simpa using hy.symm⟩
    · rw [if_neg hij] at hy; exact .inr ⟨fun e=>hij e.symm,hy⟩
  have hold:∀ (j:Nat) (u:Value) (k:Nat),W.cell? ⟨g,j * 3+1,none⟩=some u→u.ownBlock=some k→k<W.heap.size:=fun j u k hu hk=>(h.inLt (.inr ⟨j,u,hu,hk⟩)).2
  have hB1:But (inW g W) W (W1.setCell ⟨g,i * 3+1,none⟩ v'):=by
    refine But.setCell (D:=inW g W) ⟨hgr.os,hgr.tape,hgr.output,hgr.size,fun k hk hd=>hgr.block k hk (fun e=>hd (.inr ⟨i,v,hv,e.symm⟩))⟩ _ _ (.inr (.inl rfl))
  refine ⟨⟨h.hB,⟨_,blk_set hc1 _,by simp [hs]⟩,fun j y hy=>?_,fun j y hy=>?_,fun j y hy=>?_,fun j y q hy hb hq=>?_,fun a c p q k hab hu hv2 hp hq=>?_⟩,hB1,fun k hk=>?_⟩
  · rw [cell_set_ne _ _ _ _ _ (by omega),e1]
    rcases hg j y hy with ⟨rfl,rfl⟩ | ⟨_,hy'⟩
    · exact h.ptr _ x hx
    · exact h.ptr j y hy'
  · rcases hg j y hy with ⟨rfl,rfl⟩ | ⟨hn,hy'⟩
    · exact ⟨v',cell_set_eq hc1 (by omega) _,ho.set hc1⟩
    · obtain ⟨u,hu,hou⟩:=h.buf j y hy'
      refine ⟨u,by rw [cell_set_ne _ _ _ _ _ (by omega),e1]; exact hu,OwnB.set (World.ownsRow.kept hou hgr ?_) hc1⟩
      cases hub:u.ownBlock with
      | none=>exact .inl rfl
      | some k=>exact .inr (fun e=>h.apart i j v u k (fun e=>hn e.symm) hv hu e.symm hub)
  · rw [cell_set_ne _ _ _ _ _ (by omega),e1]
    rcases hg j y hy with ⟨rfl,rfl⟩ | ⟨_,hy'⟩
    · exact h.bad _ x hx
    · exact h.bad j y hy'
  · rcases hg j y hy with ⟨rfl,rfl⟩ | ⟨hn,hy'⟩
    · exact absurd hb hl
    · rw [cell_set_ne _ _ _ _ _ (by omega),e1] at hq
      exact h.nil j y q hy' hb hq
  · have hcase:∀ (a:Nat) (p:Value),(W1.setCell ⟨g,i * 3+1,none⟩ v').cell? ⟨g,a * 3+1,none⟩=some p→(a=i∧p=v')∨(a≠i∧W.cell? ⟨g,a * 3+1,none⟩=some p):=fun a p ha=>by
      by_cases hai:a=i
      · subst hai
        rw [cell_set_eq hc1 (by omega)] at ha
        exact .inl ⟨rfl,(Option.some.inj ha).symm⟩
      · rw [cell_set_ne _ _ _ _ _ (by omega),e1] at ha
        exact .inr ⟨hai,ha⟩
    rcases hcase a p hu with ⟨rfl,rfl⟩ | ⟨ha,hu'⟩
    · rcases hcase c q hv2 with ⟨rfl,rfl⟩ | ⟨hc',hv'⟩
      · exact hab rfl
      · rcases hat with e | e
        · exact h.apart _ c v q k hab hv hv' (by rw [← e]; exact hp) hq
        · rw [e] at hp; cases hp
          have:=hold c q _ hv' hq; omega
    · rcases hcase c q hv2 with ⟨rfl,rfl⟩ | ⟨hc',hv'⟩
      · rcases hat with e | e
        · exact h.apart a _ p v k hab hu' hv hp (by rw [← e]; exact hq)
        · rw [e] at hq; cases hq
          have:=hold a p _ hu' hp; omega
      · exact h.apart a c p q k hab hu' hv' hp hq
  · rcases hk with rfl | ⟨j,u,hu,hk⟩
    · exact .inl (.inl rfl)
    · by_cases hji:j=i
      · subst hji
        rw [cell_set_eq hc1 (by omega)] at hu
        cases hu
        rcases hat with e | e
        · exact .inl (.inr ⟨j,v,hv,by rw [← e]; exact hk⟩)
        · rw [e] at hk; cases hk; exact .inr (Nat.le_refl _)
      · rw [cell_set_ne _ _ _ _ _ (by omega),e1] at hu
        exact .inl (.inr ⟨j,u,hu,hk⟩)
theorem WsAt.one {B:Nat} (W:World) (hB:B≤W.heap.size):WsAt B W.heap.size [⟨[],false⟩] (W.alloc (.cells #[.pointer none,.slice none 0 0,.bool false] 71)):=by
  have hb:(W.alloc (.cells #[.pointer none,.slice none 0 0,.bool false] 71)).heap[W.heap.size]?=some (.cells #[.pointer none,.slice none 0 0,.bool false] 71 (0,0)):=heap_alloc_new W _
  have hz:∀ (i:Nat) (x:Wr),([⟨[],false⟩]:List Wr)[i]?=some x→i=0∧x=⟨[],false⟩:=fun i x hx=>by
    rcases i with _ | i
    · simp at hx; exact ⟨rfl,hx.symm⟩
    · simp at hx
  refine ⟨hB,⟨_,hb,rfl⟩,fun i x hx=>?_,fun i x hx=>?_,fun i x hx=>?_,fun i x v hx _ hv=>?_,fun i j u v k hij hu hv=>?_⟩
  · obtain ⟨rfl,rfl⟩:=hz i x hx
    exact .inl (by rw [Lib.cell_of_heap hb]; rfl)
  · obtain ⟨rfl,rfl⟩:=hz i x hx
    exact ⟨.slice none 0 0,by rw [Lib.cell_of_heap hb]; rfl,World.ownsRow_nil _ _ _ _⟩
  · obtain ⟨rfl,rfl⟩:=hz i x hx
    rw [Lib.cell_of_heap hb]; rfl
  · obtain ⟨rfl,rfl⟩:=hz i x hx
    rw [Lib.cell_of_heap hb] at hv
    exact (Option.some.inj hv).symm
  · rw [Lib.cell_of_heap hb] at hu hv
    have h1:=(Array.getElem?_eq_some_iff.1 hu).1
    have h2:=(Array.getElem?_eq_some_iff.1 hv).1
    simp at h1 h2
    omega
theorem infoBd:(Tryz.prog.info? 69).map (·.size)=some 2:=by kernel_rfl
theorem cellsWr:Tryz.prog.cellsOf 71=3:=by kernel_rfl
theorem row_lies (P:Program) (fits:TypeId→Bool) (d e n i s:Nat) (hs:P.cellsOf e=s) (h0:s≠0) (hi:i<n):Go.rowAt P fits (d+1) e n (i * s) 1=Go.rowAt P fits (d+1) e 1 0 1:=by
  have e1:i * s / s=i:=Nat.mul_div_cancel _ (by omega)
  have e2:i * s % s=0:=Nat.mul_mod_left _ _
  unfold Go.rowAt
  simp only [hs,h0,if_false,e1,e2,Nat.zero_div,Nat.zero_mod,Nat.zero_add]
  have e3:(i+1≤n)=True:=by simp; omega
  have e4:(i<n)=True:=by simp [hi]
  simp only [e3,e4,Nat.le_refl,decide_true,Nat.zero_lt_one,Bool.true_and,Bool.and_true]
theorem liesWr {n i:Nat} (h:i<n):liesAt Tryz.prog Tryz.prog.depth 71 (n * 3 / Tryz.prog.cellsOf 71) (i * 3) 69 1=true:=by
  have h1:liesAt Tryz.prog Tryz.prog.depth 71 1 0 69 1=true:=by kernel_rfl
  rw [cellsWr,Nat.mul_div_cancel _ (by omega)]
  obtain ⟨m,hm⟩:∃ m,Tryz.prog.depth=m+1:=⟨Tryz.prog.depth - 1,by have:0<Tryz.prog.depth:=of_decide_eq_true (by kernel_rfl); omega⟩
  rw [hm] at h1 ⊢
  unfold liesAt at h1 ⊢
  rw [hm] at h1 ⊢
  rw [row_lies _ _ _ _ _ _ 3 cellsWr (by omega) h]
  simp only [Tryz.underlying69] at h1 ⊢
  exact h1
set_option maxHeartbeats 1000000 in
set_option maxRecDepth 100000 in
theorem check_used (a:Addr) (w:World) (h0:w.cell? a=some (.pointer (some a))) :
    Calls Tryz.prog 70 #[.pointer (some a)] w fun e w'=>e=.returned (.tuple #[])∧w'=w:=by
  obtain ⟨j,hj,_⟩:=Option.map_eq_some_iff.1 infoBd
  obtain ⟨b,o,x⟩:=a
  go_enter Tryz.func70,Tryz.ntmps70
  go_wp2
  rw [Lib.run_neq_ptr_same w _ Tryz.underlying66 hj]
  go_wp2
  go_end0
  exact ⟨rfl,rfl⟩
set_option maxHeartbeats 1000000 in
set_option maxRecDepth 100000 in
theorem check_fresh {B g i:Nat} {L:List Wr} {x:Wr} (w:World) (h:WsAt B g L w) (hx:L[i]?=some x) (h0:w.cell? ⟨g,i * 3,none⟩=some (.pointer none)) :
    Calls Tryz.prog 70 #[.pointer (some ⟨g,i * 3,none⟩)] w fun e w'=>e=.returned (.tuple #[])∧w'=w.setCell ⟨g,i * 3,none⟩ (.pointer (some ⟨g,i * 3,none⟩)):=by
  obtain ⟨j,hj,hjs⟩:=Option.map_eq_some_iff.1 infoBd
  obtain ⟨cs,hc,hs⟩:=h.blk
  have hi:i<L.length:=(List.getElem?_eq_some_iff.1 hx).1
  have hsh:w.shape? g=some (71,L.length * 3):=by simp [World.shape?,hc,hs]
  have hfz:w.frozen? ⟨g,i * 3,none⟩=false:=Lib.frozen_of_heap hc _
  have hlt:i * 3<L.length * 3:=by omega
  have hli:=liesWr hi
  generalize L.length=n at *
  generalize i * 3=o at *
  clear h hx hi hc hs
  go_enter Tryz.func70,Tryz.ntmps70
  go_wp2
  rw [Lib.run_to_unsafe w ⟨g,o,none⟩ Tryz.underlying66 Tryz.underlying167 hj (by rw [hjs]; decide) hsh hlt]
  simp only [Result.andThen]
  rw [Oper.upon_value]
  go_wp2
  rw [run_callFunc_extern Tryz.func86 (by kernel_rfl) (by kernel_rfl) (by kernel_rfl) (e:=Extern.AbiNoEscape.same) (by kernel_rfl)]
  rw [Lib.run_noEscape]
  simp only [Result.andThen]
  rw [Oper.upon_value]
  go_wp2
  rw [Lib.run_from_unsafe w ⟨g,o,none⟩ Tryz.underlying167 Tryz.underlying66 hj hsh hli]
  simp only [Result.andThen]
  rw [Oper.upon_value]
  go_wp2
  go_end0
  exact ⟨rfl,rfl⟩
theorem check_any {B g i:Nat} {L:List Wr} {x:Wr} (w:World) (h:WsAt B g L w) (hx:L[i]?=some x) :
    Calls Tryz.prog 70 #[.pointer (some ⟨g,i * 3,none⟩)] w fun e w'=>e=.returned (.tuple #[])∧WsAt B g L w'∧Wrote g w w':=by
  rcases h.ptr i x hx with h0 | h0
  · exact (check_fresh w h hx h0).mono fun _ _ ⟨he,hw⟩=>⟨he,by rw [hw]; exact (h.setPtr hx).1,by rw [hw]; exact (h.setPtr hx).2⟩
  · exact (check_used _ w h0).mono fun _ _ ⟨he,hw⟩=>⟨he,by rw [hw]; exact h,by rw [hw]; exact Wrote.refl _ _⟩
set_option maxHeartbeats 2000000 in
set_option maxRecDepth 100000 in
theorem byte_any {B g i:Nat} {L:List Wr} {x:Wr} (u:UInt8) (w:World) (h:WsAt B g L w) (hx:L[i]?=some x) (hl:x.bs.length≤140737488355327) (hBw:B≤w.heap.size) :
    Calls Tryz.prog 50 #[.pointer (some ⟨g,i * 3,none⟩),.int .u8 u.toNat] w fun e w'=>e=.returned .nilIface∧WsAt B g (L.set i ⟨x.bs++[u],x.bad⟩) w'∧Wrote g w w':=by
  obtain ⟨i0,hi,hz0,hz1,hz2⟩:=info_parts infoU8
  have HC:Hid (Calls Tryz.prog 70 #[.pointer (some ⟨g,i * 3,none⟩)] w fun e w'=>e=.returned (.tuple #[])∧WsAt B g L w'∧Wrote g w w'):=check_any w h hx
  clear h
  obtain ⟨o,ho⟩:∃ o,i * 3=o:=⟨_,rfl⟩
  rw [ho] at HC ⊢
  go_enter Tryz.func50,Tryz.ntmps50
  go_wp2_with fail
  refine HC.out.mono ?_
  rintro e w1 ⟨rfl,hW,hw1⟩
  obtain ⟨v,hv,hown⟩:=hW.buf i x hx
  obtain ⟨va,vc,rfl⟩:=slice_of_ownK hown
  obtain ⟨cs,hc,hs⟩:=hW.blk
  rw [ho] at hv
  have hfz:w1.frozen? ⟨g,o+1,none⟩=false:=Lib.frozen_of_heap hc _
  have hsz:=hw1.1.size
  have HON:Hid ((w1.alloc (Obj.cells #[.int .u8 u.toNat] 5)).ownsRow B 5 1 (.slice va x.bs.length vc) x.bs.length (x.bs.map encU8)):=World.ownsRow.alloc hown _
  have hWa:=hW.next ((Below.refl _ w1).alloc (Nat.le_refl _) (Obj.cells #[.int .u8 u.toNat] 5))
  have HW:Hid (WsAt B g L (w1.alloc (Obj.cells #[.int .u8 u.toNat] 5))∧Wrote g w (w1.alloc (Obj.cells #[.int .u8 u.toNat] 5))):=⟨hWa,hw1.trans (hW.wrote ((Below.refl _ w1).alloc (Nat.le_refl _) _))⟩
  have HV:Hid ((w1.alloc (Obj.cells #[.int .u8 u.toNat] 5)).cell? ⟨g,i * 3+1,none⟩=some (.slice va x.bs.length vc)):=by
    show _=_
    rw [ho,← hv]
    exact World.cell?_of_block (Below.heap_alloc w1 _ g hW.lt)
  have hszn:B≤(w1.alloc (Obj.cells #[.int .u8 u.toNat] 5)).heap.size:=by simp; omega
  have HNW:=cell_one_new w1 (.int .u8 u.toNat) 5
  have HLT:Hid (g<w1.heap.size):=hW.lt
  have hca:(w1.alloc (Obj.cells #[.int .u8 u.toNat] 5)).heap[g]?=some (.cells cs 71 (0,0)):=(Below.heap_alloc w1 _ g hW.lt).trans hc
  have HCA:Hid ((w1.alloc (Obj.cells #[.int .u8 u.toNat] 5)).heap[g]?=some (.cells cs 71 (0,0))):=hca
  have HOS:Hid (o+1<cs.size):=by
    have:i<L.length:=(List.getElem?_eq_some_iff.1 hx).1
    show o+1<cs.size
    omega
  clear hWa hW hw1 hown hc hs HC hca
  go_wp2_with (at_builtin; refine wpList_append_own_at _ rfl (.tmp 11) (.tmp 13) 67 rfl B 5 i0 _ 1 1 Tryz.underlying67 hi hz0 hz1 hz2 rfl (by omega) _ _ _ rfl HON.out _ 1 1 [.int .u8 u.toNat] rfl rfl HNW (by simp [Value.oneCell']) (by unfold maxLen; omega) (by omega) hszn ?_)
  intro v' w2 hown' hgrow _ hat
  have HP:Hid (WsAt B g (L.set i ⟨x.bs++[u],x.bad⟩) (w2.setCell ⟨g,i * 3+1,none⟩ v')∧Wrote g w (w2.setCell ⟨g,i * 3+1,none⟩ v')):=by
    have:=HW.out.1.put hx HV.out hgrow (l:=x.bs++[u]) (by simpa [OwnB,encU8] using hown') (by simpa using hat) (by simp)
    exact ⟨this.1,HW.out.2.trans this.2⟩
  have hne:=Lib.ownBlock_ne HON.out HCA.out (by decide)
  have hc2:w2.heap[g]?=some (.cells cs 71 (0,0)):=(hgrow.block g (Array.getElem?_eq_some_iff.1 HCA.out).1 (fun e=>hne e.symm)).trans HCA.out
  have hf2:w2.frozen? ⟨g,o+1,none⟩=false:=Lib.frozen_of_heap hc2 _
  obtain ⟨u1,hu1⟩:∃ u1,w2.cell? ⟨g,o+1,none⟩=some u1:=⟨cs[o+1]'HOS.out,by rw [Lib.cell_of_heap hc2]; simp⟩
  obtain ⟨va',vc',rfl⟩:=slice_of_ownK hown'
  rw [ho] at HP
  clear hown' hgrow hat hc2 HON HCA HW HV
  go_wp2_with fail
  go_ret
  exact ⟨rfl,HP.out⟩
end Go.Proofs.YtiamjafecbpfpaaGreatDoor
namespace Go.Proofs.YtiamjafecbpfpaaGreatDoor
open Go.RowKit
end Go.Proofs.YtiamjafecbpfpaaGreatDoor
namespace Go.Proofs.YtiamjafecbpfpaaGreatDoor
open Go.RowKit
def IrssAt (R:List (List Ir)) (ao:Option Addr) (W:World):Prop :=
  ∀ (i:Nat) (l:List Ir),R[i]?=some l→∃ b off v,ao=some ⟨b,off,none⟩∧b<W.heap.size∧W.cell? ⟨b,off+i,none⟩=some v∧SlL l v W
theorem IrssAt.next {R:List (List Ir)} {ao:Option Addr} {W W':World} (h:IrssAt R ao W) (hb:Below W.heap.size W W'):IrssAt R ao W':=fun i r hr=>by
  obtain ⟨b,off,v,h0,h1,h2,h3⟩:=h i r hr
  exact ⟨b,off,v,h0,Nat.lt_of_lt_of_le h1 hb.size,(hb.cell (p:=⟨b,off+i,none⟩) h1).trans h2,h3.next hb⟩
theorem IrssAt.at {R:List (List Ir)} {ao:Option Addr} {w W:World} (h:IrssAt R ao w) (hb:Below w.heap.size w W) {j:Nat} (hj:j<R.length) :
    ∃ b off v,ao=some ⟨b,off,none⟩∧b<W.heap.size∧W.cell? ⟨b,off+j,none⟩=some v∧SlL R[j] v W:=h.next hb j R[j] (by simp [hj])
def SlLL (R:List (List Ir)) (v:Value) (W:World):Prop :=
  ∃ ao cap,v=.slice ao R.length cap∧IrssAt R ao W∧(ao=none→cap=0)∧R.length≤cap
theorem SlLL.next {R:List (List Ir)} {v:Value} {W W':World} (h:SlLL R v W) (hb:Below W.heap.size W W'):SlLL R v W':=by
  obtain ⟨ao,cap,h0,h1,h2⟩:=h
  exact ⟨ao,cap,h0,h1.next hb,h2⟩
theorem SlLL.nil (W:World):SlLL [] (.slice none 0 0) W:=⟨none,0,rfl,fun i l h=>by simp at h,fun _=>rfl,Nat.le_refl _⟩
def findI (A:List (List Ir)) (l:List Ir):Nat:=A.findIdx fun x=>decide (x=l)
theorem findI_at {A:List (List Ir)} {l:List Ir} {j:Nat} (h0:∀ k (hk:k<A.length),k<j→A[k]≠l) (hj:j<A.length) (h1:A[j]=l):findI A l=j:=by
  unfold findI
  rw [List.findIdx_eq hj]
  exact ⟨by simp [h1],fun k hk=>by simpa using h0 k (by omega) hk⟩
theorem findI_le (A:List (List Ir)) (l:List Ir):findI A l≤A.length:=List.findIdx_le_length
def QRow (D:Nat→Prop) (size:Nat) (v:Value) (n:Nat) (xs:List Value) (W:World):Prop :=
  ∃ ao b off cap,v=.slice ao n cap∧Came W size ao b off n cap xs∧(0<cap→D b)
theorem QRow.nil (D:Nat→Prop) (size:Nat) (W:World):QRow D size (.slice none 0 0) 0 [] W :=
  ⟨none,0,0,0,rfl,⟨Nat.le_refl _,fun h=>by omega,fun h=>by omega,by simp,by simp,fun j h=>by simp at h⟩,fun h=>by omega⟩
theorem QRow.of_own {D:Nat→Prop} {W:World} {B n size:Nat} {e:TypeId} {v:Value} {xs:List Value} (h:W.ownsRow B e size v n xs) (hD:∀ k,B≤k→D k):QRow D size v n xs W:=by
  have h0:=h
  obtain ⟨h1,h2⟩:=h
  rcases h2 with ⟨rfl,hn⟩ | ⟨g,cap,cur,rfl,hB,hg,hcap,hm,hsz,hx⟩
  · subst hn
    obtain rfl:xs=[]:=List.eq_nil_of_length_eq_zero (by simpa using h1)
    exact QRow.nil _ _ _
  · refine ⟨_,g,0,cap,rfl,⟨hcap,fun _=>rfl,fun _=>(Array.getElem?_eq_some_iff.1 hg).1,h1,fun j u hj=>?_,fun j hj=>?_⟩,fun _=>hD g hB⟩
    · have:=World.ownsRow.cells h0 (g:=g) rfl j u hj
      rwa [add_plain] at this
    · have hlt:n * size+j<cur.size:=by rw [hsz]; rw [Nat.sub_mul] at hj; omega
      refine ⟨?_,World.ownsRow.frozenAt h0 _⟩
      simp [World.cell?,hg,hlt]
theorem QRow.but {D E:Nat→Prop} {W W':World} {n size:Nat} {v:Value} {xs:List Value} (h:QRow D size v n xs W) (hb:But E W W') (hE:∀ k,D k→¬ E k):QRow D size v n xs W':=by
  obtain ⟨ao,b,off,cap,h0,h1,h2⟩:=h
  rcases Nat.eq_zero_or_pos cap with hz | hz
  · subst hz
    have hn:n=0:=Nat.le_zero.1 h1.le
    subst hn
    obtain rfl:xs=[]:=List.eq_nil_of_length_eq_zero (by simpa using h1.oldsLen)
    exact ⟨ao,b,off,0,h0,⟨Nat.le_refl _,fun h=>by omega,fun h=>by omega,by simp,by simp,fun j h=>by simp at h⟩,fun h=>by omega⟩
  · have hbl:=h1.lt hz
    have hE':=hE b (h2 hz)
    refine ⟨ao,b,off,cap,h0,⟨h1.le,h1.addr,fun _=>Nat.lt_of_lt_of_le hbl hb.size,h1.oldsLen,fun j u hj=>?_,fun j hj=>?_⟩,h2⟩
    · exact (hb.cell (p:=⟨b,off+j,none⟩) hbl hE').trans (h1.olds j u hj)
    · have:=h1.spare j hj
      rw [hb.cell (p:=⟨b,off+n * size+j,none⟩) hbl hE',hb.frozen (p:=⟨b,off+n * size+j,none⟩) hbl hE']
      exact this
theorem QRow.next {D:Nat→Prop} {W W':World} {n size:Nat} {v:Value} {xs:List Value} (h:QRow D size v n xs W) (hb:Below W.heap.size W W'):QRow D size v n xs W' :=
  h.but (E:=fun _=>False) (But.of_next hb) (fun _ _ h=>h)
theorem QRow.mono {D E:Nat→Prop} {W:World} {n size:Nat} {v:Value} {xs:List Value} (h:QRow D size v n xs W) (hd:∀ k,k<W.heap.size→D k→E k):QRow E size v n xs W:=by
  obtain ⟨ao,b,off,cap,h0,h1,h2⟩:=h
  exact ⟨ao,b,off,cap,h0,h1,fun h=>hd b (h1.lt h) (h2 h)⟩
theorem QRow.cut {D:Nat→Prop} {W:World} {n size:Nat} {b off cap:Nat} {xs ys:List Value} (h:QRow D size (.slice (some ⟨b,off,none⟩) (n+1) cap) (n+1) (xs++ys) W) (hx:xs.length=size) :
    (1<cap→QRow D size (.slice (some ⟨b,off+size,none⟩) n (cap - 1)) n ys W)∧(cap=1→n=0∧QRow D size (.slice (some ⟨b,off,none⟩) 0 0) n ys W):=by
  obtain ⟨ao,b',off',cap',h0,h1,h2⟩:=h
  cases h0
  have hle:=h1.le
  have hb:=h1.addr (by omega)
  cases hb
  have hl:=h1.oldsLen
  rw [List.length_append,hx,Nat.add_mul,Nat.one_mul] at hl
  refine ⟨fun hc=>⟨_,b,off+size,cap - 1,rfl,⟨by omega,fun _=>rfl,fun _=>h1.lt (by omega),by omega,fun j u hj=>?_,fun j hj=>?_⟩,fun _=>h2 (by omega)⟩,fun hc=>?_⟩
  · have:=h1.olds (size+j) u (by rw [List.getElem?_append_right (by omega),hx,Nat.add_sub_cancel_left]; exact hj)
    rwa [← Nat.add_assoc] at this
  · have:=h1.spare j (by rw [show cap - (n+1)=cap - 1 - n by omega]; exact hj)
    rw [Nat.add_mul,Nat.one_mul,show off+(n * size+size)+j=off+size+n * size+j by omega] at this
    exact this
  · have hn:n=0:=by omega
    subst hn
    obtain rfl:ys=[]:=List.eq_nil_of_length_eq_zero (by omega)
    exact ⟨rfl,_,0,0,0,rfl,⟨Nat.le_refl _,fun h=>by omega,fun h=>by omega,by simp,by simp,fun j h=>by simp at h⟩,fun h=>by omega⟩
theorem tape_setCells (b:Nat):∀ (vs:List Value) (o:Nat) (w:World),(w.setCells b o vs).tape=w.tape
  | [],_,_=>rfl
  | v :: r,o,w=>by rw [World.setCells,tape_setCells b r]; rfl
theorem But.setCells {D:Nat→Prop} (w:World) (b o:Nat) (vs:List Value) (hD:D b):But D w (w.setCells b o vs):=by
  refine ⟨World.os_setCells w b o vs,tape_setCells b vs o w,World.output_setCells w b o vs,?_,fun k hk hd=>World.heap_setCells_other w b o vs hk (fun e=>hd (e ▸ hD))⟩
  have:=(World.keptBut_setCells b (may:=fun _=>True) vs o w (fun _ _=>trivial)).size
  exact this
theorem run_append_q {P:Program} {w:World} {D:Nat→Prop} {n:Nat} {v:Value} {xs:List Value} (t ty e:TypeId) (i:TypeInfo) (z:Value) (size bytes:Nat) (ht:P.underlying t=some (.slice e)) (hi:P.info? e=some i) (hz:i.zero=some z) (hsize:i.size=size) (hby:i.bytes=bytes) (hzs:z.cells.size=size) (hsz:0<size)
    (h:QRow D size v n xs w) (hD:∀ k,w.heap.size≤k→D k) (ad:Addr) (c:Nat) (news:List Value) (hl:news.length=size) (hnews:∀ j u,news[j]?=some u→w.cell? (ad.add j)=some u) (h1:∀ u∈news,u.oneCell'=true)
    (h63:n+1≤maxLen) (hbytes:(n+1) * bytes≤140737488355328) :
    ∃ v' w',(Builtin.append_ #[t,t] ty #[v,.slice (some ad) 1 c]).run P w=.ok v' w'∧QRow D size v' (n+1) (xs++news) w'∧But D w w':=by
  obtain ⟨ao,b,off,cap,rfl,hc,hb⟩:=h
  have hgrow:∀ {w':World},w.grownBy w' none→But D w w':=fun hg=>⟨hg.os,hg.tape,hg.output,hg.size,fun k hk _=>hg.block k hk (by simp)⟩
  by_cases hroom:n+1≤cap
  · have hcap:0<cap:=by omega
    have hao:=hc.addr hcap
    subst hao
    have hfit:size≤(cap - n) * size:=Nat.le_mul_of_pos_left _ (by omega)
    have hrun:=run_append_room_cells (P:=P) w t ty e i ht hi b off n cap ad 1 c news (by rw [hl,hsize,Nat.one_mul]) hnews h1 hroom
      (fun j hj=>by rw [hsize]; exact (hc.spare j (by omega)).1) (fun j hj=>by rw [hsize]; exact (hc.spare j (by omega)).2)
    rw [hsize] at hrun
    have hsome:∀ j,j<news.length→(w.cell? ⟨b,off+n * size+j,none⟩).isSome=true:=fun j hj=>(hc.spare j (by omega)).1
    have hB:But D w (w.setCells b (off+n * size) news):=But.setCells w b _ news (hb hcap)
    have hol:=hc.oldsLen
    refine ⟨_,_,hrun,⟨_,b,off,cap,rfl,⟨hroom,fun _=>rfl,fun _=>Nat.lt_of_lt_of_le (hc.lt hcap) hB.size,by rw [List.length_append,hol,hl,Nat.add_mul,Nat.one_mul],fun j u hj=>?_,fun j hj=>?_⟩,fun _=>hb hcap⟩,hB⟩
    · by_cases hjl:j<xs.length
      · rw [List.getElem?_append_left hjl] at hj
        rw [World.cell?_setCells_out b _ _ _ _ (fun _ _=>Or.inl (by show off+j<_; omega))]
        exact hc.olds j u hj
      · rw [List.getElem?_append_right (by omega)] at hj
        have hlt:=(List.getElem?_eq_some_iff.1 hj).1
        have:=World.cell?_setCells_in b news (off+n * size) w hsome (j - xs.length) hlt
        rw [show off+n * size+(j - xs.length)=off+j by omega] at this
        rw [this,← hj,List.getElem?_eq_getElem hlt]
    · rw [Nat.add_mul,Nat.one_mul,World.frozen?_setCells,World.cell?_setCells_out b _ _ _ _ (fun _ _=>Or.inr (by show _≤off+(n * size+size)+j; omega))]
      have hj':size+j<(cap - n) * size:=by
        have:(cap - n) * size=(cap - (n+1)) * size+size:=by rw [show cap - n=cap - (n+1)+1 by omega,Nat.add_mul,Nat.one_mul]
        omega
      have:=hc.spare (size+j) hj'
      rwa [show off+n * size+(size+j)=off+(n * size+size)+j by omega] at this
  · cases ao with
    | none =>
      have hcap:cap=0:=by
        rcases Nat.eq_zero_or_pos cap with h0 | h0
        · exact h0
        · have:=hc.addr h0; cases this
      subst hcap
      have hn:n=0:=Nat.le_zero.1 hc.le
      subst hn
      obtain rfl:xs=[]:=List.eq_nil_of_length_eq_zero (by simpa using hc.oldsLen)
      obtain ⟨v',w',hrun,r1,r2,_⟩:=run_append_own (P:=P) w w.heap.size t ty e i z size bytes ht hi hz hsize hby hzs hsz (.slice none 0 0) 0 [] (World.ownsRow_nil w _ e size) ad 1 c news (by rw [hl,Nat.one_mul]) hnews h1 h63 hbytes (Nat.le_refl _)
      exact ⟨v',w',hrun,QRow.of_own r1 hD,hgrow r2⟩
    | some a' =>
      have holds:∀ j u,xs[j]?=some u→w.cell? (a'.add j)=some u:=fun j u hj=>by
        rcases Nat.eq_zero_or_pos cap with h0 | h0
        · subst h0
          have hn:n=0:=Nat.le_zero.1 hc.le
          subst hn
          obtain rfl:xs=[]:=List.eq_nil_of_length_eq_zero (by simpa using hc.oldsLen)
          simp at hj
        · have:=hc.addr h0
          cases this
          rw [add_plain]
          exact hc.olds j u hj
      obtain ⟨v',w',hrun,r1,r2⟩:=run_append_arg_grows (P:=P) w t ty e i z size bytes ht hi hz hsize hby hzs hsz a' n cap xs hc.oldsLen holds ad 1 c news (by rw [hl,Nat.one_mul]) hnews (by omega) h63 hbytes
      exact ⟨v',w',hrun,QRow.of_own r1 hD,hgrow r2⟩
theorem wp_append_q {P:Program} {w:World} {o:Oper} {a:Act} {K:Act→World→Prop} {Q:Exit→Act→World→Prop} (s x:Operand) (t:TypeId)
    (ho:o.op=.call { callee:=.builtin .append,args:=#[s,x],argTypes:=#[t,t] }) {D:Nat→Prop} {n:Nat} {v:Value} {xs:List Value} (e:TypeId) (i:TypeInfo) (z:Value) (size bytes:Nat) (ht:P.underlying t=some (.slice e)) (hi:P.info? e=some i) (hz:i.zero=some z) (hsize:i.size=size) (hby:i.bytes=bytes) (hzs:z.cells.size=size) (hsz:0<size)
    (hs:a.eval s=v) (h:QRow D size v n xs w) (hD:∀ k,w.heap.size≤k→D k) (ad:Addr) (c:Nat) (news:List Value) (hx:a.eval x=.slice (some ad) 1 c) (hl:news.length=size) (hnews:∀ j u,news[j]?=some u→w.cell? (ad.add j)=some u) (h1:∀ u∈news,u.oneCell'=true)
    (h63:n+1≤maxLen) (hbytes:(n+1) * bytes≤140737488355328)
    (hK:∀ v' w',QRow D size v' (n+1) (xs++news) w'→But D w w'→K (a.put o.dst v') w'):o.wp P a w K Q:=by
  obtain ⟨v',w',hrun,k1,k2⟩:=run_append_q (P:=P) (w:=w) t o.type e i z size bytes ht hi hz hsize hby hzs hsz h hD ad c news hl hnews h1 h63 hbytes
  unfold Oper.wp
  simp [execOp,ho,resolve,invoke,builtin,hs,hx,hrun,Result.andThen]
  exact hK v' w' k1 k2
theorem QRow.shape {D:Nat→Prop} {W:World} {n size:Nat} {v:Value} {xs:List Value} (h:QRow D size v n xs W):∃ ao cap,v=.slice ao n cap:=by
  obtain ⟨ao,b,off,cap,h0,_⟩:=h; exact ⟨ao,cap,h0⟩
theorem QRow.irs {D:Nat→Prop} {W:World} {v:Value} {l:List Ir} (h:QRow D 3 v l.length (l.flatMap encR) W) (hok:∀ x∈l,okR x):SlL l v W:=by
  obtain ⟨ao,b,off,cap,h0,h1,h2⟩:=h
  refine ⟨ao,cap,h0,fun i x hi=>?_,fun e=>?_,h1.le⟩
  · have hil:=(List.getElem?_eq_some_iff.1 hi).1
    have hcap:0<cap:=by have:=h1.le; omega
    refine ⟨b,off,h1.addr hcap,h1.lt hcap,?_,?_,?_,hok x (List.mem_of_getElem? hi)⟩
    · have:=h1.olds (i * 3+0) (.int .i64 x.1) (by rw [flatR_get hi (by omega)]; rfl)
      simpa using this
    · have:=h1.olds (i * 3+1) (.int .i64 x.2.1) (by rw [flatR_get hi (by omega)]; rfl)
      simpa [Nat.add_assoc] using this
    · have:=h1.olds (i * 3+2) (.int .i64 x.2.2) (by rw [flatR_get hi (by omega)]; rfl)
      simpa [Nat.add_assoc] using this
  · rcases Nat.eq_zero_or_pos cap with hz | hz
    · exact hz
    · have:=h1.addr hz; rw [e] at this; cases this
theorem SlI.but {D:Nat→Prop} {W W':World} {l:List Int} {v:Value} (h:SlI l v W) (hb:But D W W') (hd:∀ ad n c,v=.slice (some ad) n c→l≠[]→¬ D ad.block):SlI l v W':=by
  obtain ⟨ao,cap,h0,h1,h2⟩:=h
  refine ⟨ao,cap,h0,fun i x hi=>?_,h2⟩
  obtain ⟨b,off,e,hbl,hc⟩:=h1 i x hi
  subst e
  have hnd:=hd _ _ _ h0 (fun e=>by subst e; simp at hi)
  exact ⟨b,off,rfl,Nat.lt_of_lt_of_le hbl hb.size,(hb.cell (p:=⟨b,off+i,none⟩) hbl hnd).trans hc⟩
theorem SlL.but {D:Nat→Prop} {W W':World} {l:List Ir} {v:Value} (h:SlL l v W) (hb:But D W W') (hd:∀ ad n c,v=.slice (some ad) n c→l≠[]→¬ D ad.block):SlL l v W':=by
  obtain ⟨ao,cap,h0,h1,h2⟩:=h
  refine ⟨ao,cap,h0,fun i x hi=>?_,h2⟩
  obtain ⟨b,off,e,hbl,c0,c1,c2,hok⟩:=h1 i x hi
  subst e
  have hnd:=hd _ _ _ h0 (fun e=>by subst e; simp at hi)
  exact ⟨b,off,rfl,Nat.lt_of_lt_of_le hbl hb.size,(hb.cell (p:=⟨b,off+i * 3,none⟩) hbl hnd).trans c0,(hb.cell (p:=⟨b,off+i * 3+1,none⟩) hbl hnd).trans c1,(hb.cell (p:=⟨b,off+i * 3+2,none⟩) hbl hnd).trans c2,hok⟩
open Classical in
noncomputable def closF (f:Fl) (S:List Ir):List Ir:=if h:∃ L,ClosI f (fun x=>x∈S) L then h.choose else []
theorem closF_eq {f:Fl} {S L:List Ir} (h:ClosI f (fun x=>x∈S) L):closF f S=L:=by
  unfold closF
  have hx:∃ L,ClosI f (fun x=>x∈S) L:=⟨L,h⟩
  rw [dif_pos hx]
  exact closI_unique hx.choose_spec h
theorem closF_len {f:Fl} (hp:FitP f) (S:List Ir):(closF f S).length≤maxI:=by
  unfold closF
  split
  · rename_i h; exact h.choose_spec.len hp
  · simp
noncomputable def gotoF (f:Fl) (l:List Ir) (s:Int):List Ir:=closF f (movedL f l s)
open Classical in
noncomputable def addA (A:List (List Ir)) (g:List Ir):List (List Ir):=if g≠[]∧g ∉ A then A++[g] else A
noncomputable def rowA (f:Fl) (l:List Ir):Nat→Nat→List (List Ir)→Option (List (List Ir))
  | _,0,A=>some A
  | s,k+1,A=>if (addA A (gotoF f l s)).length > 600 then none else rowA f l (s+1) k (addA A (gotoF f l s))
noncomputable def runA (f:Fl):Nat→Nat→List (List Ir)→Option (List (List Ir))
  | 0,_,A=>some A
  | k+1,i,A=>match A[i]? with
    | none=>some A
    | some l=>match rowA f l 0 f.n A with
      | none=>none
      | some A'=>runA f k (i+1) A'
noncomputable def allF (f:Fl):Option (List (List Ir)):=runA f 601 0 [closF f (begL f)]
theorem runA_end {f:Fl} {i:Nat} {A:List (List Ir)} (hi:i=A.length) (h:i≤600):runA f (601 - i) i A=some A:=by
  rw [show 601 - i=(600 - i)+1 by omega,runA]
  rw [List.getElem?_eq_none (by omega)]
theorem addA_new {A:List (List Ir)} {g:List Ir} (h:g≠[]) (k:g ∉ A):addA A g=A++[g]:=by unfold addA; rw [if_pos ⟨h,k⟩]
theorem addA_nil (A:List (List Ir)):addA A []=A:=by unfold addA; simp
theorem addA_old {A:List (List Ir)} {g:List Ir} (k:g∈A):addA A g=A:=by unfold addA; rw [if_neg (fun h=>h.2 k)]
def inB (v:Value) (k:Nat):Prop:=∃ off n c,v=.slice (some ⟨k,off,none⟩) n c∧0<c
theorem inB.of {ad:Addr} {n c:Nat} {k:Nat} (h:inB (.slice (some ad) n c) k):ad.block=k:=by
  obtain ⟨_,_,_,e,_⟩:=h
  cases e; rfl
theorem QRow.exact {D:Nat→Prop} {W:World} {n size:Nat} {v:Value} {xs:List Value} (h:QRow D size v n xs W):QRow (fun k=>D k∧inB v k∧k<W.heap.size) size v n xs W:=by
  obtain ⟨ao,b,off,cap,h0,h1,h2⟩:=h
  exact ⟨ao,b,off,cap,h0,h1,fun hc=>⟨h2 hc,⟨off,n,cap,by rw [h0,h1.addr hc],hc⟩,h1.lt hc⟩⟩
theorem SlL.lt {l:List Ir} {ad:Addr} {n c:Nat} {W:World} (h:SlL l (.slice (some ad) n c) W) (hl:l≠[]):ad.block<W.heap.size:=by
  obtain ⟨ao,cap,h0,h1,_⟩:=h
  cases h0
  obtain ⟨x,l',rfl⟩:=List.exists_cons_of_ne_nil hl
  obtain ⟨b,off,e,hb,_⟩:=h1 0 x rfl
  cases e; exact hb
def symsN (N:Nat) (l:List It):List Nat:=(l.filter fun x=>decide (0≤x.sym∧x.sym<(N:Int))).map fun x=>x.sym.toNat
theorem symsN_cons_no {N:Nat} {x:It} {l:List It} (h:x.sym<0∨(N:Int)≤x.sym):symsN N (x :: l)=symsN N l:=by
  unfold symsN; rw [List.filter_cons_of_neg (by simp; omega)]
theorem symsN_cons_yes {N:Nat} {x:It} {l:List It} (h:¬ (x.sym<0∨(N:Int)≤x.sym)):symsN N (x :: l)=x.sym.toNat :: symsN N l:=by
  unfold symsN; rw [List.filter_cons_of_pos (by simp; omega)]; rfl
theorem rowAt_gives {P:Nat→Int→Prop} {n:Nat} {R:List (List Int)} (h:GivesR P n R) {s:Nat} (hs:s<n) {t:Int}:t∈rowAt R s↔P s t:=by
  rw [← inR_row (by rw [h.1]; exact hs)]; exact h.2.2 s hs t
theorem onb_gives {base:Nat→Prop} {g:Gr} {n:Nat} {L:List Bool} (h:GivesB base g n L) {s:Nat} (hs:s<n):onb L s=true↔Der base g s:=by
  rw [onb_iff]; exact h.2 s hs
theorem row_le_gives {P:Nat→Int→Prop} {n m:Nat} {R:List (List Int)} (h:GivesR P n R) (hb:∀ s t,P s t→0≤t∧t<m) (s:Nat):(rowAt R s).length≤m:=by
  by_cases hs:s<R.length
  · have hr:Rising (rowAt R s):=by rw [rowAt_get hs]; exact h.2.1 _ (List.getElem_mem hs)
    exact rising_length hr (fun t ht=>hb s t ((rowAt_gives h (by rw [← h.1]; exact hs)).1 ht))
  · have:rowAt R s=[]:=by unfold rowAt; rw [List.getD_eq_getElem?_getD,List.getElem?_eq_none (by omega)]; rfl
    rw [this]; simp
theorem first_row_le {f:Fl} {R:List (List Int)} (hn:f.n≤600) (h:GivesR (FstP f) f.n R) (s:Nat):(rowAt R s).length≤601:=by
  have ht:f.terms.length≤f.n:=by unfold Fl.n; omega
  exact row_le_gives (m:=601) h (fun s t h=>by have h1:=fst_lt h; omega) s
end Go.Proofs.YtiamjafecbpfpaaGreatDoor
namespace Go.Proofs.YtiamjafecbpfpaaGreatDoor
def lookF (R:List (List Int)) (Le:List Bool):List Nat→List Int→List Int × Bool
  | [],A=>(A,true)
  | s :: r,A=>if onb Le s=true then lookF R Le r (unionL A (rowAt R s)) else (unionL A (rowAt R s),false)
def looksL (R:List (List Int)) (Le:List Bool) (sy:List Nat) (k:Int):List Int :=
  if (lookF R Le sy []).2=true then unionL (lookF R Le sy []).1 [k] else (lookF R Le sy []).1
theorem lookF_mem {R:List (List Int)} {Le:List Bool} {N:Nat} {emp:Nat→Prop} {fst:Nat→Int→Prop} (hR:∀ s,s<N→∀ t,t∈rowAt R s↔fst s t) (hL:∀ s,s<N→(onb Le s=true↔emp s)) :
    ∀ {sy:List Nat} {A:List Int} {t:Int},(∀ s∈sy,s<N)→(t∈(lookF R Le sy A).1↔t∈A∨Beg emp fst (fun _=>False) sy t)
  | [],A,t,_=>by
    rw [lookF]
    constructor
    · exact .inl
    · rintro (h | h)
      · exact h
      · cases h with | behind h=>exact h.elim
  | s :: r,A,t,hs=>by
    have hsn:=hs s (by simp)
    rw [lookF]; split
    · rename_i ho
      rw [lookF_mem hR hL (fun x hx=>hs x (by simp [hx])),mem_unionL,hR _ hsn]
      constructor
      · rintro ((h | h) | h)
        · exact .inl h
        · exact .inr (.here h)
        · exact .inr (.next ((hL _ hsn).1 ho) h)
      · rintro (h | h)
        · exact .inl (.inl h)
        · cases h with
          | here h=>exact .inl (.inr h)
          | next _ h=>exact .inr h
    · rename_i ho
      rw [mem_unionL,hR _ hsn]
      constructor
      · rintro (h | h)
        · exact .inl h
        · exact .inr (.here h)
      · rintro (h | h)
        · exact .inl h
        · cases h with
          | here h=>exact .inr h
          | next h _=>exact absurd ((hL _ hsn).2 h) ho
theorem lookF_all {R:List (List Int)} {Le:List Bool} {N:Nat} {emp:Nat→Prop} (hL:∀ s,s<N→(onb Le s=true↔emp s)) :
    ∀ {sy:List Nat} {A:List Int},(∀ s∈sy,s<N)→((lookF R Le sy A).2=true↔∀ s∈sy,emp s)
  | [],A,_=>by rw [lookF]; simp
  | s :: r,A,hs=>by
    have hsn:=hs s (by simp)
    rw [lookF]; split
    · rename_i ho
      rw [lookF_all hL (fun x hx=>hs x (by simp [hx]))]
      simp [(hL _ hsn).1 ho]
    · rename_i ho
      simp only [Bool.false_eq_true,List.mem_cons,forall_eq_or_imp,false_iff,not_and]
      intro h; exact absurd ((hL _ hsn).2 h) ho
theorem looksL_mem {R:List (List Int)} {Le:List Bool} {N:Nat} {emp:Nat→Prop} {fst:Nat→Int→Prop} (hR:∀ s,s<N→∀ t,t∈rowAt R s↔fst s t) (hL:∀ s,s<N→(onb Le s=true↔emp s)) {sy:List Nat} {k t:Int} (hs:∀ s∈sy,s<N) :
    t∈looksL R Le sy k↔Beg emp fst (fun t=>t=k) sy t:=by
  rw [beg_iff]
  unfold looksL
  have h1:=lookF_mem hR hL (A:=[]) (t:=t) hs
  have h2:=lookF_all (R:=R) hL (A:=[]) hs
  simp at h1
  split
  · rename_i h
    rw [mem_unionL,h1]
    simp only [List.mem_singleton]
    exact ⟨fun h'=>h'.imp id (fun e=>⟨h2.1 h,e⟩),fun h'=>h'.imp id (fun e=>e.2)⟩
  · rename_i h
    rw [h1]
    constructor
    · exact .inl
    · rintro (h' | h')
      · exact h'
      · exact absurd (h2.2 h'.1) h
structure FE (f:Fl) (R:List (List Int)) (Le:List Bool):Prop where
  r:GivesR (FstP f) f.n R
  e:GivesB (fun _=>False) f.gr f.n Le
theorem FE.looks {f:Fl} {R:List (List Int)} {Le:List Bool} (h:FE f R Le) (hp:FitP f) {x:Ir} {t:Int}:t∈looksL R Le (behI f x) x.2.2↔LookP f x t :=
  looksL_mem (emp:=EmpP f) (fst:=FstP f) (fun _ hs _=>rowAt_gives h.r hs) (fun _ hs=>onb_gives h.e hs) (behI_lt hp)
def addsL (f:Fl) (R:List (List Int)) (Le:List Bool) (x:Ir):List Ir :=
  match nextI f x with
  | some s=>(ofA f s).flatMap fun q=>(looksL R Le (behI f x) x.2.2).map fun t=>(q,0,t)
  | none=>[]
theorem adds_iff {f:Fl} {R:List (List Int)} {Le:List Bool} (h:FE f R Le) (hp:FitP f) {x y:Ir}:y∈addsL f R Le x↔∃ (s t:Int) (q:Nat) (p:Pr),y=((q:Int),(0:Int),t)∧nextI f x=some s∧f.prods[q]?=some p∧p.left=s∧LookP f x t:=by
  unfold addsL
  cases hn:nextI f x with
  | none=>simp
  | some s =>
    simp only [List.mem_flatMap,List.mem_map]
    constructor
    · rintro ⟨q',hq',t,ht,rfl⟩
      obtain ⟨q,p,rfl,h1,h2⟩:=mem_ofA.1 hq'
      exact ⟨s,t,q,p,rfl,rfl,h1,h2,(h.looks hp).1 ht⟩
    · rintro ⟨s',t,q,p,rfl,e,h1,h2,h3⟩
      cases e
      exact ⟨q,mem_ofA.2 ⟨q,p,rfl,h1,h2⟩,t,(h.looks hp).2 h3,rfl⟩
structure CW (f:Fl) (S:Ir→Prop) (set todo:List Ir):Prop where
  rise:RisingI set
  sound:∀ x∈set,Cl f S x
  tsound:∀ x∈todo,fitI f x=true→Cl f S x
  base:∀ x,S x→fitI f x=true→x∈set∨x∈todo
  closed:∀ x∈set,∀ (s t:Int) (q:Nat) (p:Pr),nextI f x=some s→f.prods[q]?=some p→p.left=s→LookP f x t→((q:Int),(0:Int),t)∈set∨((q:Int),(0:Int),t)∈todo
theorem CW.start (f:Fl) (l:List Ir):CW f (fun x=>x∈l) [] l :=
  ⟨List.Pairwise.nil,by simp,fun x hx hf=>.base hx hf,fun x hx _=>.inr hx,by simp⟩
theorem CW.skip {f:Fl} {S:Ir→Prop} {set rest:List Ir} {x:Ir} (h:CW f S set (x :: rest)) (hx:fitI f x=false∨x∈set):CW f S set rest:=by
  have key:∀ y,fitI f y=true→y∈set∨y∈x :: rest→y∈set∨y∈rest:=fun y hy h'=>by
    rcases h' with h' | h'
    · exact .inl h'
    · rcases List.mem_cons.1 h' with rfl | h'
      · rcases hx with hx | hx
        · rw [hx] at hy; cases hy
        · exact .inl hx
      · exact .inr h'
  refine ⟨h.rise,h.sound,fun y hy=>h.tsound y (by simp [hy]),fun y hy hf=>key y hf (h.base y hy hf),fun y hy s t q p hn hq hl hk=>key _ ?_ (h.closed y hy s t q p hn hq hl hk)⟩
  exact fit_zero hq (look_le (nextI_fit hn) hk)
theorem CW.new {f:Fl} {S:Ir→Prop} {set rest adds:List Ir} {x:Ir} (h:CW f S set (x :: rest)) (hx:fitI f x=true) (hA:∀ y,y∈adds↔∃ (s t:Int) (q:Nat) (p:Pr),y=((q:Int),(0:Int),t)∧nextI f x=some s∧f.prods[q]?=some p∧p.left=s∧LookP f x t):CW f S (putI x set) (rest++adds):=by
  have hcx:=h.tsound x (by simp) hx
  have key:∀ y,y∈set∨y∈x :: rest→y∈putI x set∨y∈rest++adds:=fun y h'=>by
    rcases h' with h' | h'
    · exact .inl (mem_putI.2 (.inr h'))
    · rcases List.mem_cons.1 h' with rfl | h'
      · exact .inl (mem_putI.2 (.inl rfl))
      · exact .inr (List.mem_append.2 (.inl h'))
  refine ⟨rising_putI h.rise,fun y hy=>?_,fun y hy hf=>?_,fun y hy hf=>key y (h.base y hy hf),fun y hy s t q p hn hq hl hk=>?_⟩
  · rcases mem_putI.1 hy with rfl | hy
    · exact hcx
    · exact h.sound y hy
  · rcases List.mem_append.1 hy with hy | hy
    · exact h.tsound y (by simp [hy]) hf
    · obtain ⟨s,t,q,p,rfl,k1,k2,k3,k4⟩:=(hA y).1 hy
      exact .step hcx k1 k2 k3 k4
  · rcases mem_putI.1 hy with rfl | hy
    · exact .inr (List.mem_append.2 (.inr ((hA _).2 ⟨s,t,q,p,rfl,hn,hq,hl,hk⟩)))
    · exact key _ (h.closed y hy s t q p hn hq hl hk)
theorem CW.done {f:Fl} {S:Ir→Prop} {set:List Ir} (h:CW f S set []):ClosI f S set :=
  ⟨h.rise,fun x=>⟨h.sound x,fun hx=>cl_least (A:=fun x=>x∈set) (fun y hy hf=>by rcases h.base y hy hf with h' | h'; exact h'; cases h') (fun y s t q p hy hn hq hl hk=>by rcases h.closed y hy s t q p hn hq hl hk with h' | h'; exact h'; cases h') hx⟩⟩
theorem CW.len {f:Fl} {S:Ir→Prop} {set todo:List Ir} (hp:FitP f) (h:CW f S set todo):set.length≤maxI:=items_le hp h.rise.nodup (fun x hx=>cl_fit (h.sound x hx))
end Go.Proofs.YtiamjafecbpfpaaGreatDoor
namespace Go.Proofs.YtiamjafecbpfpaaGreatDoor
open Classical in
theorem closI_exists {f:Fl} (hp:FitP f) (S:Ir→Prop):∃ L,ClosI f S L:=by
  let cands:List Ir:=(List.range 401).flatMap fun (p:Nat)=>(List.range 65).flatMap fun (d:Nat)=>(List.range 601).map fun (t:Nat)=>(((p:Int) - 1,(d:Int),(t:Int)):Ir)
  have hc:∀ x:Ir,fitI f x=true→x∈cands:=by
    intro x hx
    have h1:=fitI_iff.1 hx
    have h2:=rightI_le hp x.1
    have h3:=hp.prods
    have h4:f.terms.length+f.nons.length≤600:=hp.size
    refine List.mem_flatMap.2 ⟨(x.1+1).toNat,List.mem_range.2 (by omega),List.mem_flatMap.2 ⟨x.2.1.toNat,List.mem_range.2 (by omega),List.mem_map.2 ⟨x.2.2.toNat,List.mem_range.2 (by omega),?_⟩⟩⟩
    exact ir_ext (by simp only; omega) (by simp only; omega) (by simp only; omega)
  clear_value cands
  have key:∀ l:List Ir,RisingI (l.foldr putI [])∧∀ x,x∈l.foldr putI []↔x∈l:=by
    intro l
    induction l with
    | nil=>exact ⟨by simp [RisingI],by simp⟩
    | cons a l ih=>exact ⟨rising_putI ih.1,fun x=>by rw [List.foldr_cons,mem_putI,ih.2,List.mem_cons]⟩
  obtain ⟨k1,k2⟩:=key (cands.filter fun x=>decide (Cl f S x))
  refine ⟨_,k1,fun x=>(k2 x).trans ?_⟩
  rw [List.mem_filter,decide_eq_true_eq]
  exact ⟨fun h=>h.2,fun h=>⟨hc x (cl_fit h),h⟩⟩
theorem closF_spec {f:Fl} (hp:FitP f) (S:List Ir):ClosI f (fun x=>x∈S) (closF f S):=by
  obtain ⟨L,hL⟩:=closI_exists hp (fun x=>x∈S)
  rw [closF_eq hL]; exact hL
structure Kern (f:Fl) (K:List Ir):Prop where
  ne:K≠[]
  rise:RisingI K
  fit:∀ x∈K,fitI f x=true
  dot:∀ x∈K,0<x.2.1
theorem movedL_rise {f:Fl} {l:List Ir} {s:Int} (h:RisingI l):RisingI (movedL f l s):=by
  unfold movedL RisingI at *
  rw [List.pairwise_map]
  refine (h.filter _).imp (fun {a b} hab=>?_)
  unfold ltI at *
  simp only
  omega
theorem mem_movedL {f:Fl} {l:List Ir} {s:Int} {x:Ir}:x∈movedL f l s↔∃ y∈l,nextI f y=some s∧x=(y.1,y.2.1+1,y.2.2):=by
  unfold movedL
  simp only [List.mem_map,List.mem_filter,decide_eq_true_eq]
  constructor
  · rintro ⟨y,⟨h1,h2⟩,rfl⟩; exact ⟨y,h1,h2,rfl⟩
  · rintro ⟨y,h1,h2,rfl⟩; exact ⟨y,⟨h1,h2⟩,rfl⟩
theorem movedL_kern {f:Fl} {l:List Ir} {s:Int} (h:RisingI l) (hne:movedL f l s≠[]):Kern f (movedL f l s) :=
  ⟨hne,movedL_rise h,movedL_fit,fun x hx=>by
    obtain ⟨y,_,hn,rfl⟩:=mem_movedL.1 hx
    have:=fitI_iff.1 (nextI_fit hn)
    simp only
    omega⟩
theorem Kern.mem {f:Fl} (hp:FitP f) {K:List Ir} (h:Kern f K) (x:Ir):x∈K↔x∈closF f K∧0<x.2.1:=by
  rw [(closF_spec hp K).2 x]
  constructor
  · intro hx; exact ⟨.base hx (h.fit x hx),h.dot x hx⟩
  · rintro ⟨hc,hd⟩
    rcases cl_dot hc with h | h
    · exact h
    · omega
theorem Kern.inj {f:Fl} (hp:FitP f) {K M:List Ir} (h:Kern f K) (k:Kern f M) (e:closF f K=closF f M):K=M :=
  risingI_ext h.rise k.rise (fun x=>by rw [h.mem hp,k.mem hp,e])
theorem closF_ne {f:Fl} (hp:FitP f) {K:List Ir} (h:Kern f K):closF f K≠[]:=by
  obtain ⟨x,l,rfl⟩:=List.exists_cons_of_ne_nil h.ne
  intro e
  have:=((h.mem hp x).1 (by simp)).1
  rw [e] at this; cases this
theorem closF_nil {f:Fl} (hp:FitP f):closF f []=[]:=by
  have h:=closF_spec hp ([]:List Ir)
  refine List.eq_nil_iff_forall_not_mem.2 (fun x hx=>?_)
  have:=(h.2 x).1 hx
  exact (cl_least (A:=fun _=>False) (fun x h _=>by cases h) (fun _ _ _ _ _ h _ _ _ _=>h) this)
theorem Kern.beg {f:Fl} (hp:FitP f) {K:List Ir} (h:Kern f K):closF f K≠closF f (begL f):=by
  obtain ⟨x,l,rfl⟩:=List.exists_cons_of_ne_nil h.ne
  intro e
  have h1:=(h.mem hp x).1 (by simp)
  rw [e,(closF_spec hp _).2 x] at h1
  rcases cl_dot h1.1 with h2 | h2
  · simp [begL] at h2; subst h2; exact absurd h1.2 (by simp)
  · omega
def kernsFrom (f:Fl) (l:List Ir) (s k:Nat):List (List Ir):=((List.range' s k).map fun (s:Nat)=>movedL f l (s:Int)).filter fun K=>!K.isEmpty
def kernsL (f:Fl) (l:List Ir):List (List Ir):=kernsFrom f l 0 f.n
def rowK:List (List Ir)→List (List Ir)→Option (List (List Ir))
  | [],T=>some T
  | K :: Ks,T=>if K∈T then rowK Ks T else if T.length+1=600 then none else rowK Ks (T++[K])
theorem rowK_append:∀ (a b T:List (List Ir)),rowK (a++b) T=(rowK a T).bind (rowK b)
  | [],b,T=>rfl
  | K :: a,b,T=>by
    simp only [List.cons_append,rowK]
    split
    · exact rowK_append a b T
    · split
      · rfl
      · exact rowK_append a b _
theorem kernsFrom_succ (f:Fl) (l:List Ir) (s k:Nat):kernsFrom f l s (k+1)=(if movedL f l (s:Int)=[] then [] else [movedL f l (s:Int)])++kernsFrom f l (s+1) k:=by
  unfold kernsFrom
  rw [List.range'_succ,List.map_cons,List.filter_cons]
  by_cases h:movedL f l (s:Int)=[]
  · rw [if_pos h,h]; simp
  · rw [if_neg h,if_pos (by simp [h])]; rfl
theorem kernsL_kern {f:Fl} {l:List Ir} (h:RisingI l):∀ K∈kernsL f l,Kern f K:=by
  intro K hK
  unfold kernsL kernsFrom at hK
  obtain ⟨h1,h2⟩:=List.mem_filter.1 hK
  obtain ⟨s,_,rfl⟩:=List.mem_map.1 h1
  exact movedL_kern h (by simpa using h2)
def Met (f:Fl) (T:List (List Ir)):Prop:=∀ K∈T,Kern f K
noncomputable def setsOf (f:Fl) (T:List (List Ir)):List (List Ir):=closF f (begL f) :: T.map (closF f)
theorem mem_setsOf {f:Fl} (hp:FitP f) {T:List (List Ir)} (hT:Met f T) {K:List Ir} (hK:Kern f K):closF f K∈setsOf f T↔K∈T:=by
  unfold setsOf
  rw [List.mem_cons,List.mem_map]
  constructor
  · rintro (h | ⟨M,hM,e⟩)
    · exact absurd h (hK.beg hp)
    · rw [← (hT M hM).inj hp hK e]; exact hM
  · intro h; exact .inr ⟨K,h,rfl⟩
theorem rowA_rowK {f:Fl} (hp:FitP f) {l:List Ir} (hl:RisingI l):∀ (k s:Nat) (T:List (List Ir)),Met f T→T.length+1≤600 →
    rowA f l s k (setsOf f T)=(rowK (kernsFrom f l s k) T).map (setsOf f)
  | 0,s,T,_,_=>by simp [rowA,kernsFrom,rowK]
  | k+1,s,T,hT,hlen=>by
    rw [rowA,kernsFrom_succ]
    have hsl:(setsOf f T).length=T.length+1:=by simp [setsOf]
    unfold gotoF
    by_cases h:movedL f l (s:Int)=[]
    · rw [if_pos h,h,closF_nil hp,addA_nil,if_neg (by omega),List.nil_append]
      exact rowA_rowK hp hl k (s+1) T hT hlen
    · have hK:=movedL_kern hl h
      rw [if_neg h,List.singleton_append,rowK]
      by_cases hin:movedL f l (s:Int)∈T
      · rw [if_pos hin,addA_old ((mem_setsOf hp hT hK).2 hin),if_neg (by omega)]
        exact rowA_rowK hp hl k (s+1) T hT hlen
      · rw [if_neg hin,addA_new (closF_ne hp hK) (fun h=>hin ((mem_setsOf hp hT hK).1 h))]
        by_cases h6:T.length+1=600
        · rw [if_pos h6,if_pos (by simp [hsl,h6])]; rfl
        · rw [if_neg h6,if_neg (by simp [hsl]; omega)]
          have e:setsOf f T++[closF f (movedL f l (s:Int))]=setsOf f (T++[movedL f l (s:Int)]):=by simp [setsOf]
          rw [e]
          refine rowA_rowK hp hl k (s+1) _ (fun K hK'=>?_) (by simp; omega)
          rcases List.mem_append.1 hK' with h' | h'
          · exact hT K h'
          · simp at h'; subst h'; exact hK
theorem rowK_met {f:Fl}:∀ (Ks T T':List (List Ir)),(∀ K∈Ks,Kern f K)→Met f T→T.Nodup→T.length+1≤600→rowK Ks T=some T'→Met f T'∧T'.Nodup∧T'.length+1≤600∧T <+: T'
  | [],T,T',_,hT,hn,hl,h=>by
    simp only [rowK,Option.some.injEq] at h
    subst h; exact ⟨hT,hn,hl,List.prefix_refl _⟩
  | K :: Ks,T,T',hK,hT,hn,hl,h=>by
    rw [rowK] at h
    split at h
    · exact rowK_met Ks T T' (fun K hk=>hK K (by simp [hk])) hT hn hl h
    · split at h
      · cases h
      · rename_i h1 h2
        obtain ⟨k1,k2,k3,k4⟩:=rowK_met Ks (T++[K]) T' (fun K hk=>hK K (by simp [hk])) (fun M hM=>by
          rcases List.mem_append.1 hM with h' | h'
          · exact hT M h'
          · simp at h'; subst h'; exact hK M (by simp)) (by
          rw [List.nodup_append]
          refine ⟨hn,by simp,fun a ha b hb=>?_⟩
          simp at hb; subst hb
          rintro rfl; exact h1 ha) (by simp; omega) h
        exact ⟨k1,k2,k3,(List.prefix_append _ _).trans k4⟩
theorem setsOf_get {f:Fl} {T:List (List Ir)} {i:Nat} {K:List Ir} (h:(begL f :: T)[i]?=some K):(setsOf f T)[i]?=some (closF f K):=by
  have e:setsOf f T=(begL f :: T).map (closF f):=by simp [setsOf]
  rw [e,List.getElem?_map,h]; rfl
theorem run_step {f:Fl} (hp:FitP f) {T:List (List Ir)} {i:Nat} {K:List Ir} (hT:Met f T) (hl:T.length+1≤600) (hi:i≤600) (h:(begL f :: T)[i]?=some K) :
    runA f (601 - i) i (setsOf f T)=(rowK (kernsL f (closF f K)) T).bind fun T'=>runA f (600 - i) (i+1) (setsOf f T'):=by
  rw [show 601 - i=(600 - i)+1 by omega,runA,setsOf_get h]
  simp only
  rw [rowA_rowK hp (closF_spec hp K).1 f.n 0 T hT hl]
  unfold kernsL
  cases rowK (kernsFrom f (closF f K) 0 f.n) T <;> rfl
theorem run_start (f:Fl):allF f=runA f (601 - 0) 0 (setsOf f []):=rfl
theorem run_end {f:Fl} {T:List (List Ir)} {i:Nat} (hi:i=T.length+1) (h:i≤600):runA f (601 - i) i (setsOf f T)=some (setsOf f T):=runA_end (by simp [setsOf,hi]) h
end Go.Proofs.YtiamjafecbpfpaaGreatDoor
namespace Go.Proofs.YtiamjafecbpfpaaGreatDoor
theorem addA_prefix (A:List (List Ir)) (g:List Ir):A <+: addA A g:=by
  unfold addA
  split
  · exact List.prefix_append _ _
  · exact List.prefix_refl _
theorem addA_nodup {A:List (List Ir)} {g:List Ir} (h:A.Nodup):(addA A g).Nodup:=by
  unfold addA
  split
  · rename_i hg
    rw [List.nodup_append]
    refine ⟨h,by simp,fun a ha b hb=>?_⟩
    simp at hb; subst hb
    rintro rfl; exact hg.2 ha
  · exact h
theorem addA_mem {A:List (List Ir)} {g:List Ir} (h:g≠[]):g∈addA A g:=by
  unfold addA
  split
  · simp
  · rename_i hg
    exact Classical.byContradiction fun hn=>hg ⟨h,hn⟩
theorem rowA_facts {f:Fl} {l:List Ir}:∀ (k s:Nat) (A A':List (List Ir)),rowA f l s k A=some A'→A.length≤600→A.Nodup→A <+: A'∧A'.Nodup∧A'.length≤600∧∀ s':Nat,s≤s'→s'<s+k→gotoF f l s'≠[]→gotoF f l s'∈A'
  | 0,s,A,A',h,hl,hn=>by
    simp only [rowA,Option.some.injEq] at h
    subst h
    exact ⟨List.prefix_refl _,hn,hl,fun s' h1 h2=>by omega⟩
  | k+1,s,A,A',h,hl,hn=>by
    rw [rowA] at h
    split at h
    · cases h
    · rename_i hle
      obtain ⟨h1,h2,h3,h4⟩:=rowA_facts k (s+1) _ A' h (by omega) (addA_nodup hn)
      refine ⟨(addA_prefix A _).trans h1,h2,h3,fun s' k1 k2 hne=>?_⟩
      rcases Nat.eq_or_lt_of_le k1 with e | e
      · subst e
        exact h1.subset (addA_mem hne)
      · exact h4 s' e (by omega) hne
theorem runA_facts {f:Fl}:∀ (k i:Nat) (A A':List (List Ir)),runA f k i A=some A'→k+i=601→A.length≤600→A.Nodup→(∀ (j:Nat) (l:List Ir),j<i→A[j]?=some l→∀ s:Nat,s<f.n→gotoF f l s≠[]→gotoF f l s∈A) →
    A <+: A'∧A'.Nodup∧A'.length≤600∧∀ (j:Nat) (l:List Ir),A'[j]?=some l→∀ s:Nat,s<f.n→gotoF f l s≠[]→gotoF f l s∈A'
  | 0,i,A,A',h,hi,hl,hn,hc=>by
    simp only [runA,Option.some.injEq] at h
    subst h
    exact ⟨List.prefix_refl _,hn,hl,fun j l hj=>hc j l (by have:=(List.getElem?_eq_some_iff.1 hj).1; omega) hj⟩
  | k+1,i,A,A',h,hi,hl,hn,hc=>by
    rw [runA] at h
    cases hA:A[i]? with
    | none =>
      rw [hA] at h
      simp only [Option.some.injEq] at h
      subst h
      have:=List.getElem?_eq_none_iff.1 hA
      exact ⟨List.prefix_refl _,hn,hl,fun j l hj=>hc j l (by have:=(List.getElem?_eq_some_iff.1 hj).1; omega) hj⟩
    | some l =>
      rw [hA] at h
      simp only at h
      cases hr:rowA f l 0 f.n A with
      | none=>rw [hr] at h; cases h
      | some A2 =>
        rw [hr] at h
        simp only at h
        obtain ⟨h1,h2,h3,h4⟩:=rowA_facts f.n 0 A A2 hr hl hn
        obtain ⟨k1,k2,k3,k4⟩:=runA_facts k (i+1) A2 A' h (by omega) h3 h2 (fun j l' hj hl' s hs hne=>by
          have hli:=(List.getElem?_eq_some_iff.1 hA).1
          obtain ⟨r,rfl⟩:=h1
          rw [List.getElem?_append_left (by omega)] at hl'
          rcases Nat.lt_or_ge j i with e | e
          · exact List.mem_append_left _ (hc j l' e hl' s hs hne)
          · obtain rfl:j=i:=by omega
            rw [hA] at hl'; cases hl'
            exact h4 s (by omega) (by omega) hne)
        exact ⟨h1.trans k1,k2,k3,k4⟩
theorem all_facts {f:Fl} {A:List (List Ir)} (h:allF f=some A):A[0]?=some (closF f (begL f))∧A.Nodup∧∀ (j:Nat) (l:List Ir),A[j]?=some l→∀ s:Nat,s<f.n→gotoF f l s≠[]→gotoF f l s∈A:=by
  obtain ⟨h1,h2,h3,h4⟩:=runA_facts 601 0 [closF f (begL f)] A h rfl (by simp) (by simp) (fun j l hj=>by omega)
  refine ⟨?_,h2,h4⟩
  obtain ⟨r,rfl⟩:=h1
  rfl
theorem findI_nodup {A:List (List Ir)} (hn:A.Nodup) {i:Nat} (hi:i<A.length):findI A A[i]=i :=
  findI_at (fun k hk hki e=>by
    have:=(List.pairwise_iff_getElem.1 hn) k i hk hi hki
    exact this e) hi rfl
end Go.Proofs.YtiamjafecbpfpaaGreatDoor
namespace Go.Proofs.YtiamjafecbpfpaaGreatDoor
def redL (f:Fl) (l:List Ir) (t:Int):List Int:=(l.filter fun x=>decide (nextI f x=none∧x.2.2=t∧0≤x.1)).map (·.1)
def accL (f:Fl) (l:List Ir) (t:Int):Bool:=l.any fun x=>decide (nextI f x=none∧x.2.2=t∧x.1<0)
def endL (f:Fl) (l:List Ir) (t:Int):Bool:=l.any fun x=>decide (nextI f x=none∧x.2.2=t)
noncomputable def toF (f:Fl) (R:List (List Ir)) (l:List Ir) (s:Nat):Option Int:=if movedL f l (s:Int)=[] then none else some (findI R (gotoF f l s):Int)
noncomputable def goRow (f:Fl) (R:List (List Ir)) (l:List Ir):List (Int × Int):=(List.range f.n).filterMap fun s=>(toF f R l s).map fun (t:Int)=>((s:Int),t)
noncomputable def actAt (f:Fl) (R:List (List Ir)) (l:List Ir) (t:Nat):Ac:=⟨t,if t<f.terms.length then (toF f R l t).getD (-1) else -1,redL f l t,accL f l t⟩
def someA (a:Ac):Bool:=decide (0≤a.to∨a.acc=true∨a.red≠[])
noncomputable def actRow (f:Fl) (R:List (List Ir)) (l:List Ir):List Ac:=((List.range (f.terms.length+1)).map (actAt f R l)).filter someA
noncomputable def rowT (f:Fl) (R:List (List Ir)) (l:List Ir):Rw:=⟨actRow f R l,goRow f R l⟩
noncomputable def tabF (f:Fl):Option (List Rw):=(allF f).map fun R=>R.map (rowT f R)
theorem redL_append (f:Fl) (l m:List Ir) (t:Int):redL f (l++m) t=redL f l t++redL f m t:=by simp [redL]
theorem accL_append (f:Fl) (l m:List Ir) (t:Int):accL f (l++m) t=(accL f l t || accL f m t):=by simp [accL]
theorem endL_append (f:Fl) (l m:List Ir) (t:Int):endL f (l++m) t=(endL f l t || endL f m t):=by simp [endL]
theorem movedL_append (f:Fl) (l m:List Ir) (s:Int):movedL f (l++m) s=movedL f l s++movedL f m s:=by simp [movedL]
theorem endL_iff (f:Fl) (l:List Ir) (t:Int):endL f l t=true↔redL f l t≠[]∨accL f l t=true:=by
  simp only [endL,accL,redL,List.any_eq_true,decide_eq_true_eq,ne_eq,List.map_eq_nil_iff,List.filter_eq_nil_iff,Classical.not_forall]
  constructor
  · rintro ⟨x,hx,h1,h2⟩
    rcases (by omega:x.1<0∨0≤x.1) with h | h
    · exact .inr ⟨x,hx,h1,h2,h⟩
    · exact .inl ⟨x,hx,fun hn=>hn ⟨h1,h2,h⟩⟩
  · rintro (⟨x,hx,h⟩ | ⟨x,hx,h1,h2,_⟩)
    · simp only [Classical.not_not] at h
      exact ⟨x,hx,h.1,h.2.1⟩
    · exact ⟨x,hx,h1,h2⟩
theorem endL_look {f:Fl} {l:List Ir} (hl:∀ x∈l,fitI f x=true) {t:Int} (h:endL f l t=true):0≤t∧t≤f.terms.length:=by
  simp only [endL,List.any_eq_true,decide_eq_true_eq] at h
  obtain ⟨x,hx,_,rfl⟩:=h
  have:=fitI_iff.1 (hl x hx)
  omega
def enc2 (n:Int):List UInt8:=[UInt8.ofNat ((n / 256) % 256).toNat,UInt8.ofNat (n % 256).toNat]
def encN (l:List Int):List UInt8:=l.flatMap enc2
def badN (l:List Int):Bool:=l.any fun n=>decide (n<0∨n > 65535)
def encT (x:Ir):List UInt8:=encN [x.1+1,x.2.1,x.2.2]
def keyT (K:List Ir):List UInt8:=K.flatMap encT
theorem encT_len (x:Ir):(encT x).length=6:=rfl
theorem keyT_len:∀ K:List Ir,(keyT K).length=6 * K.length
  | []=>rfl
  | x :: K=>by
    have:=keyT_len K
    unfold keyT at this ⊢
    rw [List.flatMap_cons,List.length_append,this,encT_len,List.length_cons]
    omega
theorem keyT_nil {K:List Ir}:keyT K=[]↔K=[]:=by
  constructor
  · intro h
    have:=keyT_len K
    rw [h] at this
    exact List.length_eq_zero_iff.1 (by simp at this; omega)
  · rintro rfl; rfl
theorem keyT_append (K M:List Ir):keyT (K++M)=keyT K++keyT M:=by simp [keyT]
theorem enc2_inj {a b:Int} (ha:0≤a∧a≤65535) (hb:0≤b∧b≤65535) (h:enc2 a=enc2 b):a=b:=by
  simp only [enc2,List.cons.injEq,and_true] at h
  obtain ⟨h1,h2⟩:=h
  have e1:=congrArg UInt8.toNat h1
  have e2:=congrArg UInt8.toNat h2
  simp only [UInt8.toNat_ofNat'] at e1 e2
  omega
def FitT (x:Ir):Prop:=0≤x.1+1∧x.1+1≤65535∧0≤x.2.1∧x.2.1≤65535∧0≤x.2.2∧x.2.2≤65535
theorem encT_inj {x y:Ir} (hx:FitT x) (hy:FitT y) (h:encT x=encT y):x=y:=by
  unfold FitT at hx hy
  unfold encT encN at h
  simp only [List.flatMap_cons,List.flatMap_nil,List.append_nil] at h
  have l2:∀ n:Int,(enc2 n).length=2:=fun _=>rfl
  obtain ⟨h1,h'⟩:=List.append_inj h (by rw [l2,l2])
  obtain ⟨h2,h3⟩:=List.append_inj h' (by rw [l2,l2])
  have e1:=enc2_inj ⟨hx.1,hx.2.1⟩ ⟨hy.1,hy.2.1⟩ h1
  have e2:=enc2_inj ⟨hx.2.2.1,hx.2.2.2.1⟩ ⟨hy.2.2.1,hy.2.2.2.1⟩ h2
  have e3:=enc2_inj ⟨hx.2.2.2.2.1,hx.2.2.2.2.2⟩ ⟨hy.2.2.2.2.1,hy.2.2.2.2.2⟩ h3
  exact ir_ext (by omega) e2 e3
theorem keyT_inj:∀ {K M:List Ir},(∀ x∈K,FitT x)→(∀ x∈M,FitT x)→keyT K=keyT M→K=M
  | [],M,_,_,h=>(keyT_nil.1 h.symm).symm
  | x :: K,[],_,_,h=>keyT_nil.1 h
  | x :: K,y :: M,hK,hM,h=>by
    unfold keyT at h
    rw [List.flatMap_cons,List.flatMap_cons] at h
    obtain ⟨h1,h2⟩:=List.append_inj h (by rw [encT_len,encT_len])
    rw [encT_inj (hK x (by simp)) (hM y (by simp)) h1,keyT_inj (fun z hz=>hK z (by simp [hz])) (fun z hz=>hM z (by simp [hz])) h2]
theorem fitT_of {f:Fl} (hp:FitP f) {x:Ir} (h:fitI f x=true):FitT x:=by
  have h1:=fitI_iff.1 h
  have h2:=rightI_le hp x.1
  have h3:=hp.prods
  have h4:f.terms.length+f.nons.length≤600:=hp.size
  unfold FitT
  omega
def dotL (l:List Ir):List Ir:=l.filter fun x=>decide (0<x.2.1)
theorem dotL_append (l m:List Ir):dotL (l++m)=dotL l++dotL m:=by simp [dotL]
theorem dotL_kern {f:Fl} (hp:FitP f) {K:List Ir} (h:Kern f K):dotL (closF f K)=K:=by
  refine risingI_ext ?_ h.rise (fun x=>?_)
  · exact List.Pairwise.filter _ (closF_spec hp K).1
  · rw [h.mem hp x]
    simp [dotL]
theorem dotL_beg {f:Fl} (hp:FitP f):dotL (closF f (begL f))=[]:=by
  refine List.eq_nil_iff_forall_not_mem.2 (fun x hx=>?_)
  simp only [dotL,List.mem_filter,decide_eq_true_eq] at hx
  rw [(closF_spec hp _).2 x] at hx
  rcases cl_dot hx.1 with h2 | h2
  · simp [begL] at h2; subst h2; exact absurd hx.2 (by simp)
  · omega
theorem sets_of_run {f:Fl} (hp:FitP f):∀ (m i:Nat) (T R:List (List Ir)),m=601 - i→Met f T→T.Nodup→T.length+1≤600→i≤T.length+1→runA f (601 - i) i (setsOf f T)=some R→∃ T',R=setsOf f T'∧Met f T'∧T'.Nodup∧T'.length+1≤600
  | 0,i,T,R,hm,_,_,hl,hi,_=>by omega
  | m+1,i,T,R,hm,hT,hn,hl,hi,h=>by
    by_cases he:i=T.length+1
    · rw [run_end he (by omega)] at h
      exact ⟨T,(Option.some.inj h).symm,hT,hn,hl⟩
    · have hlt:i<(begL f :: T).length:=by rw [List.length_cons]; omega
      have hK:(begL f :: T)[i]?=some (begL f :: T)[i]:=List.getElem?_eq_getElem hlt
      rw [run_step hp hT hl (by omega) hK] at h
      cases hr:rowK (kernsL f (closF f (begL f :: T)[i])) T with
      | none=>rw [hr] at h; cases h
      | some T' =>
        rw [hr] at h
        obtain ⟨k1,k2,k3,k4⟩:=rowK_met _ T T' (kernsL_kern (closF_spec hp _).1) hT hn hl hr
        have:=k4.length_le
        exact sets_of_run hp m (i+1) T' R (by omega) k1 k2 k3 (by omega) (by rw [show 601 - (i+1)=600 - i by omega]; exact h)
theorem all_sets {f:Fl} (hp:FitP f) {R:List (List Ir)} (h:allF f=some R):∃ T,R=setsOf f T∧Met f T∧T.Nodup∧T.length+1≤600 :=
  sets_of_run hp 601 0 [] R rfl (fun K hK=>by cases hK) List.nodup_nil (by simp) (by simp) (by rw [← run_start]; exact h)
theorem goto_place {f:Fl} (hp:FitP f) {R:List (List Ir)} (h:allF f=some R) {i:Nat} {l:List Ir} (hl:R[i]?=some l) {s:Nat} (hs:s<f.n) (hne:movedL f l (s:Int)≠[]) :
    ∃ j,∃ hj:j<R.length,dotL R[j]=movedL f l (s:Int)∧findI R (gotoF f l s)=j:=by
  obtain ⟨T,rfl,hT,hn,hlen⟩:=all_sets hp h
  obtain ⟨h0,hnd,hcl⟩:=all_facts h
  have hrise:RisingI l:=by
    have hm:=List.mem_of_getElem? hl
    unfold setsOf at hm
    rcases List.mem_cons.1 hm with rfl | hm
    · exact (closF_spec hp _).1
    · obtain ⟨K,_,rfl⟩:=List.mem_map.1 hm
      exact (closF_spec hp _).1
  have hK:=movedL_kern hrise hne
  have hg:gotoF f l s=closF f (movedL f l (s:Int)):=rfl
  have hm:=hcl i l hl s hs (by rw [hg]; exact closF_ne hp hK)
  obtain ⟨j,hj,e⟩:=List.getElem_of_mem hm
  refine ⟨j,hj,?_,by rw [← e]; exact findI_nodup hnd hj⟩
  rw [e,hg]; exact dotL_kern hp hK
theorem keys_apart {f:Fl} (hp:FitP f) {R:List (List Ir)} (h:allF f=some R) {i j:Nat} (hi:i<R.length) (hj:j<R.length) (e:keyT (dotL R[i])=keyT (dotL R[j])):i=j:=by
  obtain ⟨T,rfl,hT,hn,hlen⟩:=all_sets hp h
  have hd:∀ (i:Nat) (hi:i<(setsOf f T).length),(i=0∧dotL (setsOf f T)[i]=[])∨∃ k,∃ hk:k<T.length,i=k+1∧dotL (setsOf f T)[i]=T[k]:=fun i hi=>by
    rcases i with _ | k
    · exact .inl ⟨rfl,dotL_beg hp⟩
    · have hk:k<T.length:=by simp [setsOf] at hi; omega
      exact .inr ⟨k,hk,rfl,by simp only [setsOf,List.getElem_cons_succ,List.getElem_map]; exact dotL_kern hp (hT _ (List.getElem_mem hk))⟩
  have hf:∀ (k:Nat) (hk:k<T.length),∀ x∈T[k],FitT x:=fun k hk x hx=>fitT_of hp ((hT _ (List.getElem_mem hk)).fit x hx)
  rcases hd i hi with ⟨rfl,ei⟩ | ⟨a,ha,rfl,ei⟩
  · rcases hd j hj with ⟨rfl,_⟩ | ⟨b,hb,rfl,ej⟩
    · rfl
    · rw [ei,ej] at e
      exact absurd (keyT_nil.1 e.symm) (hT _ (List.getElem_mem hb)).ne
  · rcases hd j hj with ⟨rfl,ej⟩ | ⟨b,hb,rfl,ej⟩
    · rw [ei,ej] at e
      exact absurd (keyT_nil.1 e) (hT _ (List.getElem_mem ha)).ne
    · rw [ei,ej] at e
      have:=keyT_inj (hf a ha) (hf b hb) e
      rw [(List.getElem_inj hn).1 this]
theorem sets_fit {f:Fl} (hp:FitP f) {R:List (List Ir)} (h:allF f=some R) {l:List Ir} (hl:l∈R):RisingI l∧∀ x∈l,fitI f x=true:=by
  obtain ⟨T,rfl,hT,hn,hlen⟩:=all_sets hp h
  unfold setsOf at hl
  rcases List.mem_cons.1 hl with rfl | hm
  · exact ⟨(closF_spec hp _).1,fun x hx=>cl_fit (((closF_spec hp _).2 x).1 hx)⟩
  · obtain ⟨K,_,rfl⟩:=List.mem_map.1 hm
    exact ⟨(closF_spec hp _).1,fun x hx=>cl_fit (((closF_spec hp _).2 x).1 hx)⟩
end Go.Proofs.YtiamjafecbpfpaaGreatDoor
namespace Go.Proofs.YtiamjafecbpfpaaGreatDoor
open Go.RowKit
theorem encN_take {l:List Int} {j:Nat} (h:j<l.length):encN (l.take (j+1))=encN (l.take j)++enc2 l[j]:=by
  unfold encN
  rw [List.take_succ_eq_append_getElem h,List.flatMap_append]
  simp
theorem badN_take {l:List Int} {j:Nat} (h:j<l.length):badN (l.take (j+1))=(badN (l.take j) || decide (l[j]<0∨l[j] > 65535)):=by
  unfold badN
  rw [List.take_succ_eq_append_getElem h,List.any_append]
  simp
theorem encN_len:∀ (l:List Int),(encN l).length=2 * l.length
  | []=>rfl
  | x :: l=>by
    have:=encN_len l
    unfold encN at this ⊢
    rw [List.flatMap_cons,List.length_append,this,List.length_cons]
    show 2+_=_
    omega
theorem u8_wrap {q:Int}:IntKind.u8.wrap q=((UInt8.ofNat (q % 256).toNat).toNat:Int):=by
  simp [IntKind.wrap,IntKind.bits,IntKind.signed]
  omega
set_option maxRecDepth 100000 in
set_option maxHeartbeats 2000000 in
theorem numbers_gen {B g i:Nat} {L:List Wr} {x:Wr} (l:List Int) (v:Value) (w:World) (hl:SlI l v w) (h:WsAt B g L w) (hx:L[i]?=some x) (hap:∀ ad n c,v=.slice (some ad) n c→l≠[]→¬ inW g w ad.block) (hll:l.length≤1000000) (hbl:x.bs.length+2 * l.length≤140737488355328) (hBw:B≤w.heap.size) :
    Calls Tryz.prog 32 #[.pointer (some ⟨g,i * 3,none⟩),v] w fun e w'=>e=.returned (.tuple #[])∧WsAt B g (L.set i ⟨x.bs++encN l,x.bad || badN l⟩) w'∧Wrote g w w':=by
  have HB:Hid (∀ (u:UInt8) (L':List Wr) (y:Wr) W,WsAt B g L' W→L'[i]?=some y→y.bs.length≤140737488355327→B≤W.heap.size→Calls Tryz.prog 50 #[.pointer (some ⟨g,i * 3,none⟩),.int .u8 u.toNat] W fun e w'=>e=.returned .nilIface∧WsAt B g (L'.set i ⟨y.bs++[u],y.bad⟩) w'∧Wrote g W w'):=fun u L' y W h1 h2 h3 h4=>byte_any u W h1 h2 h3 h4
  have hlt0:i<L.length:=(List.getElem?_eq_some_iff.1 hx).1
  have HL:Hid (∀ W,Wrote g w W→SlI l v W):=fun W hW=>by
    obtain ⟨la,lc,rfl,hr,h1,h2,h3⟩:=hl
    refine ⟨la,lc,rfl,fun k y hk=>?_,h1,h2,h3⟩
    obtain ⟨b,off,e0,hb,hc⟩:=hr k y hk
    refine ⟨b,off,e0,Nat.lt_of_lt_of_le hb hW.1.size,?_⟩
    rw [← hc]
    exact hW.1.cell (p:=⟨b,off+k,none⟩) hb (hap ⟨b,off,none⟩ _ _ (by rw [e0]) (by rintro rfl; simp at hk))
  obtain ⟨la,lc,rfl,_⟩:=hl
  obtain ⟨o,ho⟩:∃ o,i * 3=o:=⟨_,rfl⟩
  have HW0:Hid (WsAt B g (L.set i ⟨x.bs++encN (l.take 0),x.bad || badN (l.take 0)⟩) w):=by
    show WsAt _ _ _ _
    have e:L.set i ⟨x.bs++encN (l.take 0),x.bad || badN (l.take 0)⟩=L:=by
      have:(⟨x.bs++encN (l.take 0),x.bad || badN (l.take 0)⟩:Wr)=x:=by simp [encN,badN]
      rw [this]
      obtain ⟨hi',e⟩:=List.getElem?_eq_some_iff.1 hx
      rw [← e]; exact List.set_getElem_self _
    rw [e]; exact h
  clear h hap
  rw [ho] at HB ⊢
  go_enter Tryz.func32,Tryz.ntmps32
  go_wp2_with fail
  go_loopw [8] (fun iv wr=>∃ (j:Nat),iv=.int .i64 j∧j≤l.length∧WsAt B g (L.set i ⟨x.bs++encN (l.take j),x.bad || badN (l.take j)⟩) wr∧Wrote g w wr) (fun i _=>l.length - (intOf i).toNat)
  case atStart=>exact ⟨0,rfl,Nat.zero_le _,HW0.out,Wrote.refl _ _⟩
  case round =>
  clear HW0
  obtain ⟨j,rfl,hj,hW,hw⟩:=hrel
  by_cases hlt:j<l.length
  case neg =>
    obtain rfl:j=l.length:=by omega
    rw [List.take_of_length_le (Nat.le_refl _)] at hW
    have HR:Hid (WsAt B g (L.set i ⟨x.bs++encN l,x.bad || badN l⟩) wr∧Wrote g w wr):=⟨hW,hw⟩
    clear hW hw HL HB
    go_wp2_with fail
    go_end0
    exact ⟨rfl,HR.out⟩
  obtain ⟨_,_,e0,hrl,_⟩:=HL.out _ hw
  cases e0
  obtain ⟨b2,o2,rfl,hb2,p0⟩:=hrl.at (Below.refl _ _) hlt
  unfold encI at p0
  have hek:=encN_take hlt
  have hbk:=badN_take hlt
  have hel:(encN (l.take j)).length=2 * j:=by rw [encN_len,List.length_take]; omega
  have hsz:=hw.1.size
  generalize l[j]=p at *
  generalize encN (l.take j)=E at *
  generalize badN (l.take j)=Bd at *
  have HEK:Hid (encN (l.take (j+1))=E++enc2 p):=hek
  have HBK:Hid (badN (l.take (j+1))=(Bd || decide (p<0∨p > 65535))):=hbk
  have HW:Hid (WsAt B g (L.set i ⟨x.bs++E,x.bad || Bd⟩) wr∧Wrote g w wr):=⟨hW,hw⟩
  have hset:∀ y,(L.set i y)[i]?=some y:=fun y=>by rw [List.getElem?_set_self hlt0]
  have HST:Hid (∀ y,(L.set i y)[i]?=some y):=hset
  obtain ⟨cs,hc,hs⟩:=hW.blk
  have hf2:wr.frozen? ⟨g,o+2,none⟩=false:=Lib.frozen_of_heap hc _
  have hcb:=hW.bad i _ (hset _)
  rw [ho] at hcb
  obtain ⟨u1,hu1⟩:∃ u,UInt8.ofNat ((p / 256) % 256).toNat=u:=⟨_,rfl⟩
  obtain ⟨u2,hu2⟩:∃ u,UInt8.ofNat (p % 256).toNat=u:=⟨_,rfl⟩
  have hwb1:IntKind.u8.wrap (p / 256)=(u1.toNat:Int):=by rw [← hu1]; exact u8_wrap
  have hwb2:IntKind.u8.wrap p=(u2.toNat:Int):=by rw [← hu2]; exact u8_wrap
  have HU:Hid (enc2 p=[u1,u2]):=by show _=_; rw [← hu1,← hu2]; rfl
  clear hu1 hu2
  by_cases hbad:p<0∨p > 65535
  · obtain ⟨BD,hBD⟩:∃ BD:Bool,true=BD:=⟨_,rfl⟩
    have HBD:Hid (((x.bad || Bd) || decide (p<0∨p > 65535))=BD):=by show _=_; rw [decide_eq_true hbad,← hBD]; simp
    have HS:=hW.setBad true (hset _)
    rw [ho] at HS
    have HW1:Hid (WsAt B g (L.set i ⟨x.bs++E,BD⟩) (wr.setCell ⟨g,o+2,none⟩ (.bool true))∧Wrote g w (wr.setCell ⟨g,o+2,none⟩ (.bool true))):=by
      refine ⟨?_,hw.trans HS.2⟩
      have:=HS.1
      rw [List.set_set] at this
      rw [← hBD]
      exact this
    clear HS hW hw HW hc hs hset hBD hek hbk hrl
    by_cases hneg:p<0
    · have hd1:decide (p<0)=true:=decide_eq_true hneg
      go_upto_region 5 with fail
      generalize wr.setCell ⟨g,o+2,none⟩ (.bool true)=W1 at *
      obtain ⟨hW1,hw1⟩:=HW1.out
      have hsz1:=hw1.1.size
      have HC1:Hid (Calls Tryz.prog 50 #[.pointer (some ⟨g,o,none⟩),.int .u8 u1.toNat] W1 fun e w'=>e=.returned .nilIface∧WsAt B g ((L.set i ⟨x.bs++E,BD⟩).set i ⟨x.bs++E++[u1],BD⟩) w'∧Wrote g W1 w'):=HB.out _ _ ⟨x.bs++E,BD⟩ W1 hW1 (HST.out _) (by simp; omega) (Nat.le_trans hBw hsz1)
      have HW9:Hid (Wrote g w W1):=hw1
      clear hW1 HW1 hw1 hf2 hcb
      go_wp2_with fail
      refine HC1.out.mono ?_
      rintro e w2 ⟨rfl,hW2,hw2⟩
      rw [List.set_set] at hW2
      have hsz2:=hw2.1.size
      have HC2:Hid (Calls Tryz.prog 50 #[.pointer (some ⟨g,o,none⟩),.int .u8 u2.toNat] w2 fun e w'=>e=.returned .nilIface∧WsAt B g ((L.set i ⟨x.bs++E++[u1],BD⟩).set i ⟨x.bs++E++[u1]++[u2],BD⟩) w'∧Wrote g w2 w'):=HB.out _ _ ⟨x.bs++E++[u1],BD⟩ w2 hW2 (HST.out _) (by simp; omega) (Nat.le_trans hBw (Nat.le_trans hsz1 hsz2))
      have HW8:Hid (Wrote g w w2):=HW9.out.trans hw2
      clear hW2 hw2 HC1 HW9
      go_wp2_with fail
      refine HC2.out.mono ?_
      rintro e w3 ⟨rfl,hW3,hw3⟩
      rw [List.set_set] at hW3
      have HF:Hid (WsAt B g (L.set i ⟨x.bs++encN (l.take (j+1)),x.bad || badN (l.take (j+1))⟩) w3∧Wrote g w w3):=by
        refine ⟨?_,HW8.out.trans hw3⟩
        rw [HEK.out,HBK.out]
        have e1:(⟨x.bs++(E++enc2 p),x.bad || (Bd || decide (p<0∨p > 65535))⟩:Wr)=⟨x.bs++E++[u1]++[u2],BD⟩:=by
          rw [← HBD.out,← Bool.or_assoc]
          rw [HU.out]; simp
        rw [e1]; exact hW3
      clear hW3 hw3 HC2 HW8 HEK HBK HB HL hwb1 hwb2
      go_wp2_with fail
      exact ⟨⟨j+1,by go_num,by omega,HF.out⟩,by simp [intOf]; omega⟩
    · have hd1:decide (p<0)=false:=decide_eq_false hneg
      have hgt:p > 65535:=hbad.resolve_left hneg
      have hd2:decide (p > 65535)=true:=decide_eq_true hgt
      go_upto_region 5 with fail
      generalize wr.setCell ⟨g,o+2,none⟩ (.bool true)=W1 at *
      obtain ⟨hW1,hw1⟩:=HW1.out
      have hsz1:=hw1.1.size
      have HC1:Hid (Calls Tryz.prog 50 #[.pointer (some ⟨g,o,none⟩),.int .u8 u1.toNat] W1 fun e w'=>e=.returned .nilIface∧WsAt B g ((L.set i ⟨x.bs++E,BD⟩).set i ⟨x.bs++E++[u1],BD⟩) w'∧Wrote g W1 w'):=HB.out _ _ ⟨x.bs++E,BD⟩ W1 hW1 (HST.out _) (by simp; omega) (Nat.le_trans hBw hsz1)
      have HW9:Hid (Wrote g w W1):=hw1
      clear hW1 HW1 hw1 hf2 hcb
      go_wp2_with fail
      refine HC1.out.mono ?_
      rintro e w2 ⟨rfl,hW2,hw2⟩
      rw [List.set_set] at hW2
      have hsz2:=hw2.1.size
      have HC2:Hid (Calls Tryz.prog 50 #[.pointer (some ⟨g,o,none⟩),.int .u8 u2.toNat] w2 fun e w'=>e=.returned .nilIface∧WsAt B g ((L.set i ⟨x.bs++E++[u1],BD⟩).set i ⟨x.bs++E++[u1]++[u2],BD⟩) w'∧Wrote g w2 w'):=HB.out _ _ ⟨x.bs++E++[u1],BD⟩ w2 hW2 (HST.out _) (by simp; omega) (Nat.le_trans hBw (Nat.le_trans hsz1 hsz2))
      have HW8:Hid (Wrote g w w2):=HW9.out.trans hw2
      clear hW2 hw2 HC1 HW9
      go_wp2_with fail
      refine HC2.out.mono ?_
      rintro e w3 ⟨rfl,hW3,hw3⟩
      rw [List.set_set] at hW3
      have HF:Hid (WsAt B g (L.set i ⟨x.bs++encN (l.take (j+1)),x.bad || badN (l.take (j+1))⟩) w3∧Wrote g w w3):=by
        refine ⟨?_,HW8.out.trans hw3⟩
        rw [HEK.out,HBK.out]
        have e1:(⟨x.bs++(E++enc2 p),x.bad || (Bd || decide (p<0∨p > 65535))⟩:Wr)=⟨x.bs++E++[u1]++[u2],BD⟩:=by
          rw [← HBD.out,← Bool.or_assoc]
          rw [HU.out]; simp
        rw [e1]; exact hW3
      clear hW3 hw3 HC2 HW8 HEK HBK HB HL hwb1 hwb2
      go_wp2_with fail
      exact ⟨⟨j+1,by go_num,by omega,HF.out⟩,by simp [intOf]; omega⟩
  · have hneg:¬ p<0:=fun h=>hbad (.inl h)
    have hgt:¬ p > 65535:=fun h=>hbad (.inr h)
    have hd1:decide (p<0)=false:=decide_eq_false hneg
    have hd2:decide (p > 65535)=false:=decide_eq_false hgt
    obtain ⟨BD,hBD⟩:∃ BD:Bool,(x.bad || Bd)=BD:=⟨_,rfl⟩
    have HBD:Hid (((x.bad || Bd) || decide (p<0∨p > 65535))=BD):=by show _=_; rw [decide_eq_false hbad,← hBD]; simp
    have HW1:Hid (WsAt B g (L.set i ⟨x.bs++E,BD⟩) wr∧Wrote g w wr):=by rw [hBD] at HW; exact HW.out
    clear hW hw HW hc hs hset hBD hek hbk hrl
    go_upto_region 5 with fail
    generalize hWR:wr=W1 at *
    clear hWR
    obtain ⟨hW1,hw1⟩:=HW1.out
    have hsz1:=hw1.1.size
    have HC1:Hid (Calls Tryz.prog 50 #[.pointer (some ⟨g,o,none⟩),.int .u8 u1.toNat] W1 fun e w'=>e=.returned .nilIface∧WsAt B g ((L.set i ⟨x.bs++E,BD⟩).set i ⟨x.bs++E++[u1],BD⟩) w'∧Wrote g W1 w'):=HB.out _ _ ⟨x.bs++E,BD⟩ W1 hW1 (HST.out _) (by simp; omega) (Nat.le_trans hBw hsz1)
    have HW9:Hid (Wrote g w W1):=hw1
    clear hW1 HW1 hw1 hf2 hcb
    go_wp2_with fail
    refine HC1.out.mono ?_
    rintro e w2 ⟨rfl,hW2,hw2⟩
    rw [List.set_set] at hW2
    have hsz2:=hw2.1.size
    have HC2:Hid (Calls Tryz.prog 50 #[.pointer (some ⟨g,o,none⟩),.int .u8 u2.toNat] w2 fun e w'=>e=.returned .nilIface∧WsAt B g ((L.set i ⟨x.bs++E++[u1],BD⟩).set i ⟨x.bs++E++[u1]++[u2],BD⟩) w'∧Wrote g w2 w'):=HB.out _ _ ⟨x.bs++E++[u1],BD⟩ w2 hW2 (HST.out _) (by simp; omega) (Nat.le_trans hBw (Nat.le_trans hsz1 hsz2))
    have HW8:Hid (Wrote g w w2):=HW9.out.trans hw2
    clear hW2 hw2 HC1 HW9
    go_wp2_with fail
    refine HC2.out.mono ?_
    rintro e w3 ⟨rfl,hW3,hw3⟩
    rw [List.set_set] at hW3
    have HF:Hid (WsAt B g (L.set i ⟨x.bs++encN (l.take (j+1)),x.bad || badN (l.take (j+1))⟩) w3∧Wrote g w w3):=by
      refine ⟨?_,HW8.out.trans hw3⟩
      rw [HEK.out,HBK.out]
      have e1:(⟨x.bs++(E++enc2 p),x.bad || (Bd || decide (p<0∨p > 65535))⟩:Wr)=⟨x.bs++E++[u1]++[u2],BD⟩:=by
        rw [← HBD.out,← Bool.or_assoc]
        rw [HU.out]; simp
      rw [e1]; exact hW3
    clear hW3 hw3 HC2 HW8 HEK HBK HB HL hwb1 hwb2
    go_wp2_with fail
    exact ⟨⟨j+1,by go_num,by omega,HF.out⟩,by simp [intOf]; omega⟩
theorem numbers_any {B g i:Nat} {L:List Wr} {x:Wr} (l:List Int) (v:Value) (w:World) (hl:SlI l v w) (h:WsAt B g L w) (hx:L[i]?=some x) (hap:∀ ad n c,v=.slice (some ad) n c→l≠[]→¬ inW g w ad.block) (hll:l.length≤1000000) (hbl:x.bs.length≤100000000) (hBw:B≤w.heap.size) :
    Calls Tryz.prog 32 #[.pointer (some ⟨g,i * 3,none⟩),v] w fun e w'=>e=.returned (.tuple #[])∧WsAt B g (L.set i ⟨x.bs++encN l,x.bad || badN l⟩) w'∧Wrote g w w' :=
  numbers_gen l v w hl h hx hap hll (by omega) hBw
def up1 (x:Int):Int:=if x=9223372036854775807 then -9223372036854775808 else x+1
def accI (b:Bool):Int:=if b then 1 else 0
def numsA (a:Ac):List Int:=[a.look,up1 a.to,(a.red.length:Int)]++a.red++[accI a.acc]
def numsG (g:Int × Int):List Int:=[g.1,g.2]
def numsR (r:Rw):List Int:=[(r.acts.length:Int)]++r.acts.flatMap numsA++[(r.goes.length:Int)]++r.goes.flatMap numsG
def numsT (l:List Rw):List Int:=[(l.length:Int)]++l.flatMap numsR
def encTab (l:List Rw):List UInt8:=if badN (numsT l) then [] else encN (numsT l)
theorem encN_append (a b:List Int):encN (a++b)=encN a++encN b:=by unfold encN; rw [List.flatMap_append]
theorem badN_append (a b:List Int):badN (a++b)=(badN a || badN b):=by unfold badN; rw [List.any_append]
theorem flat_take {α:Type} (f:α→List Int) {l:List α} {k:Nat} (h:k<l.length):(l.take (k+1)).flatMap f=(l.take k).flatMap f++f l[k]:=by
  rw [List.take_succ_eq_append_getElem h,List.flatMap_append]; simp
theorem numsA_len (a:Ac):(numsA a).length=a.red.length+4:=by simp [numsA]
theorem numsAs_len:∀ l:List Ac,(l.flatMap numsA).length≤4 * sizeA l
  | []=>by simp [sizeA]
  | a :: l=>by
    have:=numsAs_len l
    have h:=numsA_len a
    unfold sizeA at this ⊢
    rw [List.flatMap_cons,List.length_append,List.map_cons,List.sum_cons]
    omega
theorem numsGs_len:∀ l:List (Int × Int),(l.flatMap numsG).length=2 * l.length
  | []=>rfl
  | a :: l=>by
    have:=numsGs_len l
    rw [List.flatMap_cons,List.length_append,this,List.length_cons]
    show 2+_=_
    omega
theorem numsR_len (r:Rw):(numsR r).length≤4 * sizeR r:=by
  have h1:=numsAs_len r.acts
  have h2:=numsGs_len r.goes
  unfold numsR sizeR
  simp only [List.length_append,List.length_cons,List.length_nil]
  omega
theorem numsRs_len:∀ l:List Rw,(l.flatMap numsR).length≤4 * sizeTb l
  | []=>by simp [sizeTb]
  | a :: l=>by
    have:=numsRs_len l
    have h:=numsR_len a
    unfold sizeTb at this ⊢
    rw [List.flatMap_cons,List.length_append,List.map_cons,List.sum_cons]
    omega
abbrev Rd (α:Type):=List UInt8→Except Int (α × List UInt8)
def rdN:Rd Int
  | a :: b :: r=>.ok ((a.toNat:Int) * 256+b.toNat,r)
  | _=>.error 11
def rdK {α:Type} (one:Rd α):Nat→Rd (List α)
  | 0,s=>.ok ([],s)
  | n+1,s=>match one s with
    | .error e=>.error e
    | .ok (x,s)=>match rdK one n s with
      | .error e=>.error e
      | .ok (l,s)=>.ok (x :: l,s)
def rdL {α:Type} (one:Rd α):Rd (List α):=fun s=>match rdN s with
  | .error e=>.error e
  | .ok (n,s)=>rdK one n.toNat s
def rdB:Rd Bool:=fun s=>match rdN s with
  | .error e=>.error e
  | .ok (n,s)=>if n > 1 then .error 10 else .ok (decide (n=1),s)
def rdA:Rd Ac:=fun s=>match rdN s with
  | .error e=>.error e
  | .ok (look,s)=>match rdN s with
    | .error e=>.error e
    | .ok (to,s)=>match rdL rdN s with
      | .error e=>.error e
      | .ok (red,s)=>match rdB s with
        | .error e=>.error e
        | .ok (acc,s)=>.ok (⟨look,to - 1,red,acc⟩,s)
def rdG:Rd (Int × Int):=fun s=>match rdN s with
  | .error e=>.error e
  | .ok (sym,s)=>match rdN s with
    | .error e=>.error e
    | .ok (to,s)=>.ok ((sym,to),s)
def rdR:Rd Rw:=fun s=>match rdL rdA s with
  | .error e=>.error e
  | .ok (acts,s)=>match rdL rdG s with
    | .error e=>.error e
    | .ok (goes,s)=>.ok (⟨acts,goes⟩,s)
def rdT (s:List UInt8):Except Int (List Rw):=match rdL rdR s with
  | .error e=>.error e
  | .ok (l,s)=>if s=[] then .ok l else .error 10
theorem rdN_lt {s r:List UInt8} {n:Int} (h:rdN s=.ok (n,r)):0≤n∧n≤65535∧s.length=r.length+2:=by
  match s with
  | []=>simp [rdN] at h
  | [_]=>simp [rdN] at h
  | a :: b :: t =>
    simp only [rdN,Except.ok.injEq,Prod.mk.injEq] at h
    obtain ⟨rfl,rfl⟩:=h
    have:=a.toNat_lt
    have:=b.toNat_lt
    refine ⟨by omega,by omega,by simp⟩
theorem rdK_snoc {α:Type} (one:Rd α):∀ (n:Nat) (s:List UInt8),rdK one (n+1) s=match rdK one n s with
    | .error e=>.error e
    | .ok (l,s)=>match one s with
      | .error e=>.error e
      | .ok (x,s)=>.ok (l++[x],s)
  | 0,s=>by
    simp only [rdK]
    cases one s with
    | error e=>rfl
    | ok p=>obtain ⟨x,s'⟩:=p; rfl
  | n+1,s=>by
    rw [rdK]
    cases h:one s with
    | error e=>simp only [rdK,h]
    | ok p =>
      obtain ⟨x,s'⟩:=p
      simp only [rdK,h]
      have ih:=rdK_snoc one n s'
      simp only [rdK] at ih
      rw [ih]
      cases rdK one n s' with
      | error e=>rfl
      | ok q =>
        obtain ⟨l,s2⟩:=q
        simp only
        cases one s2 with
        | error e=>rfl
        | ok q=>obtain ⟨y,s3⟩:=q; rfl
theorem rdK_len {α:Type} {one:Rd α}:∀ {n:Nat} {s r:List UInt8} {l:List α},rdK one n s=.ok (l,r)→l.length=n
  | 0,s,r,l,h=>by simp only [rdK,Except.ok.injEq,Prod.mk.injEq] at h; rw [← h.1]; rfl
  | n+1,s,r,l,h=>by
    simp only [rdK] at h
    cases h1:one s with
    | error e=>simp [h1] at h
    | ok p =>
      obtain ⟨x,s'⟩:=p
      simp only [h1] at h
      cases h2:rdK one n s' with
      | error e=>simp [h2] at h
      | ok q =>
        obtain ⟨m,s2⟩:=q
        simp only [h2,Except.ok.injEq,Prod.mk.injEq] at h
        rw [← h.1,List.length_cons,rdK_len h2]
theorem rdK_err {α:Type} {one:Rd α} {e:Int} {s:List UInt8}:∀ {n m:Nat},n≤m→rdK one n s=.error e→rdK one m s=.error e
  | n,0,h,he=>by
    obtain rfl:n=0:=by omega
    exact he
  | n,m+1,h,he=>by
    by_cases h1:n=m+1
    · subst h1; exact he
    · have:=rdK_err (m:=m) (by omega) he
      rw [rdK_snoc,this]
def RdB (g:Nat) (l:List UInt8) (W:World):Prop:=W.heap[g]?=some (.cells #[.string ⟨l.toArray⟩] 57 (0,0))
def throws (c:Int):Ending:=.panicked [{ v:=.iface 27 (.int .i64 c),recovered:=false }]
def Only (g:Nat) (W W':World):Prop:=But (fun k=>k=g) W W'
def Tells {α:Type} (g:Nat) (val:α→Value→World→World→Prop) (o:Except Int (α × List UInt8)) (W:World) (e:Ending) (w':World):Prop :=
  (∃ x r v,o=.ok (x,r)∧e=.returned v∧val x v W w'∧RdB g r w'∧Only g W w')∨(∃ c,o=.error c∧e=throws c∧Only g W w')
def valN (x:Int) (v:Value) (_ _:World):Prop:=v=.int .i64 x
def valB (x:Bool) (v:Value) (_ _:World):Prop:=v=.bool x
theorem Only.refl (g:Nat) (W:World):Only g W W:=But.refl _ _
theorem Only.trans {g:Nat} {a b c:World} (h:Only g a b) (k:Only g b c):Only g a c:=But.trans h k
theorem Only.next {g:Nat} {a b:World} (h:Below a.heap.size a b):Only g a b:=But.of_next h
theorem RdB.lt {g:Nat} {l:List UInt8} {W:World} (h:RdB g l W):g<W.heap.size:=(Array.getElem?_eq_some_iff.1 h).1
theorem RdB.next {g:Nat} {l:List UInt8} {W W':World} (h:RdB g l W) (hb:Below W.heap.size W W'):RdB g l W':=(hb.block g h.lt).trans h
theorem ofInt_64 (a:Nat) (ha:a<65536):(BitVec.ofInt 64 (a:Int)).toNat=a:=by
  rw [BitVec.ofInt_natCast,BitVec.toNat_ofNat]; exact Nat.mod_eq_of_lt (by omega)
theorem or_bytes (a b:UInt8):bits .or .i64 (wrap64 (wrap64 (a.toNat:Int) * 256)) (wrap64 (b.toNat:Int))=(a.toNat:Int) * 256+b.toNat:=by
  have ha:=a.toNat_lt
  have hb:=b.toNat_lt
  have e1:wrap64 (a.toNat:Int)=(a.toNat:Int):=by unfold wrap64; omega
  have e2:wrap64 (b.toNat:Int)=(b.toNat:Int):=by unfold wrap64; omega
  have e3:wrap64 ((a.toNat:Int) * 256)=((a.toNat * 256:Nat):Int):=by unfold wrap64; omega
  rw [e1,e2,e3]
  show IntKind.i64.wrap ((BitVec.ofInt 64 ((a.toNat * 256:Nat):Int) ||| BitVec.ofInt 64 (b.toNat:Int)).toNat:Int)=_
  rw [BitVec.toNat_or,ofInt_64 _ (by omega),ofInt_64 _ (by omega)]
  have e4:a.toNat * 256 ||| b.toNat=a.toNat * 256+b.toNat:=by
    have:=Nat.two_pow_add_eq_or_of_lt (i:=8) (b:=b.toNat) (by omega) a.toNat
    rw [Nat.mul_comm a.toNat 256]; exact this.symm
  rw [e4,IntKind.wrap_i64]
  omega
set_option maxRecDepth 100000 in
set_option maxHeartbeats 1000000 in
theorem number_any (g:Nat) (l:List UInt8) (w:World) (h:RdB g l w) :
    Calls Tryz.prog 45 #[.pointer (some ⟨g,0,none⟩)] w fun e w'=>Tells g valN (rdN l) w e w':=by
  have c0:w.cell? ⟨g,0,none⟩=some (.string ⟨l.toArray⟩):=by rw [Lib.cell_of_heap h]; rfl
  have f0:w.frozen? ⟨g,0,none⟩=false:=Lib.frozen_of_heap h _
  have hE:∀ (e:Ending) (w':World),rdN l=.error 11→e=throws 11→w'=w→Tells g valN (rdN l) w e w':=fun e w' h1 h2 h3=>.inr ⟨11,h1,h2,by rw [h3]; exact Only.refl _ _⟩
  match l with
  | [] =>
    go_enter Tryz.func45,Tryz.ntmps45
    go_wp2_with fail
    exact ⟨rfl,hE _ _ rfl rfl rfl⟩
  | [a] =>
    go_enter Tryz.func45,Tryz.ntmps45
    go_wp2_with fail
    exact ⟨rfl,hE _ _ rfl rfl rfl⟩
  | a :: b :: r =>
    clear hE
    obtain ⟨s,hs⟩:∃ s:ByteArray,(⟨(a :: b :: r).toArray⟩:ByteArray)=s:=⟨_,rfl⟩
    have hz:s.size=r.length+2:=by rw [← hs]; simp [ByteArray.size]
    have i0:∀ W,(Instr.index 9 (.string s) (.int .i64 0)).run Tryz.prog W=.ok (.int .u8 a.toNat) W:=fun W=>by
      rw [run_index_string W _ _ _ _ Tryz.underlying9,dif_pos ⟨by omega,by omega⟩]
      subst hs; rfl
    have i1:∀ W,(Instr.index 9 (.string s) (.int .i64 1)).run Tryz.prog W=.ok (.int .u8 b.toNat) W:=fun W=>by
      rw [run_index_string W _ _ _ _ Tryz.underlying9,dif_pos ⟨by omega,by omega⟩]
      subst hs; rfl
    have hx:s.extract 2 s.size=⟨r.toArray⟩:=by
      subst hs
      refine ByteArray.ext ?_
      rw [ByteArray.data_extract]
      simp [ByteArray.size]
    rw [hs] at c0
    have h2:¬ (s.size:Int)<2:=by omega
    have h3:2≤(s.size:Int):=by omega
    have d2:decide ((s.size:Int)<2)=false:=decide_eq_false h2
    go_enter Tryz.func45,Tryz.ntmps45
    go_wp2_with fail
    go_big_quiet (fail)
    have HOR:Hid (bits .or .i64 (wrap64 (wrap64 (a.toNat:Int) * 256)) (wrap64 (b.toNat:Int))=(a.toNat:Int) * 256+b.toNat):=or_bytes a b
    go_wp2_with fail
    go_ret
    have hx2:s.extract 2 (r.length+2)=⟨r.toArray⟩:=by rw [← hz]; exact hx
    refine .inl ⟨_,r,_,rfl,rfl,?_,?_,(((But.refl _ w).drewN nq).setCell _ _ (.inr rfl))⟩
    · show Value.int _ _=Value.int _ _
      rw [HOR.out]
    · show _=_
      rw [hx2]
      exact blk_set (W:=w.drewN nq) (o:=0) h _
theorem Tells.mono {α:Type} {g:Nat} {val val':α→Value→World→World→Prop} {o:Except Int (α × List UInt8)} {W:World} {e:Ending} {w':World} (h:Tells g val o W e w') (hv:∀ x v,val x v W w'→val' x v W w'):Tells g val' o W e w':=by
  rcases h with ⟨x,r,v,h1,h2,h3,h4⟩ | h
  · exact .inl ⟨x,r,v,h1,h2,hv x v h3,h4⟩
  · exact .inr h
set_option maxRecDepth 100000 in
set_option maxHeartbeats 1000000 in
theorem accept_any (g:Nat) (l:List UInt8) (w:World) (h:RdB g l w) :
    Calls Tryz.prog 69 #[.pointer (some ⟨g,0,none⟩)] w fun e w'=>Tells g valB (rdB l) w e w':=by
  have HN:=number_any g l w h
  go_enter Tryz.func69,Tryz.ntmps69
  go_wp2_with fail
  refine HN.mono ?_
  rintro e w1 (⟨n,r,v,h1,rfl,rfl,h4,h5⟩ | ⟨c,h1,rfl,h5⟩)
  case inr =>
    exact ⟨rfl,.inr ⟨c,by unfold rdB; rw [h1],rfl,h5⟩⟩
  have HR:Hid (rdB l=if n > 1 then .error 10 else .ok (decide (n=1),r)):=by show _=_; unfold rdB; rw [h1]
  have HB:Hid (RdB g r w1∧Only g w w1):=⟨h4,h5⟩
  clear HN h h1 h4 h5
  by_cases hn:n > 1
  · have hd:decide (n > 1)=true:=decide_eq_true hn
    go_wp2_with fail
    exact ⟨rfl,.inr ⟨10,by rw [HR.out,if_pos hn],rfl,HB.out.2⟩⟩
  · have hd:decide (n > 1)=false:=decide_eq_false hn
    go_wp2_with fail
    go_ret
    refine .inl ⟨_,r,_,by rw [HR.out,if_neg (by omega)],rfl,?_,HB.out⟩
    show Value.bool _=Value.bool _
    congr 1
theorem below_box (w:World) (v:Value) (t:TypeId):Below w.heap.size w (w.alloc (Obj.cells #[v] t)):=(Below.refl _ _).alloc (Nat.le_refl _) _
set_option maxRecDepth 100000 in
set_option maxHeartbeats 1600000 in
theorem rlight12_any (l:List Rw) (v:Value) (w:World) (hl:SlW l v w) :
    Calls Tryz.prog 5 #[.agg #[v]] w fun e w'=>e=.returned (.bool (decide (sizeTb l≤20000)))∧Below w.heap.size w w':=by
  have HL:Hid (∀ W,Below w.heap.size w W→SlW l v W):=fun W hb=>hl.next hb
  obtain ⟨la,lc,rfl,_,_,_,hlb⟩:=hl
  have B0:=below_box w (.slice la l.length lc) 24
  have HT0:Hid (∀ W,Below (w.heap.size+1) (w.alloc (Obj.cells #[.slice la l.length lc] 24)) W→W.cell? ⟨w.heap.size,0,none⟩=some (.slice la l.length lc)):=fun W hb=>(hb.cell (p:=⟨w.heap.size,0,none⟩) (by simp)).trans (by simp)
  have hsz0:(w.alloc (Obj.cells #[.slice la l.length lc] 24)).heap.size=w.heap.size+1:=by simp
  go_enter Tryz.func5,Tryz.ntmps5
  go_wp2_with fail
  have HT:Hid (∀ W,Below (w.alloc (Obj.cells #[.slice la l.length lc] 24)).heap.size (w.alloc (Obj.cells #[.slice la l.length lc] 24)) W→W.cell? ⟨w.heap.size,0,none⟩=some (.slice la l.length lc)∧Below w.heap.size w W):=fun W hb=>⟨HT0.out W (hsz0 ▸ hb),below_then B0 hb B0.size⟩
  clear HT0 hsz0 B0
  generalize w.alloc (Obj.cells #[.slice la l.length lc] 24)=w0 at *
  go_loopw [3,4] (fun lv iv wr=>∃ (i:Nat) (left:Int),lv=.int .i64 left∧iv=.int .i64 i∧i≤l.length∧-400000000000000≤left∧left≤20000∧(0≤left→left=20000 - (sizeTb (l.take i):Int))∧(left<0→20000<sizeTb l)∧Below w0.heap.size w0 wr) (fun _ i _=>l.length - (intOf i).toNat)
  case atStart=>exact ⟨0,20000,rfl,rfl,Nat.zero_le _,by omega,by omega,fun _=>by simp [sizeTb],fun h=>by omega,Below.refl _ _⟩
  case round =>
  obtain ⟨i,left,rfl,rfl,hi,h1,h2,h3,h4,BR⟩:=hrel
  have HD:Hid (decide (sizeTb l≤20000)=decide (0≤left)∨(0≤left∧i<l.length)):=by
    by_cases h:0≤left
    · rcases Nat.lt_or_ge i l.length with hlt | hge
      · exact .inr ⟨h,hlt⟩
      · left
        have e:=h3 h
        rw [List.take_of_length_le hge] at e
        rw [decide_eq_true h]; exact decide_eq_true (by omega)
    · left
      have:=h4 (by omega)
      rw [decide_eq_false h]; exact decide_eq_false (by omega)
  obtain ⟨t0,BW⟩:=HT.out _ BR
  by_cases hgo:i<l.length∧0≤left
  case neg =>
    have hcase:(decide ((i:Int)<l.length)=false∧¬ ((i:Int)<l.length))∨((decide ((i:Int)<l.length)=true∧(i:Int)<l.length)∧decide (left ≥ 0)=false∧¬ (left ≥ 0)):=by
      by_cases g1:i<l.length
      · exact .inr ⟨⟨decide_eq_true (by omega),by omega⟩,decide_eq_false (by omega),by omega⟩
      · exact .inl ⟨decide_eq_false (by omega),by omega⟩
    have HE:Hid (decide (sizeTb l≤20000)=decide (left ≥ 0)):=by
      rcases HD.out with h | ⟨h,h'⟩
      · exact h
      · exact absurd ⟨h',h⟩ hgo
    clear HD h3 h4 hgo
    rcases hcase with ⟨c1,c2⟩ | ⟨⟨c1,c2⟩,c3,c4⟩
    all_goals
      go_wp2_with fail
      go_ret
      exact ⟨by first | (rw [HE.out]; rfl) | (rw [HE.out]; simp; try omega),BW⟩
  obtain ⟨g1,g2⟩:=hgo
  have hsn:=sizeTb_succ g1
  have hle:=sizeTb_le l (i+1)
  obtain ⟨_,_,e0,hrws,_⟩:=HL.out _ BW
  cases e0
  obtain ⟨b,off,va,vg,rfl,hb,ca,cg,hA,hG⟩:=hrws.at (Below.refl _ _) g1
  have hR:sizeR l[i]=1+l[i].goes.length+sizeA l[i].acts:=rfl
  generalize l[i]=r at *
  obtain ⟨aa,ac,rfl,hacs,_,_,hab⟩:=hA
  obtain ⟨ga,gc,rfl,_,_,_,hgb⟩:=hG
  have c1:decide (left ≥ 0)=true:=decide_eq_true g2
  have h3':=h3 g2
  clear HD hrws h3 h4
  have HAC:Hid (∀ W,Below wr.heap.size wr W→(W.cell? ⟨b,off+i * 2,none⟩=some (.slice aa r.acts.length ac)∧AcsAt r.acts aa W∧W.cell? ⟨w.heap.size,0,none⟩=some (.slice (some ⟨b,off,none⟩) l.length lc))):=fun W hb'=>⟨(hb'.cell (p:=⟨b,off+i * 2,none⟩) hb).trans ca,hacs.next hb',(HT.out _ (below_then BR hb' BR.size)).1⟩
  generalize wr=wx at *
  go_wp2_with fail
  clear t0 ca cg hacs
  go_loopw [3,5] (fun lv iv wr=>∃ (k:Nat) (lf:Int),lv=.int .i64 lf∧iv=.int .i64 k∧k≤r.acts.length∧-400000000000000≤lf∧lf≤20000∧(0≤lf∨k=0→lf=left - 1 - r.goes.length - (sizeA (r.acts.take k):Int))∧(lf<0→20000<sizeTb l)∧Below wx.heap.size wx wr) (fun _ i _=>r.acts.length - (intOf i).toNat)
  case atStart=>exact ⟨0,left - 1 - r.goes.length,by go_num,rfl,Nat.zero_le _,by omega,by omega,fun _=>by simp [sizeA],fun h=>by omega,Below.refl _ _⟩
  case round =>
  obtain ⟨k,lf,rfl,rfl,hk,k1,k2,k3,k4,BK⟩:=hrel
  obtain ⟨ca,hacs,t0⟩:=HAC.out _ BK
  have BKR:=below_then BR BK BR.size
  by_cases hgo:k<r.acts.length∧0≤lf
  case neg =>
    have hcase:(decide ((k:Int)<r.acts.length)=false∧¬ ((k:Int)<r.acts.length))∨((decide ((k:Int)<r.acts.length)=true∧(k:Int)<r.acts.length)∧decide (lf ≥ 0)=false∧¬ (lf ≥ 0)):=by
      by_cases g1:k<r.acts.length
      · exact .inr ⟨⟨decide_eq_true (by omega),by omega⟩,decide_eq_false (by omega),by omega⟩
      · exact .inl ⟨decide_eq_false (by omega),by omega⟩
    have HE:Hid (0≤lf→lf=20000 - (sizeTb (l.take (i+1)):Int)):=fun h=>by
      have hkl:k=r.acts.length:=by
        rcases Nat.lt_or_ge k r.acts.length with h' | h'
        · exact absurd ⟨h',h⟩ hgo
        · omega
      have e:=k3 (.inl h)
      rw [hkl,List.take_of_length_le (Nat.le_refl _)] at e
      rw [hsn,hR]; omega
    have HF:Hid (lf<0→20000<sizeTb l):=k4
    clear k3 k4 hacs
    rcases hcase with ⟨c2,c3⟩ | ⟨⟨c2,c3⟩,c4,c5⟩
    all_goals
      go_wp2_with fail
      exact ⟨⟨i+1,lf,rfl,by go_num,by omega,by omega,by omega,HE.out,HF.out,BKR⟩,by simp [intOf]; omega⟩
  obtain ⟨q1,q2⟩:=hgo
  have hsk:=sizeA_succ q1
  have hka:=sizeA_le r.acts (k+1)
  obtain ⟨b2,off2,v2,rfl,hb2,a0,a1,a2,a3,hred,_,_,hrb⟩:=hacs.at (Below.refl _ _) q1
  generalize r.acts[k]=x at *
  obtain ⟨da,dc,rfl,_⟩:=hred
  have k3':=k3 (.inl q2)
  have c2:decide (lf ≥ 0)=true:=decide_eq_true q2
  clear k3 k4 hacs
  go_wp2_with fail
  exact ⟨⟨k+1,lf - 1 - x.red.length,by go_num,by go_num,by omega,by omega,by omega,fun _=>by omega,fun h=>by omega,BK⟩,by simp [intOf]; omega⟩
def encP (p:Int × Int):List Value:=[.int .i64 p.1,.int .i64 p.2]
def okP (p:Int × Int):Prop:=i64B p.1∧i64B p.2
def OwnP (t:TypeId) (B:Nat) (l:List (Int × Int)) (v:Value) (W:World):Prop:=W.ownsRow B t 2 v l.length (l.flatMap encP)
theorem flatP_get:∀ {l:List (Int × Int)} {i c:Nat} {x:Int × Int},l[i]?=some x→c<2→(l.flatMap encP)[i * 2+c]?=(encP x)[c]?
  | y :: l,0,c,x,h,hc=>by
    simp at h; subst h
    rw [List.flatMap_cons,Nat.zero_mul,Nat.zero_add,List.getElem?_append_left (by simp [encP]; exact hc)]
  | y :: l,i+1,c,x,h,hc=>by
    simp at h
    rw [List.flatMap_cons,List.getElem?_append_right (by simp [encP]; omega)]
    have e:(i+1) * 2+c - (encP y).length=i * 2+c:=by simp [encP]; omega
    rw [e]
    exact flatP_get h hc
theorem OwnP.nil (t:TypeId) (B:Nat) (W:World):OwnP t B [] (.slice none 0 0) W:=World.ownsRow_nil W B t 2
theorem OwnP.sl {t:TypeId} {B:Nat} {l:List (Int × Int)} {v:Value} {W:World} (h:OwnP t B l v W) (hok:∀ x∈l,okP x) (hlen:l.length≤140737488351232):SlG l v W:=by
  have h0:=h
  obtain ⟨h1,h2⟩:=h
  rcases h2 with ⟨rfl,hn⟩ | ⟨g,cap,cur,rfl,hB,hg,hcap,hm,hsz,hx⟩
  · obtain rfl:l=[]:=List.eq_nil_of_length_eq_zero hn
    exact SlG.nil W
  · have hgl:g<W.heap.size:=(Array.getElem?_eq_some_iff.1 hg).1
    refine ⟨some ⟨g,0,none⟩,cap,rfl,fun i x hi=>⟨g,0,rfl,hgl,?_,?_,hok x (List.mem_of_getElem? hi)⟩,(fun h=>by cases h),hcap,hlen⟩
    · have:=World.ownsRow.cells h0 (g:=g) rfl (i * 2+0) (.int .i64 x.1) (by rw [flatP_get hi (by omega)]; rfl)
      rw [add_plain] at this
      simpa using this
    · have:=World.ownsRow.cells h0 (g:=g) rfl (i * 2+1) (.int .i64 x.2) (by rw [flatP_get hi (by omega)]; rfl)
      rw [add_plain] at this
      simpa [Nat.add_assoc] using this
theorem own_apart2 {W:World} {B n k:Nat} {e:TypeId} {v:Value} {xs:List Value} (h:W.ownsRow B e k v n xs):Apart B v:=by
  intro ad m c hv
  rcases h.2 with ⟨rfl,_⟩ | ⟨g,c,cur,rfl,hb,_⟩
  · cases hv
  · cases hv; exact hb
theorem own_slice2 {W:World} {B n k:Nat} {e:TypeId} {v:Value} {xs:List Value} (h:W.ownsRow B e k v n xs):∃ a c,v=.slice a n c:=by
  rcases h.2 with ⟨rfl,h'⟩ | ⟨g,c,cur,rfl,_⟩
  · exact ⟨none,0,by rw [h']⟩
  · exact ⟨_,_,rfl⟩
theorem ownsRow_below4 {W W':World} {B n k:Nat} {e:TypeId} {v:Value} {xs:List Value} (h:W.ownsRow B e k v n xs) (hb:Below W.heap.size W W'):W'.ownsRow B e k v n xs:=by
  obtain ⟨h1,h2⟩:=h
  refine ⟨h1,?_⟩
  rcases h2 with h2 | ⟨g,cap,cur,rfl,hB,hg,rest⟩
  · exact .inl h2
  · exact .inr ⟨g,cap,cur,rfl,hB,(hb.block g (Array.getElem?_eq_some_iff.1 hg).1).trans hg,rest⟩
theorem infoArr2:(Tryz.prog.info? 87).map (fun i=>(i.zero,i.size,i.bytes))=some (some (.agg #[.int .i64 0,.int .i64 0]),2,16):=by kernel_rfl
theorem new_cellP (W:World) (x:Int × Int) (t:TypeId):∀ (k:Nat) (u:Value),(encP x)[k]?=some u→(W.alloc (Obj.cells #[.int .i64 x.1,.int .i64 x.2] t)).cell? ((⟨W.heap.size,0,none⟩:Addr).add k)=some u:=by
  intro k u hk
  rw [add_plain]
  rcases k with _ | _ | k
  · simp [encP] at hk; subst hk; simp
  · simp [encP] at hk; subst hk; simp
  · simp [encP] at hk
theorem sizeTb_acts {l:List Rw} {k:Nat} (hk:k<l.length):sizeA l[k].acts≤sizeTb l:=by
  have h1:=sizeTb_succ hk
  have h2:=sizeTb_le l (k+1)
  unfold sizeR at h1; omega
theorem sizeA_len (l:List Ac):l.length≤sizeA l:=by
  induction l with
  | nil=>simp [sizeA]
  | cons a l ih=>unfold sizeA at *; simp; omega
theorem tornRow_len (n:Int) (l:List Ac):(tornRow n l).length≤sizeA l:=by
  unfold tornRow
  rw [List.length_map]
  exact Nat.le_trans (List.length_filter_le _ _) (sizeA_len l)
theorem tornL_len (l:List Rw):(tornL l).length≤sizeTb l:=by
  have:∀ k,k≤l.length→(tornL (l.take k)).length≤sizeTb (l.take k):=by
    intro k
    induction k with
    | zero=>intro _; simp [tornL,sizeTb]
    | succ k ih =>
      intro hk
      rw [tornL_succ hk,sizeTb_succ hk,List.length_append]
      have:=ih (by omega)
      have h2:=tornRow_len k l[k].acts
      unfold sizeR; omega
  have h:=this l.length (Nat.le_refl _)
  rwa [List.take_of_length_le (Nat.le_refl _)] at h
theorem mem_tornL {l:List Rw} {p:Int × Int} (h:p∈tornL l):∃ (i:Nat) (hi:i<l.length) (a:Ac),p=((i:Int),a.look)∧a∈l[i].acts:=by
  unfold tornL at h
  obtain ⟨⟨r,i⟩,hr,hp⟩:=List.mem_flatMap.1 h
  have hg:=List.mem_zipIdx_iff_getElem?.1 hr
  simp at hg hp
  unfold tornRow at hp
  obtain ⟨a,ha,rfl⟩:=List.mem_map.1 hp
  obtain ⟨hi,e⟩:=List.getElem?_eq_some_iff.1 hg
  exact ⟨i,hi,a,rfl,by rw [e]; exact (List.mem_filter.1 ha).1⟩
theorem torn_iff (a:Ac):tornA a=true↔0<a.red.length∧1<a.red.length+(if a.to=-1 then 0 else 1)+(if a.acc=true then 1 else 0):=by
  obtain ⟨lk,t,r,c⟩:=a
  unfold tornA
  rcases r with _ | ⟨x,_ | ⟨y,r⟩⟩
  · simp
  · by_cases h:t=-1 <;> cases c <;> simp [h]
  · simp; omega
theorem torn_false {a:Ac} (h:¬ (0<a.red.length∧1<a.red.length+(if a.to=-1 then 0 else 1)+(if a.acc=true then 1 else 0))):tornA a=false:=by
  cases e:tornA a
  · rfl
  · exact absurd ((torn_iff a).1 e) h
theorem ok_torn {l:List Rw} {v:Value} {w:World} (h:SlW l v w):∀ p∈tornL l,okP p:=fun p hp=>by
  obtain ⟨i,hi,a,rfl,ha⟩:=mem_tornL hp
  obtain ⟨_,_,rfl,hr,_,_,hb⟩:=h
  obtain ⟨_,_,_,_,_,_,_,_,hA,_⟩:=hr.at (Below.refl _ _) hi
  obtain ⟨_,_,_,hacs,_⟩:=hA
  obtain ⟨k,hk,e⟩:=List.getElem_of_mem ha
  obtain ⟨_,_,_,_,_,_,_,_,_,_,hlk,_⟩:=hacs.at (Below.refl _ _) hk
  refine ⟨?_,by rw [← e]; exact hlk⟩
  show -9223372036854775808≤(i:Int)∧(i:Int)≤9223372036854775807
  omega
end Go.Proofs.YtiamjafecbpfpaaGreatDoor
