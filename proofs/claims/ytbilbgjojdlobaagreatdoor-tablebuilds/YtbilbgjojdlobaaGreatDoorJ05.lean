import Derived.Test.YtbilbgjojdlobaaGreatDoorJ01
import Derived.Test.YtbilbgjojdlobaaGreatDoorJ03
import Derived.Test.YtbilbgjojdlobaaGreatDoorJ04
import Derived.Lib.Builder
import Derived.Deep.Cut
import Derived.Laws.StructEq
import Derived.Deep.MidRow

namespace Go.Proofs.YtbilbgjojdlobaaGreatDoor
open Go.RowKit
structure Wr where
  bs:List UInt8
  bad:Bool
structure WsAt (B g:Nat) (L:List Wr) (W:World):Prop where
  hB:B≤g
  blk:∃ cs:Array Value,W.heap[g]?=some (.cells cs 102 (0,0))∧cs.size=L.length * 3
  ptr:∀ i x,L[i]?=some x→W.cell? ⟨g,i * 3,none⟩=some (.pointer none)∨W.cell? ⟨g,i * 3,none⟩=some (.pointer (some ⟨g,i * 3,none⟩))
  buf:∀ i x,L[i]?=some x→∃ v,W.cell? ⟨g,i * 3+1,none⟩=some v∧OwnB B x.bs v W
  bad:∀ i x,L[i]?=some x→W.cell? ⟨g,i * 3+2,none⟩=some (.bool x.bad)
  nil:∀ i x v,L[i]?=some x→x.bs=[]→W.cell? ⟨g,i * 3+1,none⟩=some v→v=.slice none 0 0
  apart:∀ i j u v k,i≠j→W.cell? ⟨g,i * 3+1,none⟩=some u→W.cell? ⟨g,j * 3+1,none⟩=some v→u.ownBlock=some k→v.ownBlock=some k→False
def inW (g:Nat) (W:World) (k:Nat):Prop:=k=g∨∃ i v,W.cell? ⟨g,i * 3+1,none⟩=some v∧v.ownBlock=some k
def Wrote (g:Nat) (W W':World):Prop:=But (inW g W) W W'∧∀ k,inW g W' k→inW g W k∨W.heap.size≤k
theorem Wrote.refl (g:Nat) (W:World):Wrote g W W:=⟨But.refl _ _,fun _ h=>.inl h⟩
theorem Wrote.trans {g:Nat} {a b c:World} (h:Wrote g a b) (k:Wrote g b c):Wrote g a c :=
  ⟨⟨k.1.os.trans h.1.os,k.1.tape.trans h.1.tape,k.1.output.trans h.1.output,Nat.le_trans h.1.size k.1.size,fun i hi hd=>(k.1.block i (Nat.lt_of_lt_of_le hi h.1.size) (fun hb=>(h.2 i hb).elim hd (by omega))).trans (h.1.block i hi hd)⟩,
   fun i hi=>(k.2 i hi).elim (h.2 i) (fun h'=>.inr (Nat.le_trans h.1.size h'))⟩
theorem inW_same {g:Nat} {W W':World} (h:W'.heap[g]?=W.heap[g]?) (k:Nat):inW g W' k↔inW g W k:=by
  unfold inW
  have e:∀ i,W'.cell? ⟨g,i * 3+1,none⟩=W.cell? ⟨g,i * 3+1,none⟩:=fun i=>World.cell?_of_block h
  simp only [e]
theorem ownsRow_keep {W W':World} {B n k:Nat} {e:TypeId} {v:Value} {xs:List Value} {D:Nat→Prop} (h:W.ownsRow B e k v n xs) (hb:But D W W') (hd:∀ j,v.ownBlock=some j→¬ D j):W'.ownsRow B e k v n xs:=by
  obtain ⟨h1,h2⟩:=h
  refine ⟨h1,?_⟩
  rcases h2 with ⟨rfl,hn⟩ | ⟨g,cap,cur,rfl,hB,hg,h3⟩
  · exact .inl ⟨rfl,hn⟩
  · exact .inr ⟨g,cap,cur,rfl,hB,(hb.block g (Array.getElem?_eq_some_iff.1 hg).1 (hd g rfl)).trans hg,h3⟩
theorem WsAt.lt {B g:Nat} {L:List Wr} {W:World} (h:WsAt B g L W):g<W.heap.size:=by
  obtain ⟨cs,hc,_⟩:=h.blk
  exact (Array.getElem?_eq_some_iff.1 hc).1
theorem WsAt.inLt {B g:Nat} {L:List Wr} {W:World} (h:WsAt B g L W) {k:Nat} (hk:inW g W k):B≤k∧k<W.heap.size:=by
  rcases hk with rfl | ⟨i,v,hv,hk⟩
  · exact ⟨h.hB,h.lt⟩
  · obtain ⟨cs,hc,hs⟩:=h.blk
    have hl:i<L.length:=by
      have e:=hv
      rw [Lib.cell_of_heap hc] at e
      have:=(Array.getElem?_eq_some_iff.1 e).1
      omega
    obtain ⟨u,hu,ho⟩:=h.buf i L[i] (by simp [hl])
    rw [hv] at hu
    cases hu
    exact World.ownsRow.lt ho k hk
theorem WsAt.keep {B g:Nat} {L:List Wr} {W W':World} {D:Nat→Prop} (h:WsAt B g L W) (hb:But D W W') (hd:∀ k,inW g W k→¬ D k):WsAt B g L W':=by
  have hg:W'.heap[g]?=W.heap[g]?:=hb.block g h.lt (hd g (.inl rfl))
  have e:∀ o,W'.cell? ⟨g,o,none⟩=W.cell? ⟨g,o,none⟩:=fun o=>World.cell?_of_block hg
  refine ⟨h.hB,by rw [hg]; exact h.blk,fun i x hx=>by rw [e]; exact h.ptr i x hx,fun i x hx=>?_,fun i x hx=>by rw [e]; exact h.bad i x hx,fun i x v hx hb hv=>by rw [e] at hv; exact h.nil i x v hx hb hv,fun i j u v k hij hu hv=>?_⟩
  · obtain ⟨v,hv,ho⟩:=h.buf i x hx
    exact ⟨v,by rw [e]; exact hv,ownsRow_keep ho hb (fun k hk=>hd k (.inr ⟨i,v,hv,hk⟩))⟩
  · rw [e] at hu hv; exact h.apart i j u v k hij hu hv
theorem WsAt.next {B g:Nat} {L:List Wr} {W W':World} (h:WsAt B g L W) (hb:Below W.heap.size W W'):WsAt B g L W' :=
  h.keep (D:=fun _=>False) (But.of_next hb) (fun _ _ h=>h)
theorem WsAt.wrote {B g:Nat} {L:List Wr} {W W':World} (h:WsAt B g L W) (hb:Below W.heap.size W W'):Wrote g W W' :=
  ⟨But.of_next hb,fun k hk=>.inl ((inW_same (hb.block g h.lt) k).1 hk)⟩
theorem WsAt.below {B g:Nat} {L:List Wr} {W W':World} (h:WsAt B g L W) (hw:Wrote g W W') (hB:B≤W.heap.size):Below B W W' :=
  hw.1.below hB (fun _ hk=>(h.inLt hk).1)
theorem cell_set_ne (W:World) (g o o':Nat) (v:Value) (h:o≠o'):(W.setCell ⟨g,o,none⟩ v).cell? ⟨g,o',none⟩=W.cell? ⟨g,o',none⟩:=by
  simp only [World.cell?,World.setCell,Array.getElem?_modify,if_true]
  cases W.heap[g]? with
  | none=>rfl
  | some ob=>cases ob <;> simp [h]
theorem blk_set {W:World} {g o:Nat} {cs:Array Value} {T:TypeId} (h:W.heap[g]?=some (.cells cs T (0,0))) (v:Value):(W.setCell ⟨g,o,none⟩ v).heap[g]?=some (.cells (cs.setIfInBounds o v) T (0,0)):=by
  simp [World.setCell,Array.getElem?_modify,h]
theorem cell_set_eq {W:World} {g o:Nat} {cs:Array Value} {T:TypeId} (h:W.heap[g]?=some (.cells cs T (0,0))) (ho:o<cs.size) (v:Value):(W.setCell ⟨g,o,none⟩ v).cell? ⟨g,o,none⟩=some v:=by
  rw [Lib.cell_of_heap (blk_set h v)]
  simp [ho]
theorem set_block (W:World) (g o k:Nat) (v:Value) (h:k≠g):(W.setCell ⟨g,o,none⟩ v).heap[k]?=W.heap[k]?:=by
  simp [World.setCell,Array.getElem?_modify,Ne.symm h]
theorem OwnB.set {B g o:Nat} {l:List UInt8} {v u:Value} {W:World} {cs:Array Value} (h:OwnB B l v W) (hg:W.heap[g]?=some (.cells cs 102 (0,0))):OwnB B l v (W.setCell ⟨g,o,none⟩ u):=by
  have hne:=Lib.ownBlock_ne h hg (by decide)
  exact ownsRow_keep (D:=fun k=>k=g) h ((But.refl _ W).setCell _ _ (.inr rfl)) (fun j hj e=>hne (by rw [hj,e]))
theorem WsAt.setPtr {B g i:Nat} {L:List Wr} {W:World} {x:Wr} (h:WsAt B g L W) (hx:L[i]?=some x) :
    WsAt B g L (W.setCell ⟨g,i * 3,none⟩ (.pointer (some ⟨g,i * 3,none⟩)))∧Wrote g W (W.setCell ⟨g,i * 3,none⟩ (.pointer (some ⟨g,i * 3,none⟩))):=by
  obtain ⟨cs,hc,hs⟩:=h.blk
  have hi:i<L.length:=(List.getElem?_eq_some_iff.1 hx).1
  refine ⟨⟨h.hB,⟨_,blk_set hc _,by simp [hs]⟩,fun j y hy=>?_,fun j y hy=>?_,fun j y hy=>?_,fun j y v hy hb hv=>by rw [cell_set_ne _ _ _ _ _ (by omega)] at hv; exact h.nil j y v hy hb hv,fun a b u v k hab hu hv=>?_⟩,(But.refl _ W).setCell _ _ (.inr (.inl rfl)),fun k hk=>.inl ?_⟩
  · by_cases hij:j=i
    · subst hij; exact .inr (cell_set_eq hc (by omega) _)
    · rw [cell_set_ne _ _ _ _ _ (by omega)]; exact h.ptr j y hy
  · obtain ⟨v,hv,ho⟩:=h.buf j y hy
    exact ⟨v,by rw [cell_set_ne _ _ _ _ _ (by omega)]; exact hv,ho.set hc⟩
  · rw [cell_set_ne _ _ _ _ _ (by omega)]; exact h.bad j y hy
  · rw [cell_set_ne _ _ _ _ _ (by omega)] at hu hv; exact h.apart a b u v k hab hu hv
  · rcases hk with rfl | ⟨j,v,hv,hk⟩
    · exact .inl rfl
    · rw [cell_set_ne _ _ _ _ _ (by omega)] at hv; exact .inr ⟨j,v,hv,hk⟩
theorem WsAt.setBad {B g i:Nat} {L:List Wr} {W:World} {x:Wr} (b:Bool) (h:WsAt B g L W) (hx:L[i]?=some x) :
    WsAt B g (L.set i ⟨x.bs,b⟩) (W.setCell ⟨g,i * 3+2,none⟩ (.bool b))∧Wrote g W (W.setCell ⟨g,i * 3+2,none⟩ (.bool b)):=by
  obtain ⟨cs,hc,hs⟩:=h.blk
  have hi:i<L.length:=(List.getElem?_eq_some_iff.1 hx).1
  have hg:∀ (j:Nat) (y:Wr),(L.set i ⟨x.bs,b⟩)[j]?=some y→(j=i∧y=⟨x.bs,b⟩)∨(j≠i∧L[j]?=some y):=fun j y hy=>by
    rw [List.getElem?_set] at hy
    by_cases hij:i=j
    · rw [if_pos hij,if_pos (by omega)] at hy; exact .inl ⟨hij.symm,by simpa using hy.symm⟩
    · rw [if_neg hij] at hy; exact .inr ⟨fun e=>hij e.symm,hy⟩
  refine ⟨⟨h.hB,⟨_,blk_set hc _,by simp [hs]⟩,fun j y hy=>?_,fun j y hy=>?_,fun j y hy=>?_,fun j y v hy hb hv=>?_,fun a c u v k hab hu hv=>?_⟩,(But.refl _ W).setCell _ _ (.inr (.inl rfl)),fun k hk=>.inl ?_⟩
  · rw [cell_set_ne _ _ _ _ _ (by omega)]
    rcases hg j y hy with ⟨rfl,rfl⟩ | ⟨_,hy'⟩
    · exact h.ptr _ x hx
    · exact h.ptr j y hy'
  · rw [cell_set_ne _ _ _ _ _ (by omega)]
    rcases hg j y hy with ⟨rfl,rfl⟩ | ⟨_,hy'⟩
    · obtain ⟨v,hv,ho⟩:=h.buf _ x hx
      exact ⟨v,hv,ho.set hc⟩
    · obtain ⟨v,hv,ho⟩:=h.buf j y hy'
      exact ⟨v,hv,ho.set hc⟩
  · rcases hg j y hy with ⟨rfl,rfl⟩ | ⟨hn,hy'⟩
    · exact cell_set_eq hc (by omega) _
    · rw [cell_set_ne _ _ _ _ _ (by omega)]; exact h.bad j y hy'
  · rw [cell_set_ne _ _ _ _ _ (by omega)] at hv
    rcases hg j y hy with ⟨rfl,rfl⟩ | ⟨_,hy'⟩
    · exact h.nil _ x v hx hb hv
    · exact h.nil j y v hy' hb hv
  · rw [cell_set_ne _ _ _ _ _ (by omega)] at hu hv; exact h.apart a c u v k hab hu hv
  · rcases hk with rfl | ⟨j,v,hv,hk⟩
    · exact .inl rfl
    · rw [cell_set_ne _ _ _ _ _ (by omega)] at hv; exact .inr ⟨j,v,hv,hk⟩
theorem WsAt.put {B g i:Nat} {L:List Wr} {W W1:World} {x:Wr} {v v':Value} {l:List UInt8} (h:WsAt B g L W) (hx:L[i]?=some x) (hv:W.cell? ⟨g,i * 3+1,none⟩=some v) (hgr:W.grownBy W1 v.ownBlock) (ho:OwnB B l v' W1)
    (hat:v'.ownBlock=v.ownBlock∨v'.ownBlock=some W.heap.size) (hl:l≠[]) :
    WsAt B g (L.set i ⟨l,x.bad⟩) (W1.setCell ⟨g,i * 3+1,none⟩ v')∧Wrote g W (W1.setCell ⟨g,i * 3+1,none⟩ v'):=by
  obtain ⟨cs,hc,hs⟩:=h.blk
  have hi:i<L.length:=(List.getElem?_eq_some_iff.1 hx).1
  obtain ⟨v0,hv0,ho0⟩:=h.buf i x hx
  obtain rfl:v=v0:=by rw [hv] at hv0; exact Option.some.inj hv0
  have hne:=Lib.ownBlock_ne ho0 hc (by decide)
  have hc1:W1.heap[g]?=some (.cells cs 102 (0,0)):=(hgr.block g h.lt (fun e=>hne e.symm)).trans hc
  have e1:∀ o,W1.cell? ⟨g,o,none⟩=W.cell? ⟨g,o,none⟩:=fun o=>World.cell?_of_block (hgr.block g h.lt (fun e=>hne e.symm))
  have hg:∀ (j:Nat) (y:Wr),(L.set i ⟨l,x.bad⟩)[j]?=some y→(j=i∧y=⟨l,x.bad⟩)∨(j≠i∧L[j]?=some y):=fun j y hy=>by
    rw [List.getElem?_set] at hy
    by_cases hij:i=j
    · rw [if_pos hij,if_pos (by omega)] at hy; exact .inl ⟨hij.symm,by simpa using hy.symm⟩
    · rw [if_neg hij] at hy; exact .inr ⟨fun e=>hij e.symm,hy⟩
  have hold:∀ (j:Nat) (u:Value) (k:Nat),W.cell? ⟨g,j * 3+1,none⟩=some u→u.ownBlock=some k→k<W.heap.size:=fun j u k hu hk=>(h.inLt (.inr ⟨j,u,hu,hk⟩)).2
  have hB1:But (inW g W) W (W1.setCell ⟨g,i * 3+1,none⟩ v'):=by
    refine But.setCell (D:=inW g W) ⟨hgr.os,hgr.tape,hgr.output,hgr.size,fun k hk hd=>hgr.block k hk (fun e=>hd (.inr ⟨i,v,hv,e.symm⟩))⟩ _ _ (.inr (.inl rfl))
  refine ⟨⟨h.hB,⟨_,blk_set hc1 _,by simp [hs]⟩,fun j y hy=>?_,fun j y hy=>?_,fun j y hy=>?_,fun j y q hy hb hq=>?_,fun a c p q k hab hu hv2 hp hq=>?_⟩,hB1,fun k hk=>?_⟩
  · rw [cell_set_ne _ _ _ _ _ (by omega),e1]
    rcases hg j y hy with ⟨rfl,rfl⟩ | ⟨_,hy'⟩
    · exact h.ptr _ x hx
    · exact h.ptr j y hy'
  · rcases hg j y hy with ⟨rfl,rfl⟩ | ⟨hn,hy'⟩
    · exact ⟨v',cell_set_eq hc1 (by omega) _,ho.set hc1⟩
    · obtain ⟨u,hu,hou⟩:=h.buf j y hy'
      refine ⟨u,by rw [cell_set_ne _ _ _ _ _ (by omega),e1]; exact hu,OwnB.set (World.ownsRow.kept hou hgr ?_) hc1⟩
      cases hub:u.ownBlock with
      | none=>exact .inl rfl
      | some k=>exact .inr (fun e=>h.apart i j v u k (fun e=>hn e.symm) hv hu e.symm hub)
  · rw [cell_set_ne _ _ _ _ _ (by omega),e1]
    rcases hg j y hy with ⟨rfl,rfl⟩ | ⟨_,hy'⟩
    · exact h.bad _ x hx
    · exact h.bad j y hy'
  · rcases hg j y hy with ⟨rfl,rfl⟩ | ⟨hn,hy'⟩
    · exact absurd hb hl
    · rw [cell_set_ne _ _ _ _ _ (by omega),e1] at hq
      exact h.nil j y q hy' hb hq
  · have hcase:∀ (a:Nat) (p:Value),(W1.setCell ⟨g,i * 3+1,none⟩ v').cell? ⟨g,a * 3+1,none⟩=some p→(a=i∧p=v')∨(a≠i∧W.cell? ⟨g,a * 3+1,none⟩=some p):=fun a p ha=>by
      by_cases hai:a=i
      · subst hai
        rw [cell_set_eq hc1 (by omega)] at ha
        exact .inl ⟨rfl,(Option.some.inj ha).symm⟩
      · rw [cell_set_ne _ _ _ _ _ (by omega),e1] at ha
        exact .inr ⟨hai,ha⟩
    rcases hcase a p hu with ⟨rfl,rfl⟩ | ⟨ha,hu'⟩
    · rcases hcase c q hv2 with ⟨rfl,rfl⟩ | ⟨hc',hv'⟩
      · exact hab rfl
      · rcases hat with e | e
        · exact h.apart _ c v q k hab hv hv' (by rw [← e]; exact hp) hq
        · rw [e] at hp; cases hp
          have:=hold c q _ hv' hq; omega
    · rcases hcase c q hv2 with ⟨rfl,rfl⟩ | ⟨hc',hv'⟩
      · rcases hat with e | e
        · exact h.apart a _ p v k hab hu' hv hp (by rw [← e]; exact hq)
        · rw [e] at hq; cases hq
          have:=hold a p _ hu' hp; omega
      · exact h.apart a c p q k hab hu' hv' hp hq
  · rcases hk with rfl | ⟨j,u,hu,hk⟩
    · exact .inl (.inl rfl)
    · by_cases hji:j=i
      · subst hji
        rw [cell_set_eq hc1 (by omega)] at hu
        cases hu
        rcases hat with e | e
        · exact .inl (.inr ⟨j,v,hv,by rw [← e]; exact hk⟩)
        · rw [e] at hk; cases hk; exact .inr (Nat.le_refl _)
      · rw [cell_set_ne _ _ _ _ _ (by omega),e1] at hu
        exact .inl (.inr ⟨j,u,hu,hk⟩)
theorem WsAt.one {B:Nat} (W:World) (hB:B≤W.heap.size):WsAt B W.heap.size [⟨[],false⟩] (W.alloc (.cells #[.pointer none,.slice none 0 0,.bool false] 102)):=by
  have hb:(W.alloc (.cells #[.pointer none,.slice none 0 0,.bool false] 102)).heap[W.heap.size]?=some (.cells #[.pointer none,.slice none 0 0,.bool false] 102 (0,0)):=heap_alloc_new W _
  have hz:∀ (i:Nat) (x:Wr),([⟨[],false⟩]:List Wr)[i]?=some x→i=0∧x=⟨[],false⟩:=fun i x hx=>by
    rcases i with _ | i
    · simp at hx; exact ⟨rfl,hx.symm⟩
    · simp at hx
  refine ⟨hB,⟨_,hb,rfl⟩,fun i x hx=>?_,fun i x hx=>?_,fun i x hx=>?_,fun i x v hx _ hv=>?_,fun i j u v k hij hu hv=>?_⟩
  · obtain ⟨rfl,rfl⟩:=hz i x hx
    exact .inl (by rw [Lib.cell_of_heap hb]; rfl)
  · obtain ⟨rfl,rfl⟩:=hz i x hx
    exact ⟨.slice none 0 0,by rw [Lib.cell_of_heap hb]; rfl,World.ownsRow_nil _ _ _ _⟩
  · obtain ⟨rfl,rfl⟩:=hz i x hx
    rw [Lib.cell_of_heap hb]; rfl
  · obtain ⟨rfl,rfl⟩:=hz i x hx
    rw [Lib.cell_of_heap hb] at hv
    exact (Option.some.inj hv).symm
  · rw [Lib.cell_of_heap hb] at hu hv
    have h1:=(Array.getElem?_eq_some_iff.1 hu).1
    have h2:=(Array.getElem?_eq_some_iff.1 hv).1
    simp at h1 h2
    omega
theorem below_box (w:World) (v:Value) (t:TypeId):Below w.heap.size w (w.alloc (Obj.cells #[v] t)):=(Below.refl _ _).alloc (Nat.le_refl _) _
def encP (p:Int × Int):List Value:=[.int .i64 p.1,.int .i64 p.2]
def okP (p:Int × Int):Prop:=i64B p.1∧i64B p.2
def OwnP (t:TypeId) (B:Nat) (l:List (Int × Int)) (v:Value) (W:World):Prop:=W.ownsRow B t 2 v l.length (l.flatMap encP)
theorem flatP_get:∀ {l:List (Int × Int)} {i c:Nat} {x:Int × Int},l[i]?=some x→c<2→(l.flatMap encP)[i * 2+c]?=(encP x)[c]?
  | y :: l,0,c,x,h,hc=>by
    simp at h; subst h
    rw [List.flatMap_cons,Nat.zero_mul,Nat.zero_add,List.getElem?_append_left (by simp [encP]; exact hc)]
  | y :: l,i+1,c,x,h,hc=>by
    simp at h
    rw [List.flatMap_cons,List.getElem?_append_right (by simp [encP]; omega)]
    have e:(i+1) * 2+c - (encP y).length=i * 2+c:=by simp [encP]; omega
    rw [e]
    exact flatP_get h hc
theorem OwnP.nil (t:TypeId) (B:Nat) (W:World):OwnP t B [] (.slice none 0 0) W:=World.ownsRow_nil W B t 2
theorem OwnP.sl {t:TypeId} {B:Nat} {l:List (Int × Int)} {v:Value} {W:World} (h:OwnP t B l v W) (hok:∀ x∈l,okP x) (hlen:l.length≤140737488351232):SlG l v W:=by
  have h0:=h
  obtain ⟨h1,h2⟩:=h
  rcases h2 with ⟨rfl,hn⟩ | ⟨g,cap,cur,rfl,hB,hg,hcap,hm,hsz,hx⟩
  · obtain rfl:l=[]:=List.eq_nil_of_length_eq_zero hn
    exact SlG.nil W
  · have hgl:g<W.heap.size:=(Array.getElem?_eq_some_iff.1 hg).1
    refine ⟨some ⟨g,0,none⟩,cap,rfl,fun i x hi=>⟨g,0,rfl,hgl,?_,?_,hok x (List.mem_of_getElem? hi)⟩,(fun h=>by cases h),hcap,hlen⟩
    · have:=World.ownsRow.cells h0 (g:=g) rfl (i * 2+0) (.int .i64 x.1) (by rw [flatP_get hi (by omega)]; rfl)
      rw [add_plain] at this
      simpa using this
    · have:=World.ownsRow.cells h0 (g:=g) rfl (i * 2+1) (.int .i64 x.2) (by rw [flatP_get hi (by omega)]; rfl)
      rw [add_plain] at this
      simpa [Nat.add_assoc] using this
theorem own_apart2 {W:World} {B n k:Nat} {e:TypeId} {v:Value} {xs:List Value} (h:W.ownsRow B e k v n xs):Apart B v:=by
  intro ad m c hv
  rcases h.2 with ⟨rfl,_⟩ | ⟨g,c,cur,rfl,hb,_⟩
  · cases hv
  · cases hv; exact hb
theorem own_slice2 {W:World} {B n k:Nat} {e:TypeId} {v:Value} {xs:List Value} (h:W.ownsRow B e k v n xs):∃ a c,v=.slice a n c:=by
  rcases h.2 with ⟨rfl,h'⟩ | ⟨g,c,cur,rfl,_⟩
  · exact ⟨none,0,by rw [h']⟩
  · exact ⟨_,_,rfl⟩
theorem ownsRow_below4 {W W':World} {B n k:Nat} {e:TypeId} {v:Value} {xs:List Value} (h:W.ownsRow B e k v n xs) (hb:Below W.heap.size W W'):W'.ownsRow B e k v n xs:=by
  obtain ⟨h1,h2⟩:=h
  refine ⟨h1,?_⟩
  rcases h2 with h2 | ⟨g,cap,cur,rfl,hB,hg,rest⟩
  · exact .inl h2
  · exact .inr ⟨g,cap,cur,rfl,hB,(hb.block g (Array.getElem?_eq_some_iff.1 hg).1).trans hg,rest⟩
theorem infoArr2:(Tryz.prog.info? 38).map (fun i=>(i.zero,i.size,i.bytes))=some (some (.agg #[.int .i64 0,.int .i64 0]),2,16):=by kernel_rfl
theorem new_cellP (W:World) (x:Int × Int) (t:TypeId):∀ (k:Nat) (u:Value),(encP x)[k]?=some u→(W.alloc (Obj.cells #[.int .i64 x.1,.int .i64 x.2] t)).cell? ((⟨W.heap.size,0,none⟩:Addr).add k)=some u:=by
  intro k u hk
  rw [add_plain]
  rcases k with _ | _ | k
  · simp [encP] at hk; subst hk; simp
  · simp [encP] at hk; subst hk; simp
  · simp [encP] at hk
theorem sizeTb_acts {l:List Rw} {k:Nat} (hk:k<l.length):sizeA l[k].acts≤sizeTb l:=by
  have h1:=sizeTb_succ hk
  have h2:=sizeTb_le l (k+1)
  unfold sizeR at h1; omega
theorem sizeA_len (l:List Ac):l.length≤sizeA l:=by
  induction l with
  | nil=>simp [sizeA]
  | cons a l ih=>unfold sizeA at *; simp; omega
theorem tornRow_len (n:Int) (l:List Ac):(tornRow n l).length≤sizeA l:=by
  unfold tornRow
  rw [List.length_map]
  exact Nat.le_trans (List.length_filter_le _ _) (sizeA_len l)
theorem tornL_len (l:List Rw):(tornL l).length≤sizeTb l:=by
  have:∀ k,k≤l.length→(tornL (l.take k)).length≤sizeTb (l.take k):=by
    intro k
    induction k with
    | zero=>intro _; simp [tornL,sizeTb]
    | succ k ih =>
      intro hk
      rw [tornL_succ hk,sizeTb_succ hk,List.length_append]
      have:=ih (by omega)
      have h2:=tornRow_len k l[k].acts
      unfold sizeR; omega
  have h:=this l.length (Nat.le_refl _)
  rwa [List.take_of_length_le (Nat.le_refl _)] at h
theorem mem_tornL {l:List Rw} {p:Int × Int} (h:p∈tornL l):∃ (i:Nat) (hi:i<l.length) (a:Ac),p=((i:Int),a.look)∧a∈l[i].acts:=by
  unfold tornL at h
  obtain ⟨⟨r,i⟩,hr,hp⟩:=List.mem_flatMap.1 h
  have hg:=List.mem_zipIdx_iff_getElem?.1 hr
  simp at hg hp
  unfold tornRow at hp
  obtain ⟨a,ha,rfl⟩:=List.mem_map.1 hp
  obtain ⟨hi,e⟩:=List.getElem?_eq_some_iff.1 hg
  exact ⟨i,hi,a,rfl,by rw [e]; exact (List.mem_filter.1 ha).1⟩
theorem torn_iff (a:Ac):tornA a=true↔0<a.red.length∧1<a.red.length+(if a.to=-1 then 0 else 1)+(if a.acc=true then 1 else 0):=by
  obtain ⟨lk,t,r,c⟩:=a
  unfold tornA
  rcases r with _ | ⟨x,_ | ⟨y,r⟩⟩
  · simp
  · by_cases h:t=-1 <;> cases c <;> simp [h]
  · simp; omega
theorem torn_false {a:Ac} (h:¬ (0<a.red.length∧1<a.red.length+(if a.to=-1 then 0 else 1)+(if a.acc=true then 1 else 0))):tornA a=false:=by
  cases e:tornA a
  · rfl
  · exact absurd ((torn_iff a).1 e) h
theorem ok_torn {l:List Rw} {v:Value} {w:World} (h:SlW l v w):∀ p∈tornL l,okP p:=fun p hp=>by
  obtain ⟨i,hi,a,rfl,ha⟩:=mem_tornL hp
  obtain ⟨_,_,rfl,hr,_,_,hb⟩:=h
  obtain ⟨_,_,_,_,_,_,_,_,hA,_⟩:=hr.at (Below.refl _ _) hi
  obtain ⟨_,_,_,hacs,_⟩:=hA
  obtain ⟨k,hk,e⟩:=List.getElem_of_mem ha
  obtain ⟨_,_,_,_,_,_,_,_,_,_,hlk,_⟩:=hacs.at (Below.refl _ _) hk
  refine ⟨?_,by rw [← e]; exact hlk⟩
  show -9223372036854775808≤(i:Int)∧(i:Int)≤9223372036854775807
  omega
set_option maxRecDepth 100000 in
set_option maxHeartbeats 4000000 in
theorem rtorn_any (l:List Rw) (v:Value) (w:World) (hl:SlW l v w) (hsz:sizeTb l≤100000000) :
    Calls Tryz.prog 13 #[.agg #[v]] w fun e w'=>∃ v',e=.returned v'∧SlG (tornL l) v' w'∧Apart w.heap.size v'∧Below w.heap.size w w':=by
  obtain ⟨i0,hi0,hz0,hz1,hz2⟩:=info_parts infoArr2
  have HL:Hid (∀ W,Below w.heap.size w W→SlW l v W):=fun W hb=>hl.next hb
  have HOK:Hid (∀ p∈tornL l,okP p):=ok_torn hl
  have HTL:Hid ((tornL l).length≤sizeTb l):=tornL_len l
  obtain ⟨la,lc,rfl,_,_,_,hlb⟩:=hl
  have B0:=below_box w (.slice la l.length lc) 30
  have HT0:Hid (∀ W,Below (w.heap.size+1) (w.alloc (Obj.cells #[.slice la l.length lc] 30)) W→W.cell? ⟨w.heap.size,0,none⟩=some (.slice la l.length lc)):=fun W hb=>(hb.cell (p:=⟨w.heap.size,0,none⟩) (by simp)).trans (by simp)
  have hsz0:(w.alloc (Obj.cells #[.slice la l.length lc] 30)).heap.size=w.heap.size+1:=by simp
  go_enter Tryz.func13,Tryz.ntmps13
  go_wp2_with fail
  have HT:Hid (∀ W,Below (w.alloc (Obj.cells #[.slice la l.length lc] 30)).heap.size (w.alloc (Obj.cells #[.slice la l.length lc] 30)) W→W.cell? ⟨w.heap.size,0,none⟩=some (.slice la l.length lc)∧Below w.heap.size w W):=fun W hb=>⟨HT0.out W (hsz0 ▸ hb),below_then B0 hb B0.size⟩
  have HZ:Hid (w.heap.size≤(w.alloc (Obj.cells #[.slice la l.length lc] 30)).heap.size):=B0.size
  clear HT0 hsz0 B0
  generalize w.alloc (Obj.cells #[.slice la l.length lc] 30)=w0 at *
  go_loopw [3,4] (fun ov iv wr=>∃ (i:Nat),iv=.int .i64 i∧i≤l.length∧OwnP 38 w0.heap.size (tornL (l.take i)) ov wr∧Below w0.heap.size w0 wr) (fun _ i _=>l.length - (intOf i).toNat)
  case atStart=>exact ⟨0,rfl,Nat.zero_le _,by simpa [tornL] using OwnP.nil _ _ _,Below.refl _ _⟩
  case round =>
  obtain ⟨i,rfl,hi,hown,BR⟩:=hrel
  obtain ⟨oa,oc,rfl⟩:=own_slice2 hown
  have HO:Hid (OwnP 38 w0.heap.size (tornL (l.take i)) (.slice oa (tornL (l.take i)).length oc) wr):=hown
  clear hown
  obtain ⟨t0,BW⟩:=HT.out _ BR
  by_cases hlt:i<l.length
  case neg =>
    obtain rfl:i=l.length:=by omega
    rw [List.take_of_length_le (Nat.le_refl _)] at HO ⊢
    go_wp2_with fail
    go_ret
    exact ⟨_,rfl,OwnP.sl HO.out HOK.out (by have:=HTL.out; omega),(own_apart2 HO.out).mono HZ.out,BW⟩
  obtain ⟨_,_,e0,hrws,_⟩:=HL.out _ (Below.refl _ w)
  cases e0
  obtain ⟨b,off,va,vg,rfl,hb,ca0,cg,hA,_⟩:=hrws.at (Below.refl _ _) hlt
  have ca:=(BW.cell (p:=⟨b,off+i * 2,none⟩) hb).trans ca0
  have HSN:Hid (tornL (l.take (i+1))=tornL (l.take i)++tornRow i l[i].acts):=tornL_succ hlt
  have hsA:sizeTb (l.take i)+sizeA l[i].acts≤100000000:=by
    have h1:=sizeTb_succ hlt
    have h2:=sizeTb_le l (i+1)
    unfold sizeR at h1; omega
  have htl:(tornL (l.take i)).length≤sizeTb (l.take i):=tornL_len _
  generalize l[i]=r at *
  have HAA:Hid (∀ W,Below w.heap.size w W→SlA r.acts va W):=fun W hb=>hA.next hb
  obtain ⟨aa,ac,rfl,_,_,_,hab⟩:=hA
  generalize sizeTb (l.take i)=SZ at *
  generalize tornL (l.take i)=T at *
  clear hrws ca0 cg
  generalize wr=wx at *
  go_wp2_with fail
  clear t0 ca
  go_loopw [3,6] (fun ov kv wr=>∃ (k:Nat),kv=.int .i64 k∧k≤r.acts.length∧OwnP 38 w0.heap.size (T++tornRow i (r.acts.take k)) ov wr∧Below w0.heap.size w0 wr) (fun _ i _=>r.acts.length - (intOf i).toNat)
  case atStart=>exact ⟨0,rfl,Nat.zero_le _,by simpa [tornRow] using HO.out,BR⟩
  case round =>
  clear HO BW BR
  obtain ⟨k,rfl,hk,hown,BK⟩:=hrel
  obtain ⟨pa,pc,rfl⟩:=own_slice2 hown
  have hszk:=BK.size
  obtain ⟨_,BW⟩:=HT.out _ BK
  by_cases hkl:k<r.acts.length
  case neg =>
    obtain rfl:k=r.acts.length:=by omega
    rw [List.take_of_length_le (Nat.le_refl _)] at hown ⊢
    have HO2:Hid (OwnP 38 w0.heap.size (T++tornRow i r.acts) (.slice pa (T++tornRow i r.acts).length pc) wr):=hown
    clear hown
    generalize T++tornRow i r.acts=T2 at *
    go_wp2_with fail
    exact ⟨⟨i+1,by go_num,by omega,by rw [HSN.out]; exact HO2.out,BK⟩,by simp [intOf]; omega⟩
  obtain ⟨_,_,e0,hacs,_⟩:=HAA.out _ BW
  cases e0
  obtain ⟨b2,off2,v2,rfl,hb2,a0,a1,a2,a3,hred,_,_,hrb⟩:=hacs.at (Below.refl _ _) hkl
  have HTR:Hid (tornRow i (r.acts.take (k+1))=tornRow i (r.acts.take k)++(if tornA r.acts[k] then [((i:Int),r.acts[k].look)] else [])):=tornRow_succ hkl
  have hlen2:(tornRow i (r.acts.take k)).length≤sizeA r.acts:=Nat.le_trans (tornRow_len _ _) (sizeA_le _ _)
  have hlen3:(T++tornRow i (r.acts.take k)).length≤100000000:=by rw [List.length_append]; omega
  unfold OwnP at hown
  obtain ⟨RL,hRL⟩:∃ RL,T++tornRow i (r.acts.take k)=RL:=⟨_,rfl⟩
  have HRL:Hid (T++tornRow i (r.acts.take k)=RL):=hRL
  rw [hRL] at hown hlen3 ⊢
  clear hRL
  generalize hxe:r.acts[k]=x at *
  obtain ⟨da,dc,rfl,_⟩:=hred
  have HTI:=torn_iff x
  have HTF:Hid (¬ (0<x.red.length∧1<x.red.length+(if x.to=-1 then 0 else 1)+(if x.acc=true then 1 else 0))→tornA x=false):=fun h=>torn_false h
  have HTT:Hid ((0<x.red.length∧1<x.red.length+(if x.to=-1 then 0 else 1)+(if x.acc=true then 1 else 0))→tornA x=true):=(torn_iff x).2
  clear HTI hxe hacs
  obtain ⟨x0,x1,xr,x3⟩:=x
  simp only at *
  obtain ⟨LV,hLV⟩:∃ LV,RL.flatMap encP=LV:=⟨_,rfl⟩
  have HLV:Hid (RL.flatMap encP=LV):=hLV
  rw [hLV] at hown
  clear hLV
  have HNO:Hid (tornA ⟨x0,x1,xr,x3⟩=false→T++tornRow i (r.acts.take (k+1))=RL):=fun h=>by
    rw [HTR.out,h,← HRL.out]; simp
  have HYES:Hid (tornA ⟨x0,x1,xr,x3⟩=true→T++tornRow i (r.acts.take (k+1))=RL++[((i:Int),x0)]):=fun h=>by
    rw [HTR.out,h,← HRL.out]; simp
  have HOWN:Hid (OwnP 38 w0.heap.size RL (.slice pa RL.length pc) wr):=by
    show World.ownsRow _ _ _ _ _ _ _
    rw [HLV.out]; exact hown
  clear HTR HRL
  by_cases ht:x1=-1
  · subst ht
    cases x3 with
    | true =>
      by_cases g1:(xr.length:Int)+1 > 1
      · have g1d:decide ((xr.length:Int)+1 > 1)=true:=decide_eq_true g1
        by_cases g2:(xr.length:Int) > 0
        · have g2d:decide ((xr.length:Int) > 0)=true:=decide_eq_true g2
          have hyes:tornA _=true:=HTT.out ⟨by omega,by simp only [reduceIte,Nat.add_zero]; omega⟩
          clear HTT HTF HNO
          go_wp2_with (at_builtin; refine wpList_append_own _ rfl (.tmp 59) (.tmp 67) 36 rfl w0.heap.size 38 i0 _ 2 16 Tryz.underlying36 hi0 hz0 hz1 hz2 rfl (by decide) _ RL.length LV rfl (World.ownsRow.alloc hown _) ⟨wr.heap.size,0,none⟩ 1 1 (encP ((i:Int),x0)) rfl rfl (by first | exact new_cellP wr ((i:Int),x0) _ | (have:=new_cellP wr ((i:Int),x0) 38; simpa [encP] using this)) (by intro u hu; simp [encP] at hu; rcases hu with rfl | rfl <;> rfl) (by unfold maxLen; omega) (by omega) (by simp; omega) ?_)
          intro v9 w9 hown9 hg9 _
          have B9:Below w0.heap.size w0 w9:=(BK.alloc hszk _).grown hg9 (by simp; omega) (fun k e=>(World.ownsRow.lt hown k e).1)
          obtain ⟨a9,c9,rfl⟩:=own_slice2 hown9
          have HW9:Hid (OwnP 38 w0.heap.size (RL++[((i:Int),x0)]) (.slice a9 (RL.length+1) c9) w9):=by
            show World.ownsRow _ _ _ _ _ _ _
            have:=hown9
            rw [← HLV.out] at this
            simpa [encP] using this
          have HY:Hid (T++tornRow i (r.acts.take (k+1))=RL++[((i:Int),x0)]):=HYES.out hyes
          clear hown9 hg9 hown a0 a1 a2 a3
          go_wp2_with fail
          exact ⟨⟨k+1,by go_num,by omega,by rw [HY.out]; exact HW9.out,B9⟩,by simp [intOf]; omega⟩
        · have g2d:decide ((xr.length:Int) > 0)=false:=decide_eq_false g2
          exfalso; omega
      · have g1d:decide ((xr.length:Int)+1 > 1)=false:=decide_eq_false g1
        have hno:tornA _=false:=HTF.out (fun h=>by have h1:=h.1; have h2:=h.2; simp only [reduceIte,Nat.add_zero] at h2; omega)
        clear HTT HTF HYES
        go_wp2_with fail
        exact ⟨⟨k+1,by go_num,by omega,by rw [HNO.out hno]; exact HOWN.out,BK⟩,by simp [intOf]; omega⟩
    | false =>
      by_cases g1:(xr.length:Int) > 1
      · have g1d:decide ((xr.length:Int) > 1)=true:=decide_eq_true g1
        by_cases g2:(xr.length:Int) > 0
        · have g2d:decide ((xr.length:Int) > 0)=true:=decide_eq_true g2
          have hyes:tornA _=true:=HTT.out ⟨by omega,by simp only [reduceIte,Bool.false_eq_true,Nat.add_zero]; omega⟩
          clear HTT HTF HNO
          go_wp2_with (at_builtin; refine wpList_append_own _ rfl (.tmp 59) (.tmp 67) 36 rfl w0.heap.size 38 i0 _ 2 16 Tryz.underlying36 hi0 hz0 hz1 hz2 rfl (by decide) _ RL.length LV rfl (World.ownsRow.alloc hown _) ⟨wr.heap.size,0,none⟩ 1 1 (encP ((i:Int),x0)) rfl rfl (by first | exact new_cellP wr ((i:Int),x0) _ | (have:=new_cellP wr ((i:Int),x0) 38; simpa [encP] using this)) (by intro u hu; simp [encP] at hu; rcases hu with rfl | rfl <;> rfl) (by unfold maxLen; omega) (by omega) (by simp; omega) ?_)
          intro v9 w9 hown9 hg9 _
          have B9:Below w0.heap.size w0 w9:=(BK.alloc hszk _).grown hg9 (by simp; omega) (fun k e=>(World.ownsRow.lt hown k e).1)
          obtain ⟨a9,c9,rfl⟩:=own_slice2 hown9
          have HW9:Hid (OwnP 38 w0.heap.size (RL++[((i:Int),x0)]) (.slice a9 (RL.length+1) c9) w9):=by
            show World.ownsRow _ _ _ _ _ _ _
            have:=hown9
            rw [← HLV.out] at this
            simpa [encP] using this
          have HY:Hid (T++tornRow i (r.acts.take (k+1))=RL++[((i:Int),x0)]):=HYES.out hyes
          clear hown9 hg9 hown a0 a1 a2 a3
          go_wp2_with fail
          exact ⟨⟨k+1,by go_num,by omega,by rw [HY.out]; exact HW9.out,B9⟩,by simp [intOf]; omega⟩
        · have g2d:decide ((xr.length:Int) > 0)=false:=decide_eq_false g2
          exfalso; omega
      · have g1d:decide ((xr.length:Int) > 1)=false:=decide_eq_false g1
        have hno:tornA _=false:=HTF.out (fun h=>by have h1:=h.1; have h2:=h.2; simp only [reduceIte,Bool.false_eq_true,Nat.add_zero] at h2; omega)
        clear HTT HTF HYES
        go_wp2_with fail
        exact ⟨⟨k+1,by go_num,by omega,by rw [HNO.out hno]; exact HOWN.out,BK⟩,by simp [intOf]; omega⟩
  · have ht2:(x1 != -1)=true:=by simpa using ht
    cases x3 with
    | true =>
      by_cases g1:(xr.length:Int)+1+1 > 1
      · have g1d:decide ((xr.length:Int)+1+1 > 1)=true:=decide_eq_true g1
        by_cases g2:(xr.length:Int) > 0
        · have g2d:decide ((xr.length:Int) > 0)=true:=decide_eq_true g2
          have hyes:tornA _=true:=HTT.out ⟨by omega,by simp only [if_neg ht,reduceIte]; omega⟩
          clear HTT HTF HNO
          go_wp2_with (at_builtin; refine wpList_append_own _ rfl (.tmp 59) (.tmp 67) 36 rfl w0.heap.size 38 i0 _ 2 16 Tryz.underlying36 hi0 hz0 hz1 hz2 rfl (by decide) _ RL.length LV rfl (World.ownsRow.alloc hown _) ⟨wr.heap.size,0,none⟩ 1 1 (encP ((i:Int),x0)) rfl rfl (by first | exact new_cellP wr ((i:Int),x0) _ | (have:=new_cellP wr ((i:Int),x0) 38; simpa [encP] using this)) (by intro u hu; simp [encP] at hu; rcases hu with rfl | rfl <;> rfl) (by unfold maxLen; omega) (by omega) (by simp; omega) ?_)
          intro v9 w9 hown9 hg9 _
          have B9:Below w0.heap.size w0 w9:=(BK.alloc hszk _).grown hg9 (by simp; omega) (fun k e=>(World.ownsRow.lt hown k e).1)
          obtain ⟨a9,c9,rfl⟩:=own_slice2 hown9
          have HW9:Hid (OwnP 38 w0.heap.size (RL++[((i:Int),x0)]) (.slice a9 (RL.length+1) c9) w9):=by
            show World.ownsRow _ _ _ _ _ _ _
            have:=hown9
            rw [← HLV.out] at this
            simpa [encP] using this
          have HY:Hid (T++tornRow i (r.acts.take (k+1))=RL++[((i:Int),x0)]):=HYES.out hyes
          clear hown9 hg9 hown a0 a1 a2 a3
          go_wp2_with fail
          exact ⟨⟨k+1,by go_num,by omega,by rw [HY.out]; exact HW9.out,B9⟩,by simp [intOf]; omega⟩
        · have g2d:decide ((xr.length:Int) > 0)=false:=decide_eq_false g2
          have hno:tornA _=false:=HTF.out (fun h=>by have h1:=h.1; have h2:=h.2; simp only [if_neg ht,reduceIte] at h2; omega)
          clear HTT HTF HYES
          go_wp2_with fail
          exact ⟨⟨k+1,by go_num,by omega,by rw [HNO.out hno]; exact HOWN.out,BK⟩,by simp [intOf]; omega⟩
      · have g1d:decide ((xr.length:Int)+1+1 > 1)=false:=decide_eq_false g1
        exfalso; omega
    | false =>
      by_cases g1:(xr.length:Int)+1 > 1
      · have g1d:decide ((xr.length:Int)+1 > 1)=true:=decide_eq_true g1
        by_cases g2:(xr.length:Int) > 0
        · have g2d:decide ((xr.length:Int) > 0)=true:=decide_eq_true g2
          have hyes:tornA _=true:=HTT.out ⟨by omega,by simp only [if_neg ht,reduceIte,Bool.false_eq_true,Nat.add_zero]; omega⟩
          clear HTT HTF HNO
          go_wp2_with (at_builtin; refine wpList_append_own _ rfl (.tmp 59) (.tmp 67) 36 rfl w0.heap.size 38 i0 _ 2 16 Tryz.underlying36 hi0 hz0 hz1 hz2 rfl (by decide) _ RL.length LV rfl (World.ownsRow.alloc hown _) ⟨wr.heap.size,0,none⟩ 1 1 (encP ((i:Int),x0)) rfl rfl (by first | exact new_cellP wr ((i:Int),x0) _ | (have:=new_cellP wr ((i:Int),x0) 38; simpa [encP] using this)) (by intro u hu; simp [encP] at hu; rcases hu with rfl | rfl <;> rfl) (by unfold maxLen; omega) (by omega) (by simp; omega) ?_)
          intro v9 w9 hown9 hg9 _
          have B9:Below w0.heap.size w0 w9:=(BK.alloc hszk _).grown hg9 (by simp; omega) (fun k e=>(World.ownsRow.lt hown k e).1)
          obtain ⟨a9,c9,rfl⟩:=own_slice2 hown9
          have HW9:Hid (OwnP 38 w0.heap.size (RL++[((i:Int),x0)]) (.slice a9 (RL.length+1) c9) w9):=by
            show World.ownsRow _ _ _ _ _ _ _
            have:=hown9
            rw [← HLV.out] at this
            simpa [encP] using this
          have HY:Hid (T++tornRow i (r.acts.take (k+1))=RL++[((i:Int),x0)]):=HYES.out hyes
          clear hown9 hg9 hown a0 a1 a2 a3
          go_wp2_with fail
          exact ⟨⟨k+1,by go_num,by omega,by rw [HY.out]; exact HW9.out,B9⟩,by simp [intOf]; omega⟩
        · have g2d:decide ((xr.length:Int) > 0)=false:=decide_eq_false g2
          exfalso; omega
      · have g1d:decide ((xr.length:Int)+1 > 1)=false:=decide_eq_false g1
        have hno:tornA _=false:=HTF.out (fun h=>by have h1:=h.1; have h2:=h.2; simp only [if_neg ht,reduceIte,Bool.false_eq_true,Nat.add_zero] at h2; omega)
        clear HTT HTF HYES
        go_wp2_with fail
        exact ⟨⟨k+1,by go_num,by omega,by rw [HNO.out hno]; exact HOWN.out,BK⟩,by simp [intOf]; omega⟩
set_option maxRecDepth 100000 in
set_option maxHeartbeats 1600000 in
theorem isTorn_any (a:Ac) (u:Value) (w:World) (hu:SlI a.red u w) :
    Calls Tryz.prog 38 #[.agg #[.int .i64 a.look,.int .i64 a.to,u,.bool a.acc]] w fun e w'=>e=.returned (.bool (tornA a))∧Below w.heap.size w w':=by
  obtain ⟨ua,uc,rfl,_⟩:=hu
  obtain ⟨a0,a1,ar,a3⟩:=a
  simp only at *
  have HTF:Hid (¬ (0<ar.length∧1<ar.length+(if a1=-1 then 0 else 1)+(if a3=true then 1 else 0))→tornA ⟨a0,a1,ar,a3⟩=false):=fun h=>torn_false h
  have HTT:Hid ((0<ar.length∧1<ar.length+(if a1=-1 then 0 else 1)+(if a3=true then 1 else 0))→tornA ⟨a0,a1,ar,a3⟩=true):=(torn_iff ⟨a0,a1,ar,a3⟩).2
  have B0:Below w.heap.size w (w.alloc (Obj.cells #[.int .i64 a0,.int .i64 a1,.slice ua ar.length uc,.bool a3] 45)):=(Below.refl _ _).alloc (Nat.le_refl _) _
  go_enter Tryz.func38,Tryz.ntmps38
  rcases Nat.lt_trichotomy ar.length 1 with h | h | h
  · have h0:((ar.length:Int) == 0)=true:=by simp; exact List.eq_nil_of_length_eq_zero (by omega)
    have h0':(ar.length:Int)=0:=by omega
    have HE:Hid (tornA ⟨a0,a1,ar,a3⟩=false):=HTF.out (fun q=>by have:=q.1; omega)
    clear HTF HTT
    go_wp2_with fail
    go_ret
    exact ⟨by rw [HE.out]; rfl,B0⟩
  · have h0:((ar.length:Int) == 0)=false:=by rw [h]; rfl
    have h0':¬ (ar.length:Int)=0:=by omega
    have h1:((ar.length:Int) == 1)=true:=by rw [h]; rfl
    have h1':(ar.length:Int)=1:=by omega
    by_cases ht:a1=-1
    · subst ht
      cases a3 with
      | true =>
        have HE:Hid (tornA ⟨a0,-1,ar,true⟩=true):=HTT.out ⟨by omega,by simp only [reduceIte,Nat.add_zero]; omega⟩
        clear HTF HTT
        go_wp2_with fail
        go_ret
        exact ⟨by rw [HE.out]; rfl,by rw [h] at B0; exact B0⟩
      | false =>
        have HE:Hid (tornA ⟨a0,-1,ar,false⟩=false):=HTF.out (fun q=>by have h2:=q.2; simp only [reduceIte,Bool.false_eq_true,Nat.add_zero] at h2; omega)
        clear HTF HTT
        go_wp2_with fail
        go_ret
        exact ⟨by rw [HE.out]; rfl,by rw [h] at B0; exact B0⟩
    · have ht2:(a1 != -1)=true:=by simpa using ht
      have HE:Hid (tornA ⟨a0,a1,ar,a3⟩=true):=HTT.out ⟨by omega,by simp only [if_neg ht]; omega⟩
      clear HTF HTT
      go_wp2_with fail
      go_ret
      exact ⟨by rw [HE.out]; rfl,by rw [h] at B0; exact B0⟩
  · have h0:((ar.length:Int) == 0)=false:=beq_eq_false_iff_ne.2 (by omega)
    have h0':¬ (ar.length:Int)=0:=by omega
    have h1:((ar.length:Int) == 1)=false:=beq_eq_false_iff_ne.2 (by omega)
    have h1':¬ (ar.length:Int)=1:=by omega
    have HE:Hid (tornA ⟨a0,a1,ar,a3⟩=true):=HTT.out ⟨by omega,by omega⟩
    clear HTF HTT
    go_wp2_with fail
    go_ret
    exact ⟨by rw [HE.out]; rfl,B0⟩
set_option maxRecDepth 100000 in
set_option maxHeartbeats 4000000 in
theorem torn_any (l:List Rw) (v:Value) (w:World) (hl:SlW l v w) (hsz:sizeTb l≤100000000) :
    Calls Tryz.prog 12 #[.agg #[v]] w fun e w'=>∃ v',e=.returned v'∧SlG (tornL l) v' w'∧Apart w.heap.size v'∧Below w.heap.size w w':=by
  obtain ⟨i0,hi0,hz0,hz1,hz2⟩:=info_parts infoArr2
  have HIS:Hid (∀ (a:Ac) (u:Value) W,SlI a.red u W→Calls Tryz.prog 38 #[.agg #[.int .i64 a.look,.int .i64 a.to,u,.bool a.acc]] W fun e w'=>e=.returned (.bool (tornA a))∧Below W.heap.size W w'):=fun a u W h=>isTorn_any a u W h
  have HL:Hid (∀ W,Below w.heap.size w W→SlW l v W):=fun W hb=>hl.next hb
  have HOK:Hid (∀ p∈tornL l,okP p):=ok_torn hl
  have HTL:Hid ((tornL l).length≤sizeTb l):=tornL_len l
  obtain ⟨la,lc,rfl,_,_,_,hlb⟩:=hl
  have B0:=below_box w (.slice la l.length lc) 30
  go_enter Tryz.func12,Tryz.ntmps12
  go_wp2_with fail
  have HT:Hid (∀ W,Below (w.alloc (Obj.cells #[.slice la l.length lc] 30)).heap.size (w.alloc (Obj.cells #[.slice la l.length lc] 30)) W→Below w.heap.size w W):=fun W hb=>below_then B0 hb B0.size
  have HZ:Hid (w.heap.size≤(w.alloc (Obj.cells #[.slice la l.length lc] 30)).heap.size):=B0.size
  clear B0
  generalize w.alloc (Obj.cells #[.slice la l.length lc] 30)=w0 at *
  go_loopw [3,11] (fun ov iv wr=>∃ (i:Nat),iv=.int .i64 i∧i≤l.length∧OwnP 38 w0.heap.size (tornL (l.take i)) ov wr∧Below w0.heap.size w0 wr) (fun _ i _=>l.length - (intOf i).toNat)
  case atStart=>exact ⟨0,rfl,Nat.zero_le _,by simpa [tornL] using OwnP.nil _ _ _,Below.refl _ _⟩
  case round =>
  obtain ⟨i,rfl,hi,hown,BR⟩:=hrel
  obtain ⟨oa,oc,rfl⟩:=own_slice2 hown
  have HO:Hid (OwnP 38 w0.heap.size (tornL (l.take i)) (.slice oa (tornL (l.take i)).length oc) wr):=hown
  clear hown
  have BW:=HT.out _ BR
  by_cases hlt:i<l.length
  case neg =>
    obtain rfl:i=l.length:=by omega
    rw [List.take_of_length_le (Nat.le_refl _)] at HO ⊢
    go_wp2_with fail
    go_ret
    exact ⟨_,rfl,OwnP.sl HO.out HOK.out (by have:=HTL.out; omega),(own_apart2 HO.out).mono HZ.out,BW⟩
  obtain ⟨_,_,e0,hrws,_⟩:=HL.out _ (Below.refl _ w)
  cases e0
  obtain ⟨b,off,va,vg,rfl,hb,ca0,cg0,hA,hG⟩:=hrws.at (Below.refl _ _) hlt
  have ca:=(BW.cell (p:=⟨b,off+i * 2,none⟩) hb).trans ca0
  have cg:=(BW.cell (p:=⟨b,off+i * 2+1,none⟩) hb).trans cg0
  have HSN:Hid (tornL (l.take (i+1))=tornL (l.take i)++tornRow i l[i].acts):=tornL_succ hlt
  have hsA:sizeTb (l.take i)+sizeA l[i].acts≤100000000:=by
    have h1:=sizeTb_succ hlt
    have h2:=sizeTb_le l (i+1)
    unfold sizeR at h1; omega
  have htl:(tornL (l.take i)).length≤sizeTb (l.take i):=tornL_len _
  generalize l[i]=r at *
  have HAA:Hid (∀ W,Below w.heap.size w W→SlA r.acts va W):=fun W hb=>hA.next hb
  obtain ⟨aa,ac,rfl,_,_,_,hab⟩:=hA
  obtain ⟨ga,gc,rfl,_⟩:=hG
  generalize sizeTb (l.take i)=SZ at *
  generalize tornL (l.take i)=T at *
  clear hrws ca0 cg0
  generalize wr=wx at *
  have BX:Below w0.heap.size w0 (wx.alloc (Obj.cells #[.slice aa r.acts.length ac,.slice ga r.goes.length gc] 68)):=BR.alloc BR.size _
  have HOX:Hid (OwnP 38 w0.heap.size T (.slice oa T.length oc) (wx.alloc (Obj.cells #[.slice aa r.acts.length ac,.slice ga r.goes.length gc] 68))):=World.ownsRow.alloc HO.out _
  go_wp2_with fail
  clear ca cg HO
  generalize wx.alloc (Obj.cells #[.slice aa r.acts.length ac,.slice ga r.goes.length gc] 68)=w2 at *
  go_loopw [3,19] (fun ov kv wr=>∃ (k:Nat),kv=.int .i64 k∧k≤r.acts.length∧OwnP 38 w0.heap.size (T++tornRow i (r.acts.take k)) ov wr∧Below w0.heap.size w0 wr) (fun _ i _=>r.acts.length - (intOf i).toNat)
  case atStart=>exact ⟨0,rfl,Nat.zero_le _,by simpa [tornRow] using HOX.out,BX⟩
  case round =>
  clear HOX BW BR BX
  obtain ⟨k,rfl,hk,hown,BK⟩:=hrel
  obtain ⟨pa,pc,rfl⟩:=own_slice2 hown
  have hszk:=BK.size
  have BW:=HT.out _ BK
  by_cases hkl:k<r.acts.length
  case neg =>
    obtain rfl:k=r.acts.length:=by omega
    rw [List.take_of_length_le (Nat.le_refl _)] at hown ⊢
    have HO2:Hid (OwnP 38 w0.heap.size (T++tornRow i r.acts) (.slice pa (T++tornRow i r.acts).length pc) wr):=hown
    clear hown
    generalize T++tornRow i r.acts=T2 at *
    go_wp2_with fail
    exact ⟨⟨i+1,by go_num,by omega,by rw [HSN.out]; exact HO2.out,BK⟩,by simp [intOf]; omega⟩
  obtain ⟨_,_,e0,hacs,_⟩:=HAA.out _ BW
  cases e0
  obtain ⟨b2,off2,v2,rfl,hb2,a0,a1,a2,a3,hred,_,_,hrb⟩:=hacs.at (Below.refl _ _) hkl
  have HTR:Hid (tornRow i (r.acts.take (k+1))=tornRow i (r.acts.take k)++(if tornA r.acts[k] then [((i:Int),r.acts[k].look)] else [])):=tornRow_succ hkl
  have hlen2:(tornRow i (r.acts.take k)).length≤sizeA r.acts:=Nat.le_trans (tornRow_len _ _) (sizeA_le _ _)
  have hlen3:(T++tornRow i (r.acts.take k)).length≤100000000:=by rw [List.length_append]; omega
  unfold OwnP at hown
  obtain ⟨RL,hRL⟩:∃ RL,T++tornRow i (r.acts.take k)=RL:=⟨_,rfl⟩
  have HRL:Hid (T++tornRow i (r.acts.take k)=RL):=hRL
  rw [hRL] at hown hlen3 ⊢
  clear hRL
  generalize r.acts[k]=x at *
  have HNO:Hid (tornA x=false→T++tornRow i (r.acts.take (k+1))=RL):=fun h=>by
    rw [HTR.out,h,← HRL.out]; simp
  have HYES:Hid (tornA x=true→T++tornRow i (r.acts.take (k+1))=RL++[((i:Int),x.look)]):=fun h=>by
    rw [HTR.out,h,← HRL.out]; simp
  have HX:=HIS.out x v2 (wr.alloc (Obj.cells #[.int .i64 x.look,.int .i64 x.to,v2,.bool x.acc] 45)) (hred.next ((Below.refl _ _).alloc (Nat.le_refl _) _))
  obtain ⟨da,dc,rfl,_⟩:=hred
  have HOX:Hid (OwnP 38 w0.heap.size RL (.slice pa RL.length pc) (wr.alloc (Obj.cells #[.int .i64 x.look,.int .i64 x.to,.slice da x.red.length dc,.bool x.acc] 45))):=World.ownsRow.alloc hown _
  have BX:Below w0.heap.size w0 (wr.alloc (Obj.cells #[.int .i64 x.look,.int .i64 x.to,.slice da x.red.length dc,.bool x.acc] 45)):=BK.alloc hszk _
  have y0:(wr.alloc (Obj.cells #[.int .i64 x.look,.int .i64 x.to,.slice da x.red.length dc,.bool x.acc] 45)).cell? ⟨wr.heap.size,0,none⟩=some (.int .i64 x.look):=by simp
  have yl:wr.heap.size<(wr.alloc (Obj.cells #[.int .i64 x.look,.int .i64 x.to,.slice da x.red.length dc,.bool x.acc] 45)).heap.size:=by simp
  clear HTR HRL hown hacs
  go_wp2_with fail
  clear a0 a1 a2 a3
  generalize wr.alloc (Obj.cells #[.int .i64 x.look,.int .i64 x.to,.slice da x.red.length dc,.bool x.acc] 45)=w3 at *
  refine HX.mono ?_
  rintro e w4 ⟨rfl,b4⟩
  have B4:=below_then BX b4 BX.size
  have y4:=(b4.cell (p:=⟨wr.heap.size,0,none⟩) yl).trans y0
  have hown4:w4.ownsRow w0.heap.size 38 2 (.slice pa RL.length pc) RL.length (RL.flatMap encP):=ownsRow_below4 HOX.out b4
  have HO4:Hid (OwnP 38 w0.heap.size RL (.slice pa RL.length pc) w4):=hown4
  obtain ⟨LV,hLV⟩:∃ LV,RL.flatMap encP=LV:=⟨_,rfl⟩
  have HLV:Hid (RL.flatMap encP=LV):=hLV
  rw [hLV] at hown4
  have hsz4:=B4.size
  clear hLV HX b4 y0 yl HOX BX
  cases hx:tornA x with
  | false =>
    have HN:=HNO.out hx
    have HN2:Hid (T++tornRow i (r.acts.take (k+1))=RL):=HN
    clear HNO HYES HN hx
    go_wp2_with fail
    exact ⟨⟨k+1,by go_num,by omega,by rw [HN2.out]; exact HO4.out,B4⟩,by simp [intOf]; omega⟩
  | true =>
    have HN2:Hid (T++tornRow i (r.acts.take (k+1))=RL++[((i:Int),x.look)]):=HYES.out hx
    clear HNO HYES hx
    go_wp2_with (at_builtin; refine wpList_append_own _ rfl (.tmp 25) (.tmp 30) 36 rfl w0.heap.size 38 i0 _ 2 16 Tryz.underlying36 hi0 hz0 hz1 hz2 rfl (by decide) _ RL.length LV rfl (World.ownsRow.alloc hown4 _) ⟨w4.heap.size,0,none⟩ 1 1 (encP ((i:Int),x.look)) rfl rfl (by first | exact new_cellP w4 ((i:Int),x.look) _ | (have:=new_cellP w4 ((i:Int),x.look) 38; simpa [encP] using this)) (by intro u hu; simp [encP] at hu; rcases hu with rfl | rfl <;> rfl) (by unfold maxLen; omega) (by omega) (by simp; omega) ?_)
    intro v9 w9 hown9 hg9 _
    have B9:Below w0.heap.size w0 w9:=(B4.alloc hsz4 _).grown hg9 (by simp; omega) (fun k e=>(World.ownsRow.lt hown4 k e).1)
    obtain ⟨a9,c9,rfl⟩:=own_slice2 hown9
    have HW9:Hid (OwnP 38 w0.heap.size (RL++[((i:Int),x.look)]) (.slice a9 (RL.length+1) c9) w9):=by
      show World.ownsRow _ _ _ _ _ _ _
      have:=hown9
      rw [← HLV.out] at this
      simpa [encP] using this
    clear hown9 hg9 hown4 y4
    go_wp2_with fail
    exact ⟨⟨k+1,by go_num,by omega,by rw [HN2.out]; exact HW9.out,B9⟩,by simp [intOf]; omega⟩
theorem take_ext {l m:List Int} (hlen:l.length=m.length) (h:∀ k,k<l.length→l[k]?=m[k]?):l=m:=by
  apply List.ext_getElem?
  intro k
  rcases Nat.lt_or_ge k l.length with hk | hk
  · exact h k hk
  · rw [List.getElem?_eq_none hk,List.getElem?_eq_none (by omega)]
set_option maxRecDepth 100000 in
set_option maxHeartbeats 1600000 in
theorem rsameAct_any (a b:Ac) (u v:Value) (w:World) (hu:SlI a.red u w) (hv:SlI b.red v w) (hbd:a.red.length≤140737488351232) :
    Calls Tryz.prog 39 #[.agg #[.int .i64 a.look,.int .i64 a.to,u,.bool a.acc],.agg #[.int .i64 b.look,.int .i64 b.to,v,.bool b.acc]] w fun e w'=>e=.returned (.bool (decide (a=b)))∧Below w.heap.size w w':=by
  have HU:Hid (∀ W,Below w.heap.size w W→SlI a.red u W∧SlI b.red v W):=fun W hb=>⟨hu.next hb,hv.next hb⟩
  obtain ⟨ua,uc,rfl,_⟩:=hu
  obtain ⟨va,vc,rfl,_⟩:=hv
  obtain ⟨a0,a1,ar,a3⟩:=a
  obtain ⟨b0,b1,br,b3⟩:=b
  simp only at *
  have B0:Below w.heap.size w ((w.alloc (Obj.cells #[.int .i64 a0,.int .i64 a1,.slice ua ar.length uc,.bool a3] 45)).alloc (Obj.cells #[.int .i64 b0,.int .i64 b1,.slice va br.length vc,.bool b3] 45)):=((Below.refl _ _).alloc (Nat.le_refl _) _).alloc (by simp) _
  have x0:((w.alloc (Obj.cells #[.int .i64 a0,.int .i64 a1,.slice ua ar.length uc,.bool a3] 45)).alloc (Obj.cells #[.int .i64 b0,.int .i64 b1,.slice va br.length vc,.bool b3] 45)).cell? ⟨w.heap.size,0,none⟩=some (.int .i64 a0):=by simp
  have x1:((w.alloc (Obj.cells #[.int .i64 a0,.int .i64 a1,.slice ua ar.length uc,.bool a3] 45)).alloc (Obj.cells #[.int .i64 b0,.int .i64 b1,.slice va br.length vc,.bool b3] 45)).cell? ⟨w.heap.size,1,none⟩=some (.int .i64 a1):=by simp
  have x2:((w.alloc (Obj.cells #[.int .i64 a0,.int .i64 a1,.slice ua ar.length uc,.bool a3] 45)).alloc (Obj.cells #[.int .i64 b0,.int .i64 b1,.slice va br.length vc,.bool b3] 45)).cell? ⟨w.heap.size,2,none⟩=some (.slice ua ar.length uc):=by simp
  have x3:((w.alloc (Obj.cells #[.int .i64 a0,.int .i64 a1,.slice ua ar.length uc,.bool a3] 45)).alloc (Obj.cells #[.int .i64 b0,.int .i64 b1,.slice va br.length vc,.bool b3] 45)).cell? ⟨w.heap.size,3,none⟩=some (.bool a3):=by simp
  have y0:((w.alloc (Obj.cells #[.int .i64 a0,.int .i64 a1,.slice ua ar.length uc,.bool a3] 45)).alloc (Obj.cells #[.int .i64 b0,.int .i64 b1,.slice va br.length vc,.bool b3] 45)).cell? ⟨w.heap.size+1,0,none⟩=some (.int .i64 b0):=by simp
  have y1:((w.alloc (Obj.cells #[.int .i64 a0,.int .i64 a1,.slice ua ar.length uc,.bool a3] 45)).alloc (Obj.cells #[.int .i64 b0,.int .i64 b1,.slice va br.length vc,.bool b3] 45)).cell? ⟨w.heap.size+1,1,none⟩=some (.int .i64 b1):=by simp
  have y2:((w.alloc (Obj.cells #[.int .i64 a0,.int .i64 a1,.slice ua ar.length uc,.bool a3] 45)).alloc (Obj.cells #[.int .i64 b0,.int .i64 b1,.slice va br.length vc,.bool b3] 45)).cell? ⟨w.heap.size+1,2,none⟩=some (.slice va br.length vc):=by simp
  have y3:((w.alloc (Obj.cells #[.int .i64 a0,.int .i64 a1,.slice ua ar.length uc,.bool a3] 45)).alloc (Obj.cells #[.int .i64 b0,.int .i64 b1,.slice va br.length vc,.bool b3] 45)).cell? ⟨w.heap.size+1,3,none⟩=some (.bool b3):=by simp
  have hs2:((w.alloc (Obj.cells #[.int .i64 a0,.int .i64 a1,.slice ua ar.length uc,.bool a3] 45)).alloc (Obj.cells #[.int .i64 b0,.int .i64 b1,.slice va br.length vc,.bool b3] 45)).heap.size=w.heap.size+2:=by simp
  go_enter Tryz.func39,Tryz.ntmps39
  go_upto_region 1 with fail
  generalize (w.alloc (Obj.cells #[.int .i64 a0,.int .i64 a1,.slice ua ar.length uc,.bool a3] 45)).alloc (Obj.cells #[.int .i64 b0,.int .i64 b1,.slice va br.length vc,.bool b3] 45)=w0 at *
  have HC:Hid (∀ W,Below w0.heap.size w0 W→W.cell? ⟨w.heap.size,2,none⟩=some (.slice ua ar.length uc)∧W.cell? ⟨w.heap.size+1,2,none⟩=some (.slice va br.length vc)):=fun W hb=>⟨(hb.cell (p:=⟨w.heap.size,2,none⟩) (by simp only; omega)).trans x2,(hb.cell (p:=⟨w.heap.size+1,2,none⟩) (by simp only; omega)).trans y2⟩
  by_cases e0:a0=b0
  case neg =>
    have HE:Hid (decide ((⟨a0,a1,ar,a3⟩:Ac)=⟨b0,b1,br,b3⟩)=false):=decide_eq_false (fun h=>e0 (by cases h; rfl))
    have e0':(a0 != b0)=true:=by simpa using e0
    go_wp2_with fail
    go_ret
    exact ⟨by rw [HE.out]; rfl,B0⟩
  subst e0
  by_cases e1:a1=b1
  case neg =>
    have HE:Hid (decide ((⟨a0,a1,ar,a3⟩:Ac)=⟨a0,b1,br,b3⟩)=false):=decide_eq_false (fun h=>e1 (by cases h; rfl))
    have e1':(a1 != b1)=true:=by simpa using e1
    go_wp2_with fail
    go_ret
    exact ⟨by rw [HE.out]; rfl,B0⟩
  subst e1
  by_cases e3:a3=b3
  case neg =>
    have HE:Hid (decide ((⟨a0,a1,ar,a3⟩:Ac)=⟨a0,a1,br,b3⟩)=false):=decide_eq_false (fun h=>e3 (by cases h; rfl))
    have e3':(a3 != b3)=true:=by simpa using e3
    go_wp2_with fail
    go_ret
    exact ⟨by rw [HE.out]; rfl,B0⟩
  subst e3
  by_cases e2:ar.length=br.length
  case neg =>
    have HE:Hid (decide ((⟨a0,a1,ar,a3⟩:Ac)=⟨a0,a1,br,a3⟩)=false):=decide_eq_false (fun h=>e2 (by cases h; rfl))
    have e2':((ar.length:Int) != (br.length:Int))=true:=by simp; omega
    have e2'':¬ (ar.length:Int)=(br.length:Int):=by omega
    go_wp2_with fail
    go_ret
    exact ⟨by rw [HE.out]; rfl,B0⟩
  have HEQ:Hid ((∀ k:Nat,k<ar.length→ar[k]?=br[k]?)→decide ((⟨a0,a1,ar,a3⟩:Ac)=⟨a0,a1,br,a3⟩)=true):=fun h=>decide_eq_true (by rw [take_ext e2 h])
  have HNE:Hid (∀ k:Nat,ar[k]?≠br[k]?→decide ((⟨a0,a1,ar,a3⟩:Ac)=⟨a0,a1,br,a3⟩)=false):=fun k h=>decide_eq_false (fun e=>h (by cases e; rfl))
  have e2':((ar.length:Int) != (br.length:Int))=false:=by simp; omega
  have e2'':(ar.length:Int)=(br.length:Int):=by omega
  go_wp2_with fail
  clear x0 x1 x2 x3 y0 y1 y2 y3
  go_loopw [5] (fun iv wr=>∃ (i:Nat),iv=.int .i64 i∧i≤ar.length∧(∀ k,k<i→ar[k]?=br[k]?)∧Below w0.heap.size w0 wr) (fun i _=>ar.length - (intOf i).toNat)
  case atStart=>exact ⟨0,rfl,Nat.zero_le _,fun k hk=>by omega,Below.refl _ _⟩
  case round =>
  obtain ⟨i,rfl,hi,hall,BR⟩:=hrel
  have HAL:Hid (∀ k,k<i→ar[k]?=br[k]?):=hall
  clear hall
  obtain ⟨x2,y2⟩:=HC.out _ BR
  have BW:=below_then B0 BR B0.size
  by_cases hlt:i<ar.length
  case neg =>
    obtain rfl:i=ar.length:=by omega
    have HE:Hid (decide ((⟨a0,a1,ar,a3⟩:Ac)=⟨a0,a1,br,a3⟩)=true):=HEQ.out HAL.out
    clear HEQ HNE
    go_wp2_with fail
    go_ret
    exact ⟨by rw [HE.out]; rfl,BW⟩
  obtain ⟨s1,s2⟩:=HU.out _ BW
  obtain ⟨_,_,ee,hra,_⟩:=s1
  cases ee
  obtain ⟨_,_,ee,hrb,_⟩:=s2
  cases ee
  have hlt2:i<br.length:=by omega
  obtain ⟨ub,uo,rfl,_,c1⟩:=hra.at (Below.refl _ _) hlt
  obtain ⟨vb,vo,rfl,_,c2⟩:=hrb.at (Below.refl _ _) hlt2
  unfold encI at c1 c2
  have HA1:Hid (ar[i]?=some ar[i]∧br[i]?=some br[i]):=by constructor <;> simp
  generalize ar[i]=p at *
  generalize br[i]=q at *
  clear hra hrb
  by_cases hpq:p=q
  · subst hpq
    have HAN:Hid (∀ k,k<i+1→ar[k]?=br[k]?):=fun k hk=>by
      rcases Nat.lt_or_ge k i with h | h
      · exact HAL.out k h
      · obtain rfl:k=i:=by omega
        rw [HA1.out.1,HA1.out.2]
    clear HA1 HEQ HNE HAL
    go_wp2_with fail
    go_quiet (fail)
    go_wp2_with fail
    exact ⟨⟨i+1,by go_num,by omega,HAN.out,below_drewN BR _⟩,by simp [intOf]; omega⟩
  · have hpq':(p != q)=true:=by simpa using hpq
    have HE:Hid (decide ((⟨a0,a1,ar,a3⟩:Ac)=⟨a0,a1,br,a3⟩)=false):=HNE.out i (by rw [HA1.out.1,HA1.out.2]; simpa using hpq)
    clear HA1 HEQ HNE HAL
    go_wp2_with fail
    go_quiet (fail)
    go_wp2_with fail
    go_ret
    exact ⟨by rw [HE.out]; rfl,below_drewN BW _⟩
def rowF (l:List Rw) (s:Int):Rw:=if 0≤s then (l[s.toNat]?).getD ⟨[],[]⟩ else ⟨[],[]⟩
def actF (l:List Rw) (s look:Int):Ac:=((rowF l s).acts.find? (fun a=>a.look == look)).getD ⟨look,-1,[],false⟩
theorem rowF_out {l:List Rw} {s:Int} (h:¬ (0≤s∧s<l.length)):rowF l s=⟨[],[]⟩:=by
  unfold rowF
  by_cases h0:0≤s
  · rw [if_pos h0,List.getElem?_eq_none (by omega)]; rfl
  · rw [if_neg h0]
theorem rowF_in {l:List Rw} {k:Nat} (h:k<l.length):rowF l (k:Int)=l[k]:=by
  unfold rowF
  rw [if_pos (by omega),Int.toNat_natCast,List.getElem?_eq_getElem h]; rfl
set_option maxRecDepth 100000 in
theorem isBelow_any (n m:Int) (w:World):Calls Tryz.prog 77 #[.int .i64 n,.int .i64 m] w fun e w'=>e=.returned (.bool (decide (0≤n∧n<m)))∧w'=w:=by
  go_enter Tryz.func77,Tryz.ntmps77
  by_cases h0:0≤n
  · have d0:decide (0≤n)=true:=decide_eq_true h0
    by_cases h1:n<m
    · have d1:decide (n<m)=true:=decide_eq_true h1
      have HE:Hid (decide (0≤n∧n<m)=true):=decide_eq_true ⟨h0,h1⟩
      go_wp2_with fail
      go_ret
      exact ⟨by first | rfl | (rw [HE.out]; rfl),rfl⟩
    · have d1:decide (n<m)=false:=decide_eq_false h1
      have HE:Hid (decide (0≤n∧n<m)=false):=decide_eq_false (fun h=>h1 h.2)
      go_wp2_with fail
      go_ret
      exact ⟨by first | rfl | (rw [HE.out]; rfl),rfl⟩
  · have d0:decide (0≤n)=false:=decide_eq_false h0
    have HE:Hid (decide (0≤n∧n<m)=false):=decide_eq_false (fun h=>h0 h.1)
    go_wp2_with fail
    go_ret
    exact ⟨by first | rfl | (rw [HE.out]; rfl),rfl⟩
set_option maxRecDepth 100000 in
set_option maxHeartbeats 1600000 in
theorem rowOf_any (l:List Rw) (v:Value) (s:Int) (w:World) (hl:SlW l v w) :
    Calls Tryz.prog 45 #[.agg #[v],.int .i64 s] w fun e w'=>∃ va vg,e=.returned (.agg #[va,vg])∧SlA (rowF l s).acts va w'∧SlG (rowF l s).goes vg w'∧Below w.heap.size w w':=by
  have HL:Hid (∀ W,Below w.heap.size w W→SlW l v W):=fun W hb=>hl.next hb
  have HIB:Hid (∀ (n m:Int) W,Calls Tryz.prog 77 #[.int .i64 n,.int .i64 m] W fun e w'=>e=.returned (.bool (decide (0≤n∧n<m)))∧w'=W):=fun n m W=>isBelow_any n m W
  obtain ⟨la,lc,rfl,_,_,_,hlb⟩:=hl
  have B0:Below w.heap.size w ((w.alloc (Obj.cells #[.slice la l.length lc] 30)).alloc (Obj.cells #[.slice none 0 0,.slice none 0 0] 68)):=((Below.refl _ _).alloc (Nat.le_refl _) _).alloc (by simp) _
  go_enter Tryz.func45,Tryz.ntmps45
  go_wp2_with fail
  refine (HIB.out s l.length _).mono ?_
  rintro e w1 ⟨rfl,rfl⟩
  clear HIB
  by_cases hin:0≤s∧s<l.length
  case neg =>
    have HE:Hid (rowF l s=⟨[],[]⟩):=rowF_out hin
    have hd:decide (0≤s∧s<l.length)=false:=decide_eq_false hin
    rw [hd]
    clear hd hin
    go_wp2_with fail
    refine bodyPost_ret (results_cell_row rfl _ _ (w.heap.size+1) 68 #[.slice none 0 0,.slice none 0 0] (0,0) _ rfl (heap_alloc2_new _ _ _) Tryz.underlying68 rfl (by kernel_rfl)) rfl ?_
    exact ⟨_,_,rfl,by rw [HE.out]; exact SlA.nil _,by rw [HE.out]; exact SlG.nil _,B0⟩
  have hd:decide (0≤s∧s<l.length)=true:=decide_eq_true hin
  rw [hd]
  clear hd
  obtain ⟨k,rfl⟩:∃ k:Nat,s=k:=⟨s.toNat,by omega⟩
  have hk:k<l.length:=by omega
  have HE:Hid (rowF l (k:Int)=l[k]):=rowF_in hk
  obtain ⟨_,_,e0,hrws,_⟩:=HL.out _ (Below.refl _ _)
  cases e0
  obtain ⟨b,off,va,vg,rfl,hb,ca0,cg0,hA,hG⟩:=hrws.at (Below.refl _ _) hk
  have ca:=(B0.cell (p:=⟨b,off+k * 2,none⟩) hb).trans ca0
  have cg:=(B0.cell (p:=⟨b,off+k * 2+1,none⟩) hb).trans cg0
  have HA:Hid (∀ W,Below w.heap.size w W→SlA l[k].acts va W∧SlG l[k].goes vg W):=fun W hb=>⟨hA.next hb,hG.next hb⟩
  obtain ⟨aa,ac,rfl,_⟩:=hA
  obtain ⟨ga,gc,rfl,_⟩:=hG
  generalize l[k]=r at *
  clear hrws ca0 cg0 hin
  have B1:Below w.heap.size w ((w.alloc (Obj.cells #[.slice (some ⟨b,off,none⟩) l.length lc] 30)).alloc (Obj.cells #[.slice aa r.acts.length ac,.slice ga r.goes.length gc] 68)):=((Below.refl _ _).alloc (Nat.le_refl _) _).alloc (by simp) _
  go_wp2_with fail
  refine bodyPost_ret (results_cell_row rfl _ _ (w.heap.size+1) 68 #[.slice aa r.acts.length ac,.slice ga r.goes.length gc] (0,0) _ rfl (heap_alloc2_new _ _ _) Tryz.underlying68 rfl (by kernel_rfl)) rfl ?_
  exact ⟨_,_,rfl,by rw [HE.out]; exact (HA.out _ B1).1,by rw [HE.out]; exact (HA.out _ B1).2,B1⟩
theorem find_take {α:Type} (p:α→Bool) {l:List α} {j:Nat} (hj:j<l.length) (h:∀ k,(hk:k<l.length)→k<j→p l[k]=false) (hp:p l[j]=true):l.find? p=some l[j]:=by
  induction l generalizing j with
  | nil=>simp at hj
  | cons a l ih =>
    cases j with
    | zero=>simp at hp; simp [hp]
    | succ j =>
      have h0:=h 0 (by simp) (by omega)
      simp at h0 hp hj ⊢
      exact .inr ⟨h0,ih hj (fun k hk hkj=>h (k+1) (by simp; exact hk) (by omega)) hp⟩
theorem find_none {α:Type} (p:α→Bool) {l:List α} (h:∀ k,(hk:k<l.length)→p l[k]=false):l.find? p=none:=by
  rw [List.find?_eq_none]
  intro x hx
  obtain ⟨k,hk,rfl⟩:=List.getElem_of_mem hx
  simp [h k hk]
theorem SlI.nil12 (W:World):SlI [] (.slice none 0 0) W:=⟨none,0,rfl,RowAt.nil _ _ _,fun _=>rfl,Nat.le_refl _,fun x hx=>by cases hx⟩
theorem ext_le {α:Type} {l m:List α} (hlen:l.length=m.length) (h:∀ k:Nat,k<l.length→l[k]?=m[k]?):l=m:=by
  apply List.ext_getElem?
  intro k
  rcases Nat.lt_or_ge k l.length with hk | hk
  · exact h k hk
  · rw [List.getElem?_eq_none hk,List.getElem?_eq_none (by omega)]
theorem neqGo (a b c d:Int) (w:World):(binOp .neq 75 (.agg #[.int .i64 a,.int .i64 b]) (.agg #[.int .i64 c,.int .i64 d])).run Tryz.prog w=.ok (.bool (!(a == c && b == d))) w:=by
  have u3:=Tryz.underlying3
  have a3:=Tryz.isAgg3
  have z3:=Tryz.sizeOf3
  have hS:Tryz.prog.underlying 75=some (.struct (Tryz.prog.fieldsOf 75)):=by kernel_rfl
  have hp:Tryz.prog.stoodInHeld 75=false:=by kernel_rfl
  rw [run_neq_struct,show (10000:Nat)=9999+1 from rfl,run_equalIn_agg w 9999 75 _ _ hS hp]
  simp only [Program.fieldsOf,Tryz.underlying75]
  go_simp
  by_cases h1:a=c <;> by_cases h2:b=d <;> simp [h1,h2]
set_option maxRecDepth 100000 in
set_option maxHeartbeats 4000000 in
theorem rsame12_any (l m:List Rw) (u v:Value) (w:World) (hl:SlW l u w) (hm:SlW m v w) :
    Calls Tryz.prog 14 #[.agg #[u],.agg #[v]] w fun e w'=>e=.returned (.bool (decide (l=m)))∧Below w.heap.size w w':=by
  have HSA:Hid (∀ (a b:Ac) (u v:Value) W,SlI a.red u W→SlI b.red v W→a.red.length≤140737488351232→Calls Tryz.prog 39 #[.agg #[.int .i64 a.look,.int .i64 a.to,u,.bool a.acc],.agg #[.int .i64 b.look,.int .i64 b.to,v,.bool b.acc]] W fun e w'=>e=.returned (.bool (decide (a=b)))∧Below W.heap.size W w'):=fun a b u v W h1 h2 h3=>rsameAct_any a b u v W h1 h2 h3
  have HL:Hid (SlW l u w∧SlW m v w):=⟨hl,hm⟩
  obtain ⟨la,lc,rfl,_,_,_,hlb⟩:=hl
  obtain ⟨ma,mc,rfl,_,_,_,hmb⟩:=hm
  have B0:Below w.heap.size w ((w.alloc (Obj.cells #[.slice la l.length lc] 30)).alloc (Obj.cells #[.slice ma m.length mc] 30)):=((Below.refl _ _).alloc (Nat.le_refl _) _).alloc (by simp) _
  have t0:((w.alloc (Obj.cells #[.slice la l.length lc] 30)).alloc (Obj.cells #[.slice ma m.length mc] 30)).cell? ⟨w.heap.size,0,none⟩=some (.slice la l.length lc):=by simp
  have t1:((w.alloc (Obj.cells #[.slice la l.length lc] 30)).alloc (Obj.cells #[.slice ma m.length mc] 30)).cell? ⟨w.heap.size+1,0,none⟩=some (.slice ma m.length mc):=by simp
  have hs2:((w.alloc (Obj.cells #[.slice la l.length lc] 30)).alloc (Obj.cells #[.slice ma m.length mc] 30)).heap.size=w.heap.size+2:=by simp
  go_enter Tryz.func14,Tryz.ntmps14
  go_upto_region 1 with fail
  generalize (w.alloc (Obj.cells #[.slice la l.length lc] 30)).alloc (Obj.cells #[.slice ma m.length mc] 30)=w0 at *
  by_cases e2:l.length=m.length
  case neg =>
    have HE:Hid (decide (l=m)=false):=decide_eq_false (fun h=>e2 (by rw [h]))
    have e2':((l.length:Int) != (m.length:Int))=true:=by simp; omega
    have e2'':¬ (l.length:Int)=(m.length:Int):=by omega
    go_wp2_with fail
    go_ret
    exact ⟨by rw [HE.out]; rfl,B0⟩
  have HEQ:Hid ((∀ k:Nat,k<l.length→l[k]?=m[k]?)→decide (l=m)=true):=fun h=>decide_eq_true (ext_le e2 h)
  have HNE:Hid (∀ k:Nat,l[k]?≠m[k]?→decide (l=m)=false):=fun k h=>decide_eq_false (fun e=>h (by rw [e]))
  have HT:Hid (∀ W,Below w0.heap.size w0 W→(W.cell? ⟨w.heap.size,0,none⟩=some (.slice la l.length lc)∧W.cell? ⟨w.heap.size+1,0,none⟩=some (.slice ma m.length mc))∧Below w.heap.size w W):=fun W hb=>⟨⟨(hb.cell (p:=⟨w.heap.size,0,none⟩) (by simp only; omega)).trans t0,(hb.cell (p:=⟨w.heap.size+1,0,none⟩) (by simp only; omega)).trans t1⟩,below_then B0 hb B0.size⟩
  have e2':((l.length:Int) != (m.length:Int))=false:=by simp; omega
  have e2'':(l.length:Int)=(m.length:Int):=by omega
  go_wp2_with fail
  have HLE:Hid (l.length=m.length):=e2
  clear t0 t1 e2' e2'' e2
  go_loopw [5] (fun iv wr=>∃ (i:Nat),iv=.int .i64 i∧i≤l.length∧(∀ k:Nat,k<i→l[k]?=m[k]?)∧Below w0.heap.size w0 wr) (fun i _=>l.length - (intOf i).toNat)
  case atStart=>exact ⟨0,rfl,Nat.zero_le _,fun k hk=>by omega,Below.refl _ _⟩
  case round =>
  obtain ⟨i,rfl,hi,hall,BR⟩:=hrel
  have HAL:Hid (∀ k:Nat,k<i→l[k]?=m[k]?):=hall
  clear hall
  obtain ⟨⟨t0,t1⟩,BW⟩:=HT.out _ BR
  by_cases hlt:i<l.length
  case neg =>
    obtain rfl:i=l.length:=by omega
    have HE:Hid (decide (l=m)=true):=HEQ.out HAL.out
    clear HEQ HNE
    go_wp2_with fail
    go_ret
    exact ⟨by rw [HE.out]; rfl,BW⟩
  have hlt2:i<m.length:=by have:=HLE.out; omega
  obtain ⟨⟨_,_,e0,hrl,_⟩,⟨_,_,e1,hrm,_⟩⟩:=HL.out
  cases e0
  cases e1
  obtain ⟨b,off,va,vg,rfl,hb,ca,cg,hA,hG⟩:=hrl.at BW hlt
  obtain ⟨b',off',va',vg',rfl,hb',ca',cg',hA',hG'⟩:=hrm.at BW hlt2
  have HX1:Hid (l[i]?=some l[i]∧m[i]?=some m[i]):=by constructor <;> simp
  generalize l[i]=x at *
  generalize m[i]=z at *
  have HAX:Hid (∀ W,Below wr.heap.size wr W→(SlA x.acts va W∧SlA z.acts va' W)∧SlG x.goes vg W∧SlG z.goes vg' W):=fun W hb=>⟨⟨hA.next hb,hA'.next hb⟩,hG.next hb,hG'.next hb⟩
  obtain ⟨aa,ac,rfl,_,_,_,hab⟩:=hA
  obtain ⟨ga,gc,rfl,_,_,_,hgb⟩:=hG
  obtain ⟨ba,bc,rfl,_⟩:=hA'
  obtain ⟨ha,hc,rfl,_⟩:=hG'
  have HNX:Hid (x≠z→decide (l=m)=false):=fun h=>HNE.out i (by rw [HX1.out.1,HX1.out.2]; simpa using h)
  have HAN:Hid (x=z→∀ k:Nat,k<i+1→l[k]?=m[k]?):=fun h k hk=>by
    rcases Nat.lt_or_ge k i with h' | h'
    · exact HAL.out k h'
    · obtain rfl:k=i:=by omega
      rw [HX1.out.1,HX1.out.2,h]
  have BX:Below w0.heap.size w0 ((wr.alloc (Obj.cells #[.slice aa x.acts.length ac,.slice ga x.goes.length gc] 68)).alloc (Obj.cells #[.slice ba z.acts.length bc,.slice ha z.goes.length hc] 68)):=(BR.alloc BR.size _).alloc (by have:=BR.size; simp; omega) _
  have bx:Below wr.heap.size wr ((wr.alloc (Obj.cells #[.slice aa x.acts.length ac,.slice ga x.goes.length gc] 68)).alloc (Obj.cells #[.slice ba z.acts.length bc,.slice ha z.goes.length hc] 68)):=((Below.refl _ _).alloc (Nat.le_refl _) _).alloc (by simp) _
  have x0:((wr.alloc (Obj.cells #[.slice aa x.acts.length ac,.slice ga x.goes.length gc] 68)).alloc (Obj.cells #[.slice ba z.acts.length bc,.slice ha z.goes.length hc] 68)).cell? ⟨wr.heap.size,0,none⟩=some (.slice aa x.acts.length ac):=by simp
  have x1:((wr.alloc (Obj.cells #[.slice aa x.acts.length ac,.slice ga x.goes.length gc] 68)).alloc (Obj.cells #[.slice ba z.acts.length bc,.slice ha z.goes.length hc] 68)).cell? ⟨wr.heap.size,1,none⟩=some (.slice ga x.goes.length gc):=by simp
  have y0:((wr.alloc (Obj.cells #[.slice aa x.acts.length ac,.slice ga x.goes.length gc] 68)).alloc (Obj.cells #[.slice ba z.acts.length bc,.slice ha z.goes.length hc] 68)).cell? ⟨wr.heap.size+1,0,none⟩=some (.slice ba z.acts.length bc):=by simp
  have y1:((wr.alloc (Obj.cells #[.slice aa x.acts.length ac,.slice ga x.goes.length gc] 68)).alloc (Obj.cells #[.slice ba z.acts.length bc,.slice ha z.goes.length hc] 68)).cell? ⟨wr.heap.size+1,1,none⟩=some (.slice ha z.goes.length hc):=by simp
  have hsx:((wr.alloc (Obj.cells #[.slice aa x.acts.length ac,.slice ga x.goes.length gc] 68)).alloc (Obj.cells #[.slice ba z.acts.length bc,.slice ha z.goes.length hc] 68)).heap.size=wr.heap.size+2:=by simp
  have bx1:Below wr.heap.size wr (wr.alloc (Obj.cells #[.slice aa x.acts.length ac,.slice ga x.goes.length gc] 68)):=(Below.refl _ _).alloc (Nat.le_refl _) _
  have hw1:w.heap.size+1<wr.heap.size:=by have:=BR.size; omega
  have t1':=(bx1.cell (p:=⟨w.heap.size+1,0,none⟩) hw1).trans t1
  have ca'':=(bx1.cell (p:=⟨b',off'+i * 2,none⟩) hb').trans ca'
  have cg'':=(bx1.cell (p:=⟨b',off'+i * 2+1,none⟩) hb').trans cg'
  clear hrl hrm HX1 HAL HEQ HNE bx1
  go_upto_region 8 with fail
  clear ca cg ca' cg' t0 t1 t1' ca'' cg'' hw1
  have HAY:Hid (∀ W,Below ((wr.alloc (Obj.cells #[.slice aa x.acts.length ac,.slice ga x.goes.length gc] 68)).alloc (Obj.cells #[.slice ba z.acts.length bc,.slice ha z.goes.length hc] 68)).heap.size ((wr.alloc (Obj.cells #[.slice aa x.acts.length ac,.slice ga x.goes.length gc] 68)).alloc (Obj.cells #[.slice ba z.acts.length bc,.slice ha z.goes.length hc] 68)) W→(SlA x.acts (.slice aa x.acts.length ac) W∧SlA z.acts (.slice ba z.acts.length bc) W)∧SlG x.goes (.slice ga x.goes.length gc) W∧SlG z.goes (.slice ha z.goes.length hc) W):=fun W hb=>HAX.out W (below_then bx hb bx.size)
  clear HAX bx
  generalize (wr.alloc (Obj.cells #[.slice aa x.acts.length ac,.slice ga x.goes.length gc] 68)).alloc (Obj.cells #[.slice ba z.acts.length bc,.slice ha z.goes.length hc] 68)=w2 at *
  generalize wr.heap.size=P at *
  have HS:Hid (∀ W,Below w2.heap.size w2 W→(W.cell? ⟨P,0,none⟩=some (.slice aa x.acts.length ac)∧W.cell? ⟨P,1,none⟩=some (.slice ga x.goes.length gc)∧W.cell? ⟨P+1,0,none⟩=some (.slice ba z.acts.length bc)∧W.cell? ⟨P+1,1,none⟩=some (.slice ha z.goes.length hc))):=fun W hb=>⟨(hb.cell (p:=⟨P,0,none⟩) (by simp only; omega)).trans x0,(hb.cell (p:=⟨P,1,none⟩) (by simp only; omega)).trans x1,(hb.cell (p:=⟨P+1,0,none⟩) (by simp only; omega)).trans y0,(hb.cell (p:=⟨P+1,1,none⟩) (by simp only; omega)).trans y1⟩
  have HBX:Hid (∀ W,Below w2.heap.size w2 W→Below w0.heap.size w0 W∧Below w.heap.size w W):=fun W hb=>⟨below_then BX hb BX.size,(HT.out _ (below_then BX hb BX.size)).2⟩
  clear BX BR BW
  by_cases f1:x.acts.length=z.acts.length
  case neg =>
    have HE:Hid (decide (l=m)=false):=HNX.out (fun h=>f1 (by rw [h]))
    have f1':((x.acts.length:Int) != (z.acts.length:Int))=true:=by simp; omega
    have f1'':¬ (x.acts.length:Int)=(z.acts.length:Int):=by omega
    clear HNX HAN
    go_wp2_with fail
    go_ret
    exact ⟨by rw [HE.out]; rfl,(HBX.out _ (Below.refl _ _)).2⟩
  have f1':((x.acts.length:Int) != (z.acts.length:Int))=false:=by simp; omega
  have f1'':(x.acts.length:Int)=(z.acts.length:Int):=by omega
  by_cases f2:x.goes.length=z.goes.length
  case neg =>
    have HE:Hid (decide (l=m)=false):=HNX.out (fun h=>f2 (by rw [h]))
    have f2':((x.goes.length:Int) != (z.goes.length:Int))=true:=by simp; omega
    have f2'':¬ (x.goes.length:Int)=(z.goes.length:Int):=by omega
    clear HNX HAN
    go_wp2_with fail
    go_ret
    exact ⟨by rw [HE.out]; rfl,(HBX.out _ (Below.refl _ _)).2⟩
  have f2':((x.goes.length:Int) != (z.goes.length:Int))=false:=by simp; omega
  have f2'':(x.goes.length:Int)=(z.goes.length:Int):=by omega
  have HNA:Hid (∀ k:Nat,x.acts[k]?≠z.acts[k]?→decide (l=m)=false):=fun k h=>HNX.out (fun e=>h (by rw [e]))
  have HNG:Hid (∀ k:Nat,x.goes[k]?≠z.goes[k]?→decide (l=m)=false):=fun k h=>HNX.out (fun e=>h (by rw [e]))
  have HEX:Hid ((∀ k:Nat,k<x.acts.length→x.acts[k]?=z.acts[k]?)→(∀ k:Nat,k<x.goes.length→x.goes[k]?=z.goes[k]?)→∀ k:Nat,k<i+1→l[k]?=m[k]?):=fun h1 h2=>HAN.out (by
    obtain ⟨xa,xg⟩:=x
    obtain ⟨za,zg⟩:=z
    rw [show xa=za from ext_le f1 h1,show xg=zg from ext_le f2 h2])
  clear HNX HAN
  go_wp2_with fail
  have HF1:Hid (x.acts.length=z.acts.length):=f1
  have HF2:Hid (x.goes.length=z.goes.length):=f2
  clear x0 x1 y0 y1 f1' f1'' f2' f2'' f1 f2
  go_loopw [8] (fun iv wr=>∃ (j:Nat),iv=.int .i64 j∧j≤x.acts.length∧(∀ k:Nat,k<j→x.acts[k]?=z.acts[k]?)∧Below w2.heap.size w2 wr) (fun i _=>x.acts.length - (intOf i).toNat)
  case atStart=>exact ⟨0,rfl,Nat.zero_le _,fun k hk=>by omega,Below.refl _ _⟩
  case round =>
  obtain ⟨j,rfl,hj,hall,BK⟩:=hrel
  have HAL:Hid (∀ k:Nat,k<j→x.acts[k]?=z.acts[k]?):=hall
  clear hall
  obtain ⟨x0,x1,y0,y1⟩:=HS.out _ BK
  by_cases hjl:j<x.acts.length
  case neg =>
    obtain rfl:j=x.acts.length:=by omega
    have HAA:Hid (∀ k:Nat,k<x.acts.length→x.acts[k]?=z.acts[k]?):=HAL.out
    clear HAL
    have HSK:Hid (∀ W,Below wr.heap.size wr W→(W.cell? ⟨P,0,none⟩=some (.slice aa x.acts.length ac)∧W.cell? ⟨P,1,none⟩=some (.slice ga x.goes.length gc)∧W.cell? ⟨P+1,0,none⟩=some (.slice ba z.acts.length bc)∧W.cell? ⟨P+1,1,none⟩=some (.slice ha z.goes.length hc))):=fun W hb=>HS.out W (below_then BK hb BK.size)
    have HAK:Hid (∀ W,Below wr.heap.size wr W→SlG x.goes (.slice ga x.goes.length gc) W∧SlG z.goes (.slice ha z.goes.length hc) W):=fun W hb=>(HAY.out W (below_then BK hb BK.size)).2
    have HBK:Hid (∀ W,Below wr.heap.size wr W→Below w0.heap.size w0 W∧Below w.heap.size w W):=fun W hb=>HBX.out W (below_then BK hb BK.size)
    generalize wr=w5 at *
    go_wp2_with fail
    clear x0 x1 y0 y1
    go_loopw [9] (fun iv wr=>∃ (j:Nat),iv=.int .i64 j∧j≤x.goes.length∧(∀ k:Nat,k<j→x.goes[k]?=z.goes[k]?)∧Below w5.heap.size w5 wr) (fun i _=>x.goes.length - (intOf i).toNat)
    case atStart=>exact ⟨0,rfl,Nat.zero_le _,fun k hk=>by omega,Below.refl _ _⟩
    case round =>
    obtain ⟨j,rfl,hj,hall,BG⟩:=hrel
    have HAL:Hid (∀ k:Nat,k<j→x.goes[k]?=z.goes[k]?):=hall
    clear hall
    obtain ⟨x0,x1,y0,y1⟩:=HSK.out _ BG
    by_cases hjl:j<x.goes.length
    case neg =>
      obtain rfl:j=x.goes.length:=by omega
      have HEN:Hid (∀ k:Nat,k<i+1→l[k]?=m[k]?):=HEX.out HAA.out HAL.out
      clear HEX HNA HNG HAA HAL
      go_wp2_with fail
      exact ⟨⟨i+1,by go_num,by omega,HEN.out,(HBK.out _ BG).1⟩,by simp [intOf]; omega⟩
    obtain ⟨⟨_,_,e0,hxa,_⟩,⟨_,_,e1,hza,_⟩⟩:=HAK.out _ BG
    cases e0
    cases e1
    have hjl2:j<z.goes.length:=by have:=HF2.out; omega
    obtain ⟨b2,o2,rfl,hb2,p0,p1,_⟩:=hxa.at (Below.refl _ _) hjl
    obtain ⟨b3,o3,rfl,hb3,q0,q1,_⟩:=hza.at (Below.refl _ _) hjl2
    have HX1:Hid (x.goes[j]?=some x.goes[j]∧z.goes[j]?=some z.goes[j]):=by constructor <;> simp
    generalize x.goes[j]=p at *
    generalize z.goes[j]=q at *
    clear hxa hza
    have HSD:Hid (∀ W,Below wr.heap.size wr W→((W.cell? ⟨P,1,none⟩=some (.slice (some ⟨b2,o2,none⟩) x.goes.length gc)∧W.cell? ⟨P+1,1,none⟩=some (.slice (some ⟨b3,o3,none⟩) z.goes.length hc))∧(W.cell? ⟨b2,o2+j * 2,none⟩=some (.int .i64 p.1)∧W.cell? ⟨b2,o2+j * 2+1,none⟩=some (.int .i64 p.2))∧(W.cell? ⟨b3,o3+j * 2,none⟩=some (.int .i64 q.1)∧W.cell? ⟨b3,o3+j * 2+1,none⟩=some (.int .i64 q.2)))):=fun W hb=>⟨⟨(HSK.out _ (below_then BG hb BG.size)).2.1,(HSK.out _ (below_then BG hb BG.size)).2.2.2⟩,⟨(hb.cell (p:=⟨b2,o2+j * 2,none⟩) hb2).trans p0,(hb.cell (p:=⟨b2,o2+j * 2+1,none⟩) hb2).trans p1⟩,⟨(hb.cell (p:=⟨b3,o3+j * 2,none⟩) hb3).trans q0,(hb.cell (p:=⟨b3,o3+j * 2+1,none⟩) hb3).trans q1⟩⟩
    have hS0:=HSD.out _ (Below.refl _ wr).drew
    clear p0 p1 q0 q1
    go_wp2_with fail
    have hnq:=neqGo p.1 p.2 q.1 q.2
    obtain ⟨p1,p2⟩:=p
    obtain ⟨q1,q2⟩:=q
    simp only at *
    by_cases hpq:p1=q1∧p2=q2
    · obtain ⟨rfl,rfl⟩:=hpq
      have HA2:Hid (∀ k:Nat,k<j+1→x.goes[k]?=z.goes[k]?):=fun k hk=>by
        rcases Nat.lt_or_ge k j with h | h
        · exact HAL.out k h
        · obtain rfl:k=j:=by omega
          rw [HX1.out.1,HX1.out.2]
      have hnq2:∀ W:World,(binOp .neq 75 (.agg #[.int .i64 p1,.int .i64 p2]) (.agg #[.int .i64 p1,.int .i64 p2])).run Tryz.prog W=.ok (.bool false) W:=fun W=>by rw [hnq W]; simp
      clear hnq HX1 HAL
      refine wp_region_L (fun W=>(W.cell? ⟨P,1,none⟩=some (.slice (some ⟨b2,o2,none⟩) x.goes.length gc)∧W.cell? ⟨P+1,1,none⟩=some (.slice (some ⟨b3,o3,none⟩) z.goes.length hc))∧(W.cell? ⟨b2,o2+j * 2,none⟩=some (.int .i64 p1)∧W.cell? ⟨b2,o2+j * 2+1,none⟩=some (.int .i64 p2))∧(W.cell? ⟨b3,o3+j * 2,none⟩=some (.int .i64 p1)∧W.cell? ⟨b3,o3+j * 2+1,none⟩=some (.int .i64 p2))) 11 (by kernel_rfl) 11 rfl ?_
      refine tk 0 ⟨some 76,.fieldAddr 68 (.tmp 6) 1,0, "ref.go:91",#[],none⟩ hS0 ?_;simp only [Act.put,sA,s0,sS]
      refine tk 1 ⟨some 77,.load 66 (.tmp 76),66, "ref.go:91",#[⟨0,.data⟩],none⟩ hS0 ?_;simp only [Act.put,sA,s0,sS]
      refine tk 2 ⟨some 78,.move (.tmp 9),3, "ref.go:91",#[],none⟩ hS0 ?_;simp only [Act.put,sA,s0,sS]
      refine tk 3 ⟨some 79,.indexAddr 66 (.tmp 77) (.tmp 78),0, "ref.go:91",#[⟨1,.data⟩,⟨2,.data⟩],none⟩ hS0 ?_;simp only [Act.put,sA,s0,sS]
      refine tk 4 ⟨some 80,.load 75 (.tmp 79),75, "ref.go:91",#[⟨3,.data⟩],none⟩ hS0 ?_;simp only [Act.put,sA,s0,sS]
      refine tk 5 ⟨some 81,.fieldAddr 68 (.tmp 7) 1,0, "ref.go:91",#[],none⟩ hS0 ?_;simp only [Act.put,sA,s0,sS]
      refine tk 6 ⟨some 82,.load 66 (.tmp 81),66, "ref.go:91",#[⟨5,.data⟩],none⟩ hS0 ?_;simp only [Act.put,sA,s0,sS]
      refine tk 7 ⟨some 83,.move (.tmp 9),3, "ref.go:91",#[],none⟩ hS0 ?_;simp only [Act.put,sA,s0,sS]
      refine tk 8 ⟨some 84,.indexAddr 66 (.tmp 82) (.tmp 83),0, "ref.go:91",#[⟨6,.data⟩,⟨7,.data⟩],none⟩ hS0 ?_;simp only [Act.put,sA,s0,sS]
      refine tk 9 ⟨some 85,.load 75 (.tmp 84),75, "ref.go:91",#[⟨8,.data⟩],none⟩ hS0 ?_;simp only [Act.put,sA,s0,sS]
      refine tk 10 ⟨some 86,.binOp .neq 75 (.tmp 80) (.tmp 85) 75,4, "ref.go:91",#[⟨4,.data⟩,⟨9,.data⟩],none⟩ hS0 ?_;simp only [Act.put,sA,s0,sS]
      refine wpAnyL_done (by kernel_rfl) ?_ _
      clear hS0 HSD hnq2
      go_wp2_with fail
      exact ⟨⟨j+1,by go_num,by omega,HA2.out,BG.drew⟩,by simp [intOf]; omega⟩
    · have HE:Hid (decide (l=m)=false):=HNG.out j (by rw [HX1.out.1,HX1.out.2]; simpa using hpq)
      have hnq2:∀ W:World,(binOp .neq 75 (.agg #[.int .i64 p1,.int .i64 p2]) (.agg #[.int .i64 q1,.int .i64 q2])).run Tryz.prog W=.ok (.bool true) W:=fun W=>by
        rw [hnq W]
        have:(p1 == q1 && p2 == q2)=false:=by
          cases h:(p1 == q1 && p2 == q2)
          · rfl
          · exact absurd (by simpa using h) hpq
        rw [this]; rfl
      clear hnq HX1 HAL hpq
      refine wp_region_L (fun W=>(W.cell? ⟨P,1,none⟩=some (.slice (some ⟨b2,o2,none⟩) x.goes.length gc)∧W.cell? ⟨P+1,1,none⟩=some (.slice (some ⟨b3,o3,none⟩) z.goes.length hc))∧(W.cell? ⟨b2,o2+j * 2,none⟩=some (.int .i64 p1)∧W.cell? ⟨b2,o2+j * 2+1,none⟩=some (.int .i64 p2))∧(W.cell? ⟨b3,o3+j * 2,none⟩=some (.int .i64 q1)∧W.cell? ⟨b3,o3+j * 2+1,none⟩=some (.int .i64 q2))) 11 (by kernel_rfl) 11 rfl ?_
      refine tk 0 ⟨some 76,.fieldAddr 68 (.tmp 6) 1,0, "ref.go:91",#[],none⟩ hS0 ?_;simp only [Act.put,sA,s0,sS]
      refine tk 1 ⟨some 77,.load 66 (.tmp 76),66, "ref.go:91",#[⟨0,.data⟩],none⟩ hS0 ?_;simp only [Act.put,sA,s0,sS]
      refine tk 2 ⟨some 78,.move (.tmp 9),3, "ref.go:91",#[],none⟩ hS0 ?_;simp only [Act.put,sA,s0,sS]
      refine tk 3 ⟨some 79,.indexAddr 66 (.tmp 77) (.tmp 78),0, "ref.go:91",#[⟨1,.data⟩,⟨2,.data⟩],none⟩ hS0 ?_;simp only [Act.put,sA,s0,sS]
      refine tk 4 ⟨some 80,.load 75 (.tmp 79),75, "ref.go:91",#[⟨3,.data⟩],none⟩ hS0 ?_;simp only [Act.put,sA,s0,sS]
      refine tk 5 ⟨some 81,.fieldAddr 68 (.tmp 7) 1,0, "ref.go:91",#[],none⟩ hS0 ?_;simp only [Act.put,sA,s0,sS]
      refine tk 6 ⟨some 82,.load 66 (.tmp 81),66, "ref.go:91",#[⟨5,.data⟩],none⟩ hS0 ?_;simp only [Act.put,sA,s0,sS]
      refine tk 7 ⟨some 83,.move (.tmp 9),3, "ref.go:91",#[],none⟩ hS0 ?_;simp only [Act.put,sA,s0,sS]
      refine tk 8 ⟨some 84,.indexAddr 66 (.tmp 82) (.tmp 83),0, "ref.go:91",#[⟨6,.data⟩,⟨7,.data⟩],none⟩ hS0 ?_;simp only [Act.put,sA,s0,sS]
      refine tk 9 ⟨some 85,.load 75 (.tmp 84),75, "ref.go:91",#[⟨8,.data⟩],none⟩ hS0 ?_;simp only [Act.put,sA,s0,sS]
      refine tk 10 ⟨some 86,.binOp .neq 75 (.tmp 80) (.tmp 85) 75,4, "ref.go:91",#[⟨4,.data⟩,⟨9,.data⟩],none⟩ hS0 ?_;simp only [Act.put,sA,s0,sS]
      refine wpAnyL_done (by kernel_rfl) ?_ _
      clear hS0 HSD hnq2
      go_wp2_with fail
      go_ret
      exact ⟨by rw [HE.out]; rfl,(HBK.out _ BG.drew).2⟩
  obtain ⟨⟨⟨_,_,e0,hxa,_⟩,⟨_,_,e1,hza,_⟩⟩,_⟩:=HAY.out _ BK
  cases e0
  cases e1
  have hjl2:j<z.acts.length:=by have:=HF1.out; omega
  obtain ⟨b2,o2,pv,rfl,hb2,p0,p1,p2,p3,hpr,_,_,hpb⟩:=hxa.at (Below.refl _ _) hjl
  obtain ⟨b3,o3,qv,rfl,hb3,q0,q1,q2,q3,hqr,_⟩:=hza.at (Below.refl _ _) hjl2
  have HX1:Hid (x.acts[j]?=some x.acts[j]∧z.acts[j]?=some z.acts[j]):=by constructor <;> simp
  generalize x.acts[j]=p at *
  generalize z.acts[j]=q at *
  have HCA:=HSA.out p q pv qv wr.drew (hpr.next (Below.refl _ _).drew) (hqr.next (Below.refl _ _).drew) hpb
  obtain ⟨pa,pc,rfl,_⟩:=hpr
  obtain ⟨qa,qc,rfl,_⟩:=hqr
  have HSD:Hid (∀ W,Below wr.heap.size wr W→((W.cell? ⟨P,0,none⟩=some (.slice (some ⟨b2,o2,none⟩) x.acts.length ac)∧W.cell? ⟨P+1,0,none⟩=some (.slice (some ⟨b3,o3,none⟩) z.acts.length bc))∧(W.cell? ⟨b2,o2+j * 4,none⟩=some (.int .i64 p.look)∧W.cell? ⟨b2,o2+j * 4+1,none⟩=some (.int .i64 p.to)∧W.cell? ⟨b2,o2+j * 4+2,none⟩=some (.slice pa p.red.length pc)∧W.cell? ⟨b2,o2+j * 4+3,none⟩=some (.bool p.acc))∧(W.cell? ⟨b3,o3+j * 4,none⟩=some (.int .i64 q.look)∧W.cell? ⟨b3,o3+j * 4+1,none⟩=some (.int .i64 q.to)∧W.cell? ⟨b3,o3+j * 4+2,none⟩=some (.slice qa q.red.length qc)∧W.cell? ⟨b3,o3+j * 4+3,none⟩=some (.bool q.acc)))):=fun W hb=>⟨⟨(HS.out _ (below_then BK hb BK.size)).1,(HS.out _ (below_then BK hb BK.size)).2.2.1⟩,⟨(hb.cell (p:=⟨b2,o2+j * 4,none⟩) hb2).trans p0,(hb.cell (p:=⟨b2,o2+j * 4+1,none⟩) hb2).trans p1,(hb.cell (p:=⟨b2,o2+j * 4+2,none⟩) hb2).trans p2,(hb.cell (p:=⟨b2,o2+j * 4+3,none⟩) hb2).trans p3⟩,⟨(hb.cell (p:=⟨b3,o3+j * 4,none⟩) hb3).trans q0,(hb.cell (p:=⟨b3,o3+j * 4+1,none⟩) hb3).trans q1,(hb.cell (p:=⟨b3,o3+j * 4+2,none⟩) hb3).trans q2,(hb.cell (p:=⟨b3,o3+j * 4+3,none⟩) hb3).trans q3⟩⟩
  have hS0:=HSD.out _ (Below.refl _ wr).drew
  clear hxa hza p0 p1 p2 p3 q0 q1 q2 q3
  go_wp2_with fail
  refine wp_region_L (fun W=>(W.cell? ⟨P,0,none⟩=some (.slice (some ⟨b2,o2,none⟩) x.acts.length ac)∧W.cell? ⟨P+1,0,none⟩=some (.slice (some ⟨b3,o3,none⟩) z.acts.length bc))∧(W.cell? ⟨b2,o2+j * 4,none⟩=some (.int .i64 p.look)∧W.cell? ⟨b2,o2+j * 4+1,none⟩=some (.int .i64 p.to)∧W.cell? ⟨b2,o2+j * 4+2,none⟩=some (.slice pa p.red.length pc)∧W.cell? ⟨b2,o2+j * 4+3,none⟩=some (.bool p.acc))∧(W.cell? ⟨b3,o3+j * 4,none⟩=some (.int .i64 q.look)∧W.cell? ⟨b3,o3+j * 4+1,none⟩=some (.int .i64 q.to)∧W.cell? ⟨b3,o3+j * 4+2,none⟩=some (.slice qa q.red.length qc)∧W.cell? ⟨b3,o3+j * 4+3,none⟩=some (.bool q.acc))) 12 (by kernel_rfl) 12 rfl ?_
  refine tk 0 ⟨some 57,.fieldAddr 68 (.tmp 6) 0,0, "ref.go:86",#[],none⟩ hS0 ?_;simp only [Act.put,sA,s0,sS]
  refine tk 1 ⟨some 58,.load 65 (.tmp 57),65, "ref.go:86",#[⟨0,.data⟩],none⟩ hS0 ?_;simp only [Act.put,sA,s0,sS]
  refine tk 2 ⟨some 59,.move (.tmp 8),3, "ref.go:86",#[],none⟩ hS0 ?_;simp only [Act.put,sA,s0,sS]
  refine tk 3 ⟨some 60,.indexAddr 65 (.tmp 58) (.tmp 59),0, "ref.go:86",#[⟨1,.data⟩,⟨2,.data⟩],none⟩ hS0 ?_;simp only [Act.put,sA,s0,sS]
  refine tk 4 ⟨some 61,.load 45 (.tmp 60),45, "ref.go:86",#[⟨3,.data⟩],none⟩ hS0 ?_;simp only [Act.put,sA,s0,sS]
  refine tk 5 ⟨some 62,.fieldAddr 68 (.tmp 7) 0,0, "ref.go:86",#[],none⟩ hS0 ?_;simp only [Act.put,sA,s0,sS]
  refine tk 6 ⟨some 63,.load 65 (.tmp 62),65, "ref.go:86",#[⟨5,.data⟩],none⟩ hS0 ?_;simp only [Act.put,sA,s0,sS]
  refine tk 7 ⟨some 64,.move (.tmp 8),3, "ref.go:86",#[],none⟩ hS0 ?_;simp only [Act.put,sA,s0,sS]
  refine tk 8 ⟨some 65,.indexAddr 65 (.tmp 63) (.tmp 64),0, "ref.go:86",#[⟨6,.data⟩,⟨7,.data⟩],none⟩ hS0 ?_;simp only [Act.put,sA,s0,sS]
  refine tk 9 ⟨some 66,.load 45 (.tmp 65),45, "ref.go:86",#[⟨8,.data⟩],none⟩ hS0 ?_;simp only [Act.put,sA,s0,sS]
  refine wpAnyL_one' (i:=10) (o:=⟨some 67,.call ⟨.value (.func 39),#[.tmp 61,.tmp 66],#[45,45]⟩,4, "ref.go:86",#[⟨4,.data⟩,⟨9,.data⟩],none⟩) (by kernel_rfl) rfl rfl (fun KQ hK=>?_)
  go_simp
  refine HCA.mono ?_
  rintro e w6 ⟨rfl,b6⟩
  have B6:=below_then BK.drew b6 (by have:=BK.size; exact this)
  have hS6:=HSD.out _ (below_then (Below.refl _ wr).drew b6 (Nat.le_refl _))
  refine hK.out _ _ (fun _=>hS6) ?_
  clear hK b6
  refine tk 11 ⟨some 68,.unOp .not 4 (.tmp 67),4, "ref.go:86",#[⟨10,.data⟩],none⟩ hS6 ?_;simp only [Act.put,sA,s0,sS]
  refine wpAnyL_done (by kernel_rfl) ?_ _
  clear hS0 hS6 HCA HSD
  by_cases hpq:p=q
  · have HA2:Hid (∀ k:Nat,k<j+1→x.acts[k]?=z.acts[k]?):=fun k hk=>by
      rcases Nat.lt_or_ge k j with h | h
      · exact HAL.out k h
      · obtain rfl:k=j:=by omega
        rw [HX1.out.1,HX1.out.2,hpq]
    have hd:decide (p=q)=true:=decide_eq_true hpq
    rw [hd]
    clear hd hpq HX1 HAL
    go_wp2_with fail
    exact ⟨⟨j+1,by go_num,by omega,HA2.out,B6⟩,by simp [intOf]; omega⟩
  · have HE:Hid (decide (l=m)=false):=HNA.out j (by rw [HX1.out.1,HX1.out.2]; simpa using hpq)
    have hd:decide (p=q)=false:=decide_eq_false hpq
    rw [hd]
    clear hd HX1 HAL hpq
    go_wp2_with fail
    go_ret
    exact ⟨by rw [HE.out]; rfl,(HBX.out _ B6).2⟩
set_option maxRecDepth 100000 in
theorem nothing_any (y:Int) (w:World) :
    Calls Tryz.prog 46 #[.int .i64 y] w fun e w'=>e=.returned (.agg #[.int .i64 y,.int .i64 (-1),.slice none 0 0,.bool false])∧Below w.heap.size w w':=by
  have B0:Below w.heap.size w (w.alloc (Obj.cells #[.int .i64 y,.int .i64 (-1),.slice none 0 0,.bool false] 45)):=(Below.refl _ _).alloc (Nat.le_refl _) _
  go_enter Tryz.func46,Tryz.ntmps46
  go_wp2_with fail
  refine bodyPost_ret (results_cell_row rfl _ _ w.heap.size 45 #[.int .i64 y,.int .i64 (-1),.slice none 0 0,.bool false] (0,0) _ rfl (heap_alloc_new _ _) Tryz.underlying45 rfl (by kernel_rfl)) rfl ?_
  exact ⟨rfl,B0⟩
end Go.Proofs.YtbilbgjojdlobaaGreatDoor
namespace Go.Proofs.YtbilbgjojdlobaaGreatDoor
open Go.RowKit Go.Maps
def heldR (v:Value):Option (DataW Value × List MemPlace):=some (.held v,[])
theorem heldR_inv {v x:Value} {ps:List MemPlace} (h:heldR v=some (.held x,ps)):v=x:=by
  unfold heldR at h
  simp at h
  exact h.1
def acVal (a:Ac) (u:Value):Value:=.agg #[.int .i64 a.look,.int .i64 a.to,u,.bool a.acc]
def OwnI (B:Nat) (l:List Int) (v:Value) (W:World):Prop:=W.ownsRow B 3 1 v l.length (l.map encI)
theorem lawInt:Keyed Tryz.prog 3:=int_keyed Tryz.underlying3
theorem keyInt {t:Int} (h:i64B t):keyOf Tryz.prog 3 (.int .i64 t)=some (.int .i64 t):=keyOf_int_mk Tryz.underlying3 (wf64 h)
structure MapA (B b n:Nat) (G:Int→Option Ac) (U:Int→Value) (W:World):Prop where
  hB:B≤b
  keys:∀ t a,G t=some a→i64B t
  own:∃ D:DataW Value,W.ownsMap Tryz.prog 3 heldR b n D∧(∀ t,i64B t→Maps.has D (.int .i64 t)=(G t).isSome)∧∀ t a,G t=some a→∀ z,D.atKey (.int .i64 t) z=.held (acVal a (U t))
  rows:∀ t a,G t=some a→OwnI B a.red (U t) W
  apart:∀ t t' a a' k,t≠t'→G t=some a→G t'=some a'→(U t).ownBlock=some k→(U t').ownBlock=some k→False
def inA (b:Nat) (G:Int→Option Ac) (U:Int→Value) (k:Nat):Prop:=k=b∨∃ t a,G t=some a∧(U t).ownBlock=some k
theorem MapA.lt {B b n:Nat} {G:Int→Option Ac} {U:Int→Value} {W:World} (h:MapA B b n G U W):b<W.heap.size:=by
  obtain ⟨D,h,_⟩:=h.own; exact h.lt
theorem MapA.inLt {B b n:Nat} {G:Int→Option Ac} {U:Int→Value} {W:World} (h:MapA B b n G U W) {k:Nat} (hk:inA b G U k):B≤k∧k<W.heap.size:=by
  rcases hk with rfl | ⟨t,a,ha,hk⟩
  · exact ⟨h.hB,h.lt⟩
  · exact World.ownsRow.lt (h.rows t a ha) k hk
theorem MapA.keep {B b n:Nat} {G:Int→Option Ac} {U:Int→Value} {W W':World} {D:Nat→Prop} (h:MapA B b n G U W) (hb:But D W W') (hd:∀ k,inA b G U k→¬ D k):MapA B b n G U W':=by
  obtain ⟨M,⟨es,clock,h1,h2⟩,h3⟩:=h.own
  exact ⟨h.hB,h.keys,⟨M,⟨es,clock,(hb.block b h.lt (hd b (.inl rfl))).trans h1,h2⟩,h3⟩,fun t a ha=>ownsRow_keep (h.rows t a ha) hb (fun k hk=>hd k (.inr ⟨t,a,ha,hk⟩)),h.apart⟩
theorem MapA.next {B b n:Nat} {G:Int→Option Ac} {U:Int→Value} {W W':World} (h:MapA B b n G U W) (hb:Below W.heap.size W W'):MapA B b n G U W' :=
  h.keep (D:=fun _=>False) (But.of_next hb) (fun _ _ h=>h)
theorem MapA.made {B:Nat} (W:World) (hB:B≤W.heap.size) (U:Int→Value):MapA B W.heap.size 0 (fun _=>none) U (W.alloc (.map #[] 0)) :=
  ⟨hB,fun _ _ h=>(by cases h),⟨.map [],World.ownsMap_made W _ _ _,fun t _=>by simp [Maps.has],fun _ _ h=>(by cases h)⟩,fun _ _ h=>(by cases h),fun _ _ _ _ _ _ h=>(by cases h)⟩
def curA (G:Int→Option Ac) (t:Int):Ac:=(G t).getD ⟨t,-1,[],false⟩
def curU (G:Int→Option Ac) (U:Int→Value) (t:Int):Value:=if (G t).isSome then U t else .slice none 0 0
def updG (G:Int→Option Ac) (t:Int) (a:Ac):Int→Option Ac:=fun s=>if s=t then some a else G s
def updU (U:Int→Value) (t:Int) (u:Value):Int→Value:=fun s=>if s=t then u else U s
theorem zeroAct (W:World):(zeroValue 45).run Tryz.prog W=.ok (.agg #[.int .i64 0,.int .i64 0,.slice none 0 0,.bool false]) W:=Tryz.zeroValue45 W
theorem MapA.look {B b n:Nat} {G:Int→Option Ac} {U:Int→Value} {W:World} (h:MapA B b n G U W) {t:Int} (ht:i64B t) :
    ∃ v,(Instr.lookup 119 (.map (some b)) (.int .i64 t) true).run Tryz.prog W=.ok (.tuple #[v,.bool (G t).isSome]) W∧(∀ a,G t=some a→v=acVal a (U t))∧(G t=none→v=.agg #[.int .i64 0,.int .i64 0,.slice none 0 0,.bool false]):=by
  obtain ⟨D,h1,h2,h3⟩:=h.own
  obtain ⟨v,ps,hr,hv⟩:=h1.look_ok lawInt Tryz.underlying119 (zeroAct W) (zd:=.held (.agg #[.int .i64 0,.int .i64 0,.slice none 0 0,.bool false])) (zp:=[]) rfl (keyInt ht)
  rw [h2 t ht] at hr
  refine ⟨v,hr,fun a ha=>?_,fun hn=>?_⟩
  · rw [h3 t a ha] at hv
    exact heldR_inv hv
  · rw [atKey_of_not_has (by rw [h2 t ht,hn]; rfl)] at hv
    exact heldR_inv hv
theorem MapA.look1 {B b n:Nat} {G:Int→Option Ac} {U:Int→Value} {W:World} (h:MapA B b n G U W) {t:Int} {a:Ac} (ha:G t=some a) :
    (Instr.lookup 119 (.map (some b)) (.int .i64 t) false).run Tryz.prog W=.ok (acVal a (U t)) W:=by
  obtain ⟨D,h1,h2,h3⟩:=h.own
  obtain ⟨v,ps,hr,hv⟩:=h1.lookup lawInt Tryz.underlying119 (zeroAct W) (zd:=.held (.agg #[.int .i64 0,.int .i64 0,.slice none 0 0,.bool false])) (zp:=[]) rfl (keyInt (h.keys t a ha))
  rw [h3 t a ha] at hv
  rw [hr,heldR_inv hv]
theorem but_turned {W W':World} {b:Nat} (h:W.mapTurned W' b):But (fun k=>k=b) W W':=by
  have hg:=h.grown
  exact ⟨hg.os,hg.tape,hg.output,hg.size,fun k hk hd=>hg.block k hk (fun e=>hd (by cases e; rfl))⟩
structure MapB (t0:Int) (B b n:Nat) (G:Int→Option Ac) (U:Int→Value) (W:World):Prop where
  hB:B≤b
  keys:∀ t a,G t=some a→i64B t
  own:∃ D:DataW Value,W.ownsMap Tryz.prog 3 heldR b n D∧(∀ t,i64B t→Maps.has D (.int .i64 t)=(G t).isSome)∧∀ t a,G t=some a→∀ z,D.atKey (.int .i64 t) z=.held (acVal a (U t))
  rows:∀ t a,t≠t0→G t=some a→OwnI B a.red (U t) W
  apart:∀ t t' a a' k,t≠t'→G t=some a→G t'=some a'→(U t).ownBlock=some k→(U t').ownBlock=some k→False
theorem MapA.toB {t0:Int} {B b n:Nat} {G:Int→Option Ac} {U:Int→Value} {W:World} (h:MapA B b n G U W):MapB t0 B b n G U W:=⟨h.hB,h.keys,h.own,fun t a _=>h.rows t a,h.apart⟩
theorem MapB.lt {t0:Int} {B b n:Nat} {G:Int→Option Ac} {U:Int→Value} {W:World} (h:MapB t0 B b n G U W):b<W.heap.size:=by
  obtain ⟨D,h,_⟩:=h.own; exact h.lt
theorem MapB.keep {t0:Int} {B b n:Nat} {G:Int→Option Ac} {U:Int→Value} {W W':World} {D:Nat→Prop} (h:MapB t0 B b n G U W) (hb:But D W W') (hd0:¬ D b) (hd:∀ t a k,t≠t0→G t=some a→(U t).ownBlock=some k→¬ D k):MapB t0 B b n G U W':=by
  obtain ⟨M,⟨es,clock,h1,h2⟩,h3⟩:=h.own
  exact ⟨h.hB,h.keys,⟨M,⟨es,clock,(hb.block b h.lt hd0).trans h1,h2⟩,h3⟩,fun t a ht ha=>ownsRow_keep (h.rows t a ht ha) hb (fun k hk=>hd t a k ht ha hk),h.apart⟩
theorem MapB.store {t:Int} {B b n:Nat} {G:Int→Option Ac} {U:Int→Value} {W:World} (h:MapB t B b n G U W) (hn:n<1000000000) (ht:i64B t) (a:Ac) (u:Value) (hu:OwnI B a.red u W)
    (hap:∀ s c k,s≠t→G s=some c→(U s).ownBlock=some k→u.ownBlock=some k→False) :
    ∃ W',(Instr.mapUpdate 119 (.map (some b)) (.int .i64 t) (acVal a u)).run Tryz.prog W=.ok () W'∧MapA B b (n+1) (updG G t a) (updU U t u) W'∧But (fun k=>k=b) W W':=by
  obtain ⟨D,h1,h2,h3⟩:=h.own
  obtain ⟨W',hr,ho,hm⟩:=h1.store lawInt Tryz.underlying119 (by unfold maxLen; omega) (key:=.int .i64 t) (val:=acVal a u) (kl:=.int .i64 t) (d:=.held (acVal a u)) (ps:=[]) (keyInt ht) rfl
  have hb:=but_turned hm
  have hM:=h1.isMap
  have hkey:=lawInt.key (keyInt ht)
  have hne:∀ (l:List Int) (v:Value),OwnI B l v W→v.ownBlock≠some b:=fun l v hv e=>by
    rcases hv.2 with ⟨rfl,_⟩ | ⟨g,cap,cur,rfl,_,hg,_⟩
    · cases e
    · cases e
      obtain ⟨es,clock,hb',_⟩:=h1
      rw [hg] at hb'; cases hb'
  refine ⟨W',hr,⟨h.hB,fun s c hs=>?_,⟨_,ho,fun s hs=>?_,fun s c hs z=>?_⟩,fun s c hs=>?_,fun s s' c c' k hss hs hs' h4 h5=>?_⟩,hb⟩
  · unfold updG at hs
    split at hs
    · rename_i e; rw [e]; exact ht
    · exact h.keys s c hs
  · unfold updG
    split
    · rename_i e; subst e
      exact has_put_same hM hkey _
    · rename_i e
      rw [has_put_other (by simp; exact e)]
      exact h2 s hs
  · unfold updG at hs
    unfold updU
    split at hs
    · rename_i e; subst e
      cases hs
      rw [if_pos rfl]
      exact atKey_put_same hM hkey _ _
    · rename_i e
      rw [atKey_put_other (by simp; exact e),if_neg e]
      exact h3 s c hs z
  · unfold updG at hs
    unfold updU
    split at hs
    · rename_i e; subst e
      cases hs
      rw [if_pos rfl]
      exact ownsRow_keep hu hb (fun j hj e=>hne _ _ hu (by rw [hj,e]))
    · rename_i e
      rw [if_neg e]
      exact ownsRow_keep (h.rows s c e hs) hb (fun j hj e'=>hne _ _ (h.rows s c e hs) (by rw [hj,e']))
  · unfold updG at hs hs'
    unfold updU at h4 h5
    split at hs
    · rename_i e; subst e
      rw [if_neg (fun e=>hss e.symm)] at hs'
      rw [if_pos rfl] at h4
      rw [if_neg (fun e=>hss e.symm)] at h5
      exact hap s' c' k (fun e=>hss e.symm) hs' h5 h4
    · rename_i e
      rw [if_neg e] at h4
      split at hs'
      · rename_i e'; subst e'
        rw [if_pos rfl] at h5
        exact hap s c k e hs h4 h5
      · rename_i e'
        rw [if_neg e'] at h5
        exact h.apart s s' c c' k hss hs hs' h4 h5
theorem MapA.store {B b n:Nat} {G:Int→Option Ac} {U:Int→Value} {W:World} (h:MapA B b n G U W) (hn:n<1000000000) {t:Int} (ht:i64B t) (a:Ac) (u:Value) (hu:OwnI B a.red u W)
    (hap:∀ s c k,s≠t→G s=some c→(U s).ownBlock=some k→u.ownBlock=some k→False) :
    ∃ W',(Instr.mapUpdate 119 (.map (some b)) (.int .i64 t) (acVal a u)).run Tryz.prog W=.ok () W'∧MapA B b (n+1) (updG G t a) (updU U t u) W'∧But (fun k=>k=b) W W' :=
  h.toB.store hn ht a u hu hap
theorem curU_own {B b n:Nat} {G:Int→Option Ac} {U:Int→Value} {W:World} (h:MapA B b n G U W) (t:Int):OwnI B (curA G t).red (curU G U t) W:=by
  unfold curA curU
  cases hg:G t with
  | none=>exact World.ownsRow_nil _ _ _ _
  | some a=>exact h.rows t a hg
end Go.Proofs.YtbilbgjojdlobaaGreatDoor
namespace Go.Proofs.YtbilbgjojdlobaaGreatDoor
open Go.RowKit
theorem results_cell1 {fn:Func} {p:Tmp} {t:TypeId} (h:fn.results=#[.cell p t]) (tmps:Array Value) (P:Program) (w:World) {a:Addr} {x:Value} (ha:tmps.getD p undef=.pointer (some a)) (hx:(loadVar t a).run P w=.ok x w) :
    (results fn tmps).run P w=.ok x w:=by
  have ha':tmps[p]?.getD undef=.pointer (some a):=by simpa using ha
  simp [results,h,ha',asAddr,hx]
theorem set4 {W:World} {R:Nat} {o0 o1 o2 o3:Value} (c0:W.cell? ⟨R,0,none⟩=some o0) (c1:W.cell? ⟨R,1,none⟩=some o1) (c2:W.cell? ⟨R,2,none⟩=some o2) (c3:W.cell? ⟨R,3,none⟩=some o3) (a b c d:Value) :
    ((((W.setCell ⟨R,0,none⟩ a).setCell ⟨R,1,none⟩ b).setCell ⟨R,2,none⟩ c).setCell ⟨R,3,none⟩ d).rangeAt R 0 [a,b,c,d]:=by
  have hne:∀ {i k:Nat},i≠k→(⟨R,i,none⟩:Addr)≠⟨R,k,none⟩:=fun h e=>h (by cases e; rfl)
  intro j v hj
  rcases j with _ | _ | _ | _ | j
  · simp at hj; subst hj
    show World.cell? _ ⟨R,0,none⟩=_
    rw [World.cell?_setCell_other _ _ _ _ (hne (by decide)),World.cell?_setCell_other _ _ _ _ (hne (by decide)),World.cell?_setCell_other _ _ _ _ (hne (by decide))]
    exact World.cell?_setCell_same _ _ _ c0
  · simp at hj; subst hj
    show World.cell? _ ⟨R,1,none⟩=_
    rw [World.cell?_setCell_other _ _ _ _ (hne (by decide)),World.cell?_setCell_other _ _ _ _ (hne (by decide))]
    exact World.cell?_setCell_same _ _ _ ((World.cell?_setCell_other _ _ _ _ (hne (by decide))).trans c1)
  · simp at hj; subst hj
    show World.cell? _ ⟨R,2,none⟩=_
    rw [World.cell?_setCell_other _ _ _ _ (hne (by decide))]
    exact World.cell?_setCell_same _ _ _ ((World.cell?_setCell_other _ _ _ _ (hne (by decide))).trans ((World.cell?_setCell_other _ _ _ _ (hne (by decide))).trans c2))
  · simp at hj; subst hj
    show World.cell? _ ⟨R,3,none⟩=_
    exact World.cell?_setCell_same _ _ _ ((World.cell?_setCell_other _ _ _ _ (hne (by decide))).trans ((World.cell?_setCell_other _ _ _ _ (hne (by decide))).trans ((World.cell?_setCell_other _ _ _ _ (hne (by decide))).trans c3)))
  · simp at hj
theorem rowF_size (l:List Rw) (s:Int):sizeA (rowF l s).acts≤sizeTb l:=by
  by_cases h:0≤s∧s<l.length
  · obtain ⟨k,rfl⟩:∃ k:Nat,s=k:=⟨s.toNat,by omega⟩
    have hk:k<l.length:=by omega
    rw [rowF_in hk]
    exact sizeTb_acts hk
  · rw [rowF_out h]; simp [sizeA]
theorem red_size {l:List Ac} {j:Nat} (h:j<l.length):l[j].red.length≤sizeA l:=by
  have h1:=sizeA_succ h
  have h2:=sizeA_le l (j+1)
  omega
set_option maxRecDepth 100000 in
set_option maxHeartbeats 4000000 in
theorem act12_any (l:List Rw) (v:Value) (s y:Int) (w:World) (hl:SlW l v w) (hsz:sizeTb l≤100000000) :
    Calls Tryz.prog 20 #[.agg #[v],.int .i64 s,.int .i64 y] w fun e w'=>∃ u,e=.returned (.agg #[.int .i64 (actF l s y).look,.int .i64 (actF l s y).to,u,.bool (actF l s y).acc])∧SlI (actF l s y).red u w'∧Apart w.heap.size u∧Below w.heap.size w w':=by
  obtain ⟨i0,hi0,hz0,hz1,hz2⟩:=info_parts info3
  have B0:Below w.heap.size w ((w.alloc (Obj.cells #[v] 30)).alloc (Obj.cells #[.int .i64 0,.int .i64 0,.slice none 0 0,.bool false] 45)):=((Below.refl _ _).alloc (Nat.le_refl _) _).alloc (by simp) _
  have hR:((w.alloc (Obj.cells #[v] 30)).alloc (Obj.cells #[.int .i64 0,.int .i64 0,.slice none 0 0,.bool false] 45)).heap[w.heap.size+1]?=some (Obj.cells #[.int .i64 0,.int .i64 0,.slice none 0 0,.bool false] 45):=heap_alloc2_new _ _ _
  have HRO:=rowOf_any l v s _ (hl.next B0)
  obtain ⟨la,lc,rfl,_,_,_,hlb⟩:=hl
  have t0:((w.alloc (Obj.cells #[.slice la l.length lc] 30)).alloc (Obj.cells #[.int .i64 0,.int .i64 0,.slice none 0 0,.bool false] 45)).cell? ⟨w.heap.size,0,none⟩=some (.slice la l.length lc):=by simp
  have HR:Hid (actF l s y=((rowF l s).acts.find? (fun a=>a.look == y)).getD ⟨y,-1,[],false⟩):=rfl
  have hrsz:sizeA (rowF l s).acts≤100000000:=Nat.le_trans (rowF_size l s) hsz
  generalize rowF l s=r at *
  have HNT:Hid (∀ W,Calls Tryz.prog 46 #[.int .i64 y] W fun e w'=>e=.returned (.agg #[.int .i64 y,.int .i64 (-1),.slice none 0 0,.bool false])∧Below W.heap.size W w'):=fun W=>nothing_any y W
  go_enter Tryz.func20,Tryz.ntmps20
  go_wp2_with fail
  generalize (w.alloc (Obj.cells #[.slice la l.length lc] 30)).alloc (Obj.cells #[.int .i64 0,.int .i64 0,.slice none 0 0,.bool false] 45)=w0 at *
  refine HRO.mono ?_
  rintro e w1 ⟨va,vg,rfl,hA,hG,b1⟩
  have B1:=below_then B0 b1 B0.size
  have hRl:w.heap.size+1<w0.heap.size:=(Array.getElem?_eq_some_iff.1 hR).1
  have HRC:Hid (∀ W,Below w1.heap.size w1 W→W.heap[w.heap.size+1]?=some (Obj.cells #[.int .i64 0,.int .i64 0,.slice none 0 0,.bool false] 45)):=fun W hb=>((below_then b1 hb b1.size).block _ hRl).trans hR
  have HAA:Hid (∀ W,Below w1.heap.size w1 W→SlA r.acts va W):=fun W hb=>hA.next hb
  obtain ⟨aa,ac,rfl,_,_,_,hab⟩:=hA
  obtain ⟨ga,gc,rfl,_⟩:=hG
  have hfd:∀ W:World,(Instr.field 68 (.agg #[.slice aa r.acts.length ac,.slice ga r.goes.length gc]) 0).run Tryz.prog W=.ok (.slice aa r.acts.length ac) W:=fun _=>by kernel_rfl
  have hw1:=b1.size
  clear HRO t0 b1 B0 hR
  go_wp2_with fail
  clear hfd
  go_loopw [14] (fun iv wr=>∃ (j:Nat),iv=.int .i64 j∧j≤r.acts.length∧(∀ k,(hk:k<r.acts.length)→k<j→(r.acts[k].look == y)=false)∧Below w1.heap.size w1 wr) (fun i _=>r.acts.length - (intOf i).toNat)
  case atStart=>exact ⟨0,rfl,Nat.zero_le _,fun k _ hk=>by omega,Below.refl _ _⟩
  case round =>
  obtain ⟨j,rfl,hj,hall,BR⟩:=hrel
  have HAL:Hid (∀ k,(hk:k<r.acts.length)→k<j→(r.acts[k].look == y)=false):=hall
  clear hall
  have BW:=below_then B1 BR B1.size
  by_cases hlt:j<r.acts.length
  case neg =>
    have HN:Hid (actF l s y=⟨y,-1,[],false⟩):=by
      show _=_
      rw [HR.out,find_none _ (fun q hq=>HAL.out q hq (by omega))]; rfl
    have HNW:=HNT.out wr
    clear HR HAL HAA
    go_wp2_with fail
    refine HNW.mono ?_
    rintro e w4 ⟨rfl,b4⟩
    have B4:=below_then BW b4 BW.size
    have hR4:=HRC.out _ (below_then BR b4 BR.size)
    have c0:w4.cell? ⟨w.heap.size+1,0,none⟩=some (.int .i64 0):=by simp [World.cell?,hR4]
    have c1:w4.cell? ⟨w.heap.size+1,1,none⟩=some (.int .i64 0):=by simp [World.cell?,hR4]
    have c2:w4.cell? ⟨w.heap.size+1,2,none⟩=some (.slice none 0 0):=by simp [World.cell?,hR4]
    have c3:w4.cell? ⟨w.heap.size+1,3,none⟩=some (.bool false):=by simp [World.cell?,hR4]
    have z:∀ k,w4.frozen? ⟨w.heap.size+1,k,none⟩=false:=fun k=>by simp [World.frozen?,hR4]
    clear HNW b4 HNT
    go_wp2_with fail
    have hB:Below w.heap.size w ((((w4.setCell ⟨w.heap.size+1,0,none⟩ (.int .i64 y)).setCell ⟨w.heap.size+1,1,none⟩ (.int .i64 (-1))).setCell ⟨w.heap.size+1,2,none⟩ (.slice none 0 0)).setCell ⟨w.heap.size+1,3,none⟩ (.bool false)):=(((B4.setCell (by simp) _).setCell (by simp) _).setCell (by simp) _).setCell (by simp) _
    refine bodyPost_ret (results_cell1 rfl _ _ _ rfl (run_loadVar_mid _ _ _ _ _ _ (set4 c0 c1 c2 c3 _ _ _ _) Tryz.underlying45 rfl (by kernel_rfl))) rfl ?_
    exact ⟨_,by rw [HN.out],by rw [HN.out]; exact SlI.nil12 _,Apart.none _ _ _,hB⟩
  obtain ⟨_,_,e0,hacs,_⟩:=HAA.out _ BR
  cases e0
  obtain ⟨b2,off2,v2,rfl,hb2,d0,d1,d2,d3,hred,_,_,hrb⟩:=hacs.at (Below.refl _ _) hlt
  have HA2:Hid ((r.acts[j].look == y)=false→∀ k,(hk:k<r.acts.length)→k<j+1→(r.acts[k].look == y)=false):=fun he q hq hqj=>by
    rcases Nat.lt_or_ge q j with h | h
    · exact HAL.out q hq h
    · obtain rfl:q=j:=by omega
      exact he
  have HN:Hid (r.acts[j].look=y→actF l s y=r.acts[j]):=fun he=>by
    rw [HR.out,find_take _ hlt HAL.out (by simpa using he)]; rfl
  have hxl:r.acts[j].red.length≤100000000:=Nat.le_trans (red_size hlt) hrsz
  generalize r.acts[j]=x at *
  have HRD:Hid (∀ W,Below wr.heap.size wr W→SlI x.red v2 W):=fun W hb=>hred.next hb
  obtain ⟨da,dc,rfl,_⟩:=hred
  clear HR HAL hacs HNT
  have BX:Below w1.heap.size w1 (wr.alloc (Obj.cells #[.int .i64 x.look,.int .i64 x.to,.slice da x.red.length dc,.bool x.acc] 45)):=BR.alloc BR.size _
  have bx:Below wr.heap.size wr (wr.alloc (Obj.cells #[.int .i64 x.look,.int .i64 x.to,.slice da x.red.length dc,.bool x.acc] 45)):=(Below.refl _ _).alloc (Nat.le_refl _) _
  have hQ:(wr.alloc (Obj.cells #[.int .i64 x.look,.int .i64 x.to,.slice da x.red.length dc,.bool x.acc] 45)).heap[wr.heap.size]?=some (Obj.cells #[.int .i64 x.look,.int .i64 x.to,.slice da x.red.length dc,.bool x.acc] 45):=heap_alloc_new _ _
  by_cases he:x.look=y
  case neg =>
    have he':(x.look == y)=false:=by simpa using he
    have HA3:Hid (∀ k,(hk:k<r.acts.length)→k<j+1→(r.acts[k].look == y)=false):=HA2.out he'
    clear HN HA2 hQ bx
    go_wp2_with fail
    exact ⟨⟨j+1,by go_num,by omega,HA3.out,BX⟩,by simp [intOf]; omega⟩
  have HN2:Hid (actF l s y=x∧x.look=y):=⟨HN.out he,he⟩
  clear HN HA2
  obtain ⟨x0,x1,xr,x3⟩:=x
  simp only at *
  subst he
  have HSX:=HRD.out _ bx
  have HNN:Hid (da=none→xr.length=0∧dc=0):=fun e=>by
    obtain ⟨_,_,e1,_,hcn,hle,_⟩:=HSX
    cases e1
    have:=hcn e
    exact ⟨by omega,this⟩
  have HNW:Hid (∀ ad,da=some ad→∀ (k:Nat) (u:Value),(xr.map encI)[k]?=some u→(wr.alloc (Obj.cells #[.int .i64 x0,.int .i64 x1,.slice da xr.length dc,.bool x3] 45)).cell? (ad.add k)=some u):=fun ad e k u hk=>by
    obtain ⟨_,_,e1,hrow,_⟩:=HSX
    cases e1
    rw [List.getElem?_map] at hk
    obtain ⟨q,hq,rfl⟩:=Option.map_eq_some_iff.1 hk
    obtain ⟨b3,o3,e3,_,c⟩:=hrow k q hq
    rw [e] at e3
    cases e3
    rw [add_plain]; exact c
  have HE6:Hid (∀ u∈xr.map encI,u.oneCell'=true):=by
    intro u hu
    obtain ⟨q,_,rfl⟩:=List.mem_map.1 hu
    rfl
  have HI64:Hid (∀ q∈xr,i64B q):=by
    obtain ⟨_,_,e1,_,_,_,h64⟩:=HSX
    exact h64
  have hm1:(xr.map encI).length=xr.length * 1:=by simp
  clear HSX HRD
  go_wp2_with (at_builtin; refine wpList_append_any rfl (.const (.slice none 0 0)) (.tmp 23) 43 rfl (wr.alloc (Obj.cells #[.int .i64 x0,.int .i64 x1,.slice da xr.length dc,.bool x3] 45)).heap.size 3 i0 _ 1 8 Tryz.underlying43 hi0 hz0 hz1 hz2 rfl (by decide) _ 0 [] rfl (World.ownsRow_nil _ _ _ _) da xr.length dc (xr.map encI) rfl HNN.out hm1 HNW.out HE6.out (by unfold maxLen; omega) (by omega) (Nat.le_refl _) ?_)
  intro v9 w9 hown9 hg9
  have hbn:Below (wr.heap.size+1) (wr.alloc (Obj.cells #[.int .i64 x0,.int .i64 x1,.slice da xr.length dc,.bool x3] 45)) w9:=(Below.refl _ _).grown hg9 (by simp) (fun k e=>by cases e)
  obtain ⟨a9,c9,rfl⟩:=slice_of_own hown9
  have hsw:w1.heap.size≤wr.heap.size:=BR.size
  have hR9:w9.heap[w.heap.size+1]?=some (Obj.cells #[.int .i64 0,.int .i64 0,.slice none 0 0,.bool false] 45):=(hbn.block _ (by omega)).trans (HRC.out _ BX)
  have hQ9:w9.heap[wr.heap.size]?=some (Obj.cells #[.int .i64 x0,.int .i64 x1,.slice da xr.length dc,.bool x3] 45):=(hbn.block _ (by omega)).trans hQ
  have hne:wr.heap.size≠w.heap.size+1:=by omega
  have hne2:¬ w.heap.size+1=wr.heap.size:=by omega
  have q2:w9.cell? ⟨wr.heap.size,2,none⟩=some (.slice da xr.length dc):=by simp [World.cell?,hQ9]
  have zq:w9.frozen? ⟨wr.heap.size,2,none⟩=false:=by simp [World.frozen?,hQ9]
  have p0:(w9.setCell ⟨wr.heap.size,2,none⟩ (.slice a9 xr.length c9)).cell? ⟨wr.heap.size,0,none⟩=some (.int .i64 x0):=(World.cell?_setCell_other _ _ _ _ (by simp)).trans (by simp [World.cell?,hQ9])
  have p1:(w9.setCell ⟨wr.heap.size,2,none⟩ (.slice a9 xr.length c9)).cell? ⟨wr.heap.size,1,none⟩=some (.int .i64 x1):=(World.cell?_setCell_other _ _ _ _ (by simp)).trans (by simp [World.cell?,hQ9])
  have p2:(w9.setCell ⟨wr.heap.size,2,none⟩ (.slice a9 xr.length c9)).cell? ⟨wr.heap.size,2,none⟩=some (.slice a9 xr.length c9):=World.cell?_setCell_same _ _ _ q2
  have p3:(w9.setCell ⟨wr.heap.size,2,none⟩ (.slice a9 xr.length c9)).cell? ⟨wr.heap.size,3,none⟩=some (.bool x3):=(World.cell?_setCell_other _ _ _ _ (by simp)).trans (by simp [World.cell?,hQ9])
  have c0:(w9.setCell ⟨wr.heap.size,2,none⟩ (.slice a9 xr.length c9)).cell? ⟨w.heap.size+1,0,none⟩=some (.int .i64 0):=(World.cell?_setCell_far _ _ _ _ hne).trans (by simp [World.cell?,hR9])
  have c1:(w9.setCell ⟨wr.heap.size,2,none⟩ (.slice a9 xr.length c9)).cell? ⟨w.heap.size+1,1,none⟩=some (.int .i64 0):=(World.cell?_setCell_far _ _ _ _ hne).trans (by simp [World.cell?,hR9])
  have c2:(w9.setCell ⟨wr.heap.size,2,none⟩ (.slice a9 xr.length c9)).cell? ⟨w.heap.size+1,2,none⟩=some (.slice none 0 0):=(World.cell?_setCell_far _ _ _ _ hne).trans (by simp [World.cell?,hR9])
  have c3:(w9.setCell ⟨wr.heap.size,2,none⟩ (.slice a9 xr.length c9)).cell? ⟨w.heap.size+1,3,none⟩=some (.bool false):=(World.cell?_setCell_far _ _ _ _ hne).trans (by simp [World.cell?,hR9])
  have z:∀ k,(w9.setCell ⟨wr.heap.size,2,none⟩ (.slice a9 xr.length c9)).frozen? ⟨w.heap.size+1,k,none⟩=false:=fun k=>by rw [World.frozen?_setCell]; simp [World.frozen?,hR9]
  have HO10:Hid ((w9.setCell ⟨wr.heap.size,2,none⟩ (.slice a9 xr.length c9)).ownsRow (wr.heap.size+1) 3 1 (.slice a9 xr.length c9) xr.length (xr.map encI)):=ownsRow_setCell_below hown9 (by simp) _
  have B10:Below w.heap.size w (w9.setCell ⟨wr.heap.size,2,none⟩ (.slice a9 xr.length c9)):=(below_then (BW.alloc BW.size _) (by simpa using hbn) (by have:=BW.size; simp; omega)).setCell (by have:=BW.size; simp only; omega) _
  have HAP:Hid (Apart (wr.heap.size+1) (.slice a9 xr.length c9)):=own_apart2 hown9
  clear hown9 hg9 hbn hQ hQ9 hR9 HRC bx BX
  go_upto_region 6 with fail
  clear q2 zq
  generalize w9.setCell ⟨wr.heap.size,2,none⟩ (.slice a9 xr.length c9)=w10 at *
  go_wp2_with fail
  have hB:Below w.heap.size w ((((w10.setCell ⟨w.heap.size+1,0,none⟩ (.int .i64 x0)).setCell ⟨w.heap.size+1,1,none⟩ (.int .i64 x1)).setCell ⟨w.heap.size+1,2,none⟩ (.slice a9 xr.length c9)).setCell ⟨w.heap.size+1,3,none⟩ (.bool x3)):=(((B10.setCell (by simp) _).setCell (by simp) _).setCell (by simp) _).setCell (by simp) _
  have hlo:w.heap.size+1<wr.heap.size+1:=by omega
  have hO:World.ownsRow ((((w10.setCell ⟨w.heap.size+1,0,none⟩ (.int .i64 x0)).setCell ⟨w.heap.size+1,1,none⟩ (.int .i64 x1)).setCell ⟨w.heap.size+1,2,none⟩ (.slice a9 xr.length c9)).setCell ⟨w.heap.size+1,3,none⟩ (.bool x3)) (wr.heap.size+1) 3 1 (.slice a9 xr.length c9) xr.length (xr.map encI):=ownsRow_setCell_below (ownsRow_setCell_below (ownsRow_setCell_below (ownsRow_setCell_below HO10.out hlo _) hlo _) hlo _) hlo _
  refine bodyPost_ret (results_cell1 rfl _ _ _ rfl (run_loadVar_mid _ _ _ _ _ _ (set4 c0 c1 c2 c3 _ _ _ _) Tryz.underlying45 rfl (by kernel_rfl))) rfl ?_
  exact ⟨_,by rw [HN2.out.1],by rw [HN2.out.1]; exact sli_own hO HI64.out,HAP.out.mono (by omega),hB⟩
end Go.Proofs.YtbilbgjojdlobaaGreatDoor
