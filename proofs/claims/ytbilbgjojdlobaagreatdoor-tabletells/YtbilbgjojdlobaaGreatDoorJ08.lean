import Derived.Test.YtbilbgjojdlobaaGreatDoorJ01
import Derived.Test.YtbilbgjojdlobaaGreatDoorJ02
import Derived.Test.YtbilbgjojdlobaaGreatDoorJ04
import Derived.Test.YtbilbgjojdlobaaGreatDoorJ07
import Derived.Laws.BitsAllLaws
import Derived.Shelf.Spec.TrailingZeros
import Derived.Shelf.Lay
import Derived.Ground.Names7Prog
import Derived.Deep.RegionHeld3
import Derived.Deep.LoopGhost

namespace Go.Proofs.YtbilbgjojdlobaaGreatDoor
open Go.RowKit
def encU (x:Nat):Value:=.int .u64 (x:Int)
def SetB (b m:Nat) (ws:List Nat) (W:World):Prop:=W.heap[b]?=some (Obj.cells (ws.map encU).toArray 233 (0,0))∧Words m ws
theorem SetB.lt {b m ws W} (h:SetB b m ws W):b<W.heap.size:=(Array.getElem?_eq_some_iff.1 h.1).1
theorem SetB.cell {b m ws W} (h:SetB b m ws W) {i:Nat} (hi:i<m):W.cell? ⟨b,i,none⟩=some (.int .u64 (wOf ws i)):=by
  have hl:i<ws.length:=by rw [h.2.1]; exact hi
  rw [wOf_get hl]
  have:=h.1
  simp [World.cell?,this,hl,encU]
theorem SetB.frozen {b m ws W} (h:SetB b m ws W) (i:Nat):W.frozen? ⟨b,i,none⟩=false:=by
  have:=h.1
  simp [World.frozen?,this]
theorem block_set {W:World} {b i:Nat} {cs:Array Value} {t:TypeId} (v:Value) (h:W.heap[b]?=some (Obj.cells cs t (0,0))):(W.setCell ⟨b,i,none⟩ v).heap[b]?=some (Obj.cells (cs.setIfInBounds i v) t (0,0)):=by
  have hlt:=(Array.getElem?_eq_some_iff.1 h).1
  have h':W.heap[b]=Obj.cells cs t (0,0):=(Array.getElem?_eq_some_iff.1 h).2
  show (W.heap.modify b _)[b]?=_
  rw [Array.getElem?_eq_getElem (by simpa using hlt),Array.getElem_modify_self,h']
  rfl
theorem SetB.set {b m ws W} (h:SetB b m ws W) {i x:Nat} (hx:W64 x):SetB b m (ws.set i x) (W.setCell ⟨b,i,none⟩ (.int .u64 x)):=by
  refine ⟨(block_set _ h.1).trans ?_,h.2.set hx⟩
  simp [encU,List.map_set]
theorem SetB.but {b m ws W W'} {D:Nat→Prop} (h:SetB b m ws W) (hb:But D W W') (hd:¬ D b):SetB b m ws W':=⟨(hb.block b h.lt hd).trans h.1,h.2⟩
set_option maxHeartbeats 1000000 in
theorem join_any (s o:List Nat) (b c m:Nat) (w:World) (hs:SetB b m s w) (ho:SetB c m o w) (hm:m≤1000) :
    Calls Tryz.prog 174 #[.slice (some ⟨b,0,none⟩) m m,.slice (some ⟨c,0,none⟩) m m] w fun e w'=>e=.returned (.bool (newW s o))∧SetB b m (orW s o) w'∧But (fun k=>k=b) w w':=by
  go_enter Tryz.func174,Tryz.ntmps174
  go_wp2
  go_loopw [5,10] (fun g i wr=>∃ (j:Nat),i=.int .i64 j∧j≤m∧g=.bool (newTo j s o)∧SetB b m (joinTo j s o) wr∧SetB c m o wr∧But (fun k=>k=b) w wr) (fun _ i _=>m - (intOf i).toNat)
  case atStart=>exact ⟨0,rfl,Nat.zero_le _,rfl,by rw [joinTo_zero]; exact hs,ho,But.refl _ _⟩
  case round =>
    obtain ⟨j,rfl,hj,rfl,h1,h2,h3⟩:=hrel
    by_cases hlt:j<m
    · have hjs:j<s.length:=by rw [hs.2.1]; exact hlt
      have c1:=h1.cell hlt
      have c2:=h2.cell hlt
      have fz:=h1.frozen j
      rw [joinTo_get hjs,if_neg (Nat.lt_irrefl _)] at c1
      have w1:=hs.2.at j
      have w2:=ho.2.at j
      have HN:Hid (newTo (j+1) s o=(newTo j s o || decide (wOf s j ||| wOf o j≠wOf s j))):=newTo_succ j s o
      have HJ:Hid (joinTo (j+1) s o=(joinTo j s o).set j (wOf s j ||| wOf o j)):=joinTo_succ
      have HJ2:Hid (wOf s j ||| wOf o j=wOf s j→joinTo (j+1) s o=joinTo j s o):=joinTo_same hjs
      have HST:Hid (SetB b m ((joinTo j s o).set j (wOf s j ||| wOf o j)) (wr.setCell ⟨b,j,none⟩ (.int .u64 ((wOf s j ||| wOf o j:Nat):Int)))):=h1.set (or_lt w1 w2)
      have HBC:Hid (b=c→wOf s j=wOf o j):=fun e=>by
        subst e
        have e1:=hs.1.symm.trans ho.1
        simp only [Option.some.injEq,Obj.cells.injEq,and_true] at e1
        have e2:s.map encU=o.map encU:=by simpa using e1
        have e3:s=o:=by
          refine List.map_inj_right (f:=encU) (fun x y h=>?_) |>.1 e2
          simp only [encU,Value.int.injEq,true_and] at h
          omega
        rw [e3]
      have HZ:=andNot_zero w1 w2
      have e1:=u64_andNot_nat (wOf o j) (wOf s j) w2 w1
      have e2:=u64_or_nat (wOf s j) (wOf o j) w1 w2
      unfold W64 at w1 w2
      generalize wOf s j=x at *
      generalize wOf o j=y at *
      obtain ⟨z,hz⟩:∃ z:Int,bits .andNot .u64 (y:Int) (x:Int)=z:=⟨_,rfl⟩
      obtain ⟨u,hu⟩:∃ u:Int,bits .or .u64 (x:Int) (y:Int)=u:=⟨_,rfl⟩
      have HU:Hid (((x ||| y:Nat):Int)=u):=by show _=_; rw [← hu,e2]
      by_cases hn:x ||| y=x
      · have hz0:(z != 0)=false:=by rw [← hz,e1,HZ.2 hn]; rfl
        have HN2:Hid (newTo (j+1) s o=newTo j s o):=by show _=_; rw [HN.out]; simp [hn]
        have HJ3:Hid (SetB b m (joinTo (j+1) s o) wr):=by show SetB _ _ _ _; rw [HJ2.out hn]; exact h1
        clear HN HJ HJ2 HST HBC HZ e1 e2 hn hs ho h1
        generalize newTo j s o=g at *
        go_wp2_with fail
        exact ⟨⟨j+1,by go_num,by omega,by rw [HN2.out],HJ3.out,h2,h3⟩,by simp [intOf]; omega⟩
      · have hz0:(z != 0)=true:=by
          rw [← hz,e1]
          have:¬ (y &&& (18446744073709551615 - x)=0):=fun h=>hn (HZ.1 h)
          simp; omega
        have HN2:Hid (newTo (j+1) s o=true):=by show _=_; rw [HN.out]; simp [hn]
        have hbc:b≠c:=fun e=>hn (by rw [HBC.out e,Nat.or_self])
        have HJ3:Hid (SetB b m (joinTo (j+1) s o) (wr.setCell ⟨b,j,none⟩ (.int .u64 u))∧SetB c m o (wr.setCell ⟨b,j,none⟩ (.int .u64 u))∧But (fun k=>k=b) w (wr.setCell ⟨b,j,none⟩ (.int .u64 u))):=by
          refine ⟨?_,⟨(Below.heap_setCell wr ⟨b,j,none⟩ _ c (fun e=>hbc e.symm)).trans h2.1,h2.2⟩,h3.setCell _ _ (.inr rfl)⟩
          rw [HJ.out,← HU.out]; exact HST.out
        clear HN HJ HJ2 HST HBC HZ e1 e2 hn hs ho h1 h3 hbc
        generalize newTo j s o=g at *
        go_wp2_with fail
        exact ⟨⟨j+1,by go_num,by omega,by rw [HN2.out],HJ3.out.1,HJ3.out.2.1,HJ3.out.2.2⟩,by simp [intOf]; omega⟩
    · obtain rfl:j=m:=by omega
      have HE:Hid (newW s o=newTo j s o∧orW s o=joinTo j s o):=⟨by unfold newW; rw [hs.2.1],by unfold orW; rw [hs.2.1]⟩
      clear hs ho h2
      generalize newTo j s o=g at *
      go_wp2_with fail
      go_ret
      exact ⟨ret_bool HE.out.1.symm,by rw [HE.out.2]; exact h1,h3⟩
set_option maxHeartbeats 400000 in
theorem sput_any (s:List Nat) (b m n:Nat) (w:World) (hs:SetB b m s w) (hm:m≤1000) (hn:n<64 * m) :
    Calls Tryz.prog 153 #[.slice (some ⟨b,0,none⟩) m m,.int .i64 n] w fun e w'=>(∃ v,e=.returned v)∧SetB b m (putW s n) w'∧But (fun k=>k=b) w w':=by
  have hi:n / 64<m:=by omega
  have c1:=hs.cell hi
  have fz:=hs.frozen (n / 64)
  have w1:=hs.2.at (n / 64)
  have HS:Hid (SetB b m s w):=hs
  have HP:Hid (putW s n=s.set (n / 64) (wOf s (n / 64) ||| 2 ^ (n % 64))):=rfl
  have HPL:Hid (W64 (2 ^ (n % 64))):=pow_lt n
  have hq:((n:Int) / 64)=((n / 64:Nat):Int):=by omega
  have hr:((n:Int) % 64)=((n % 64:Nat):Int):=by omega
  have hr2:n % 64<64:=by omega
  generalize n / 64=q at *
  generalize n % 64=r at *
  generalize wOf s q=x at *
  clear hs
  go_enter Tryz.func153,Tryz.ntmps153
  go_wp2
  go_big_region
  go_wp2
  go_end0
  have hwr:IntKind.u64.wrap (2 ^ r)=((2 ^ r:Nat):Int):=by
    have:=HPL.out
    unfold W64 at this
    rw [IntKind.wrap_u64]
    have e:((2:Int) ^ r)=((2 ^ r:Nat):Int):=by push_cast; rfl
    rw [e]
    generalize 2 ^ r=p at this
    omega
  have h2:SetB b m (putW s n) (w.setCell ⟨b,q,none⟩ (.int .u64 (bits .or .u64 (x:Int) (IntKind.u64.wrap (2 ^ r))))):=by
    rw [hwr,u64_or_nat x (2 ^ r) w1 HPL.out,HP.out]
    exact HS.out.set (or_lt w1 HPL.out)
  exact ⟨⟨_,rfl⟩,⟨h2.1,h2.2⟩,((But.refl (fun k=>k=b) w).setCell _ _ (.inr rfl)).drew⟩
theorem info39:(Tryz.prog.info? 233).map (fun i=>(i.zero,i.size,i.bytes))=some (some (.int .u64 0),1,8):=by kernel_rfl
theorem info61:(Tryz.prog.info? 205).map (fun i=>(i.zero,i.size,i.bytes))=some (some (.slice none 0 0),1,24):=by kernel_rfl
theorem setB_made {W:World} {B g M:Nat} (h:W.ownsRow B 233 1 (.slice (some ⟨g,0,none⟩) M M) M (madeCells #[Value.int .u64 0] M).toList):SetB g M (List.replicate M 0) W:=by
  refine ⟨?_,words_zero M⟩
  obtain ⟨h1,h2⟩:=h
  rcases h2 with ⟨h2,_⟩ | ⟨g',cap,cur,hv,hB,hg,hc,hm,hz,hx⟩
  · cases h2
  · cases hv
    rw [hg]
    have e:cur.toList=(List.replicate M 0).map encU:=by
      rw [Nat.mul_one] at hx hz
      rw [List.take_of_length_le (by simp [hz])] at hx
      rw [hx,toList_madeCells_one]
      simp [encU]
    rw [← e]
set_option maxRecDepth 100000 in
set_option maxHeartbeats 400000 in
theorem newSet_any (f:Fl) (a:FlA) (w:World) (hn:f.n≤600) :
    Calls Tryz.prog 173 #[a.val f] w fun e w'=>∃ b,e=.returned (.slice (some ⟨b,0,none⟩) (f.terms.length / 64+1) (f.terms.length / 64+1))∧w.heap.size≤b∧SetB b (f.terms.length / 64+1) (List.replicate (f.terms.length / 64+1) 0) w'∧Below w.heap.size w w':=by
  obtain ⟨i0,hi0,hz0,hz1,hz2⟩:=info_parts info39
  obtain ⟨ta,tc,na,nc,pa,pc⟩:=a
  have X0:=FBox.new f ⟨ta,tc,na,nc,pa,pc⟩ 25 w
  have B0:Below w.heap.size w (w.alloc (fobj f ⟨ta,tc,na,nc,pa,pc⟩ 25)):=(Below.refl _ _).alloc (Nat.le_refl _) _
  unfold fobj at X0 B0
  unfold FlA.val
  simp only
  obtain ⟨x0,x1,x2,x3⟩:=X0
  unfold Fl.n at hn
  have hT:f.terms.length≤600:=by omega
  go_enter Tryz.func173,Tryz.ntmps173
  have hm1:((f.terms.length:Int) / 64+1)=((f.terms.length / 64+1:Nat):Int):=by omega
  have hm2:f.terms.length / 64+1≤1000:=by omega
  generalize f.terms.length / 64+1=M at *
  go_wp2_with (at_make; refine wpList_make_full _ rfl _ _ 205 rfl (w.heap.size+1) 233 i0 _ 1 Tryz.underlying205 hi0 hz0 hz1 _ _ _ _ M rfl rfl rfl rfl (by rw [hz2]; omega) (by unfold maxLen; omega) (by simp) ?_)
  intro w2 hown hg2
  have hown':w2.ownsRow (w.heap.size+1) 233 1 (.slice (some ⟨w.heap.size+1,0,none⟩) M M) M (madeCells #[Value.int .u64 0] M).toList:=by simpa using hown
  have HS:Hid (SetB (w.heap.size+1) M (List.replicate M 0) w2):=setB_made hown'
  have HB:Hid (Below w.heap.size w w2):=B0.grown hg2 (by simp) (fun k e=>by cases e)
  clear hown hown' hg2 x0 x1 x2 x3 B0
  go_wp2_with fail
  go_ret
  exact ⟨w.heap.size+1,by simp,by omega,HS.out,HB.out⟩
def RowK (G N:Nat) (L:List Bool) (W:World):Prop:=W.heap[G]?=some (Obj.cells (L.map encB).toArray 4 (0,0))∧L.length=N
theorem RowK.lt {G N L W} (h:RowK G N L W):G<W.heap.size:=(Array.getElem?_eq_some_iff.1 h.1).1
theorem RowK.cell {G N L W} (h:RowK G N L W) {i:Nat} (hi:i<N):W.cell? ⟨G,i,none⟩=some (.bool (onb L i)):=by
  have hl:i<L.length:=by rw [h.2]; exact hi
  rw [onb_get hl]
  have:=h.1
  simp [World.cell?,this,hl,encB]
theorem RowK.frozen {G N L W} (h:RowK G N L W) (i:Nat):W.frozen? ⟨G,i,none⟩=false:=by
  have:=h.1
  simp [World.frozen?,this]
theorem RowK.set {G N L W} (h:RowK G N L W) (i:Nat) (x:Bool):RowK G N (L.set i x) (W.setCell ⟨G,i,none⟩ (.bool x)):=by
  refine ⟨(block_set _ h.1).trans ?_,by rw [List.length_set]; exact h.2⟩
  simp [encB,List.map_set]
theorem RowK.but {G N L W W'} {D:Nat→Prop} (h:RowK G N L W) (hb:But D W W') (hd:¬ D G):RowK G N L W':=⟨(hb.block G h.lt hd).trans h.1,h.2⟩
theorem RowK.next {G N L W W'} (h:RowK G N L W) (hb:Below W.heap.size W W'):RowK G N L W':=⟨(hb.block G h.lt).trans h.1,h.2⟩
theorem rowK_made {W:World} {B g M:Nat} (h:W.ownsRow B 4 1 (.slice (some ⟨g,0,none⟩) M M) M (madeCells #[Value.bool false] M).toList):RowK g M (List.replicate M false) W:=by
  refine ⟨?_,by simp⟩
  obtain ⟨h1,h2⟩:=h
  rcases h2 with ⟨h2,_⟩ | ⟨g',cap,cur,hv,hB,hg,hc,hm,hz,hx⟩
  · cases h2
  · cases hv
    rw [hg]
    have e:cur.toList=(List.replicate M false).map encB:=by
      rw [Nat.mul_one] at hx hz
      rw [List.take_of_length_le (by simp [hz])] at hx
      rw [hx,made_false]
    rw [← e]
theorem RowK.slB {G N L W} (h:RowK G N L W):SlB L (.slice (some ⟨G,0,none⟩) N N) W:=by
  refine ⟨some ⟨G,0,none⟩,N,(by rw [h.2]),(fun i x hi=>?_),(fun e=>by cases e),(by rw [h.2]; exact Nat.le_refl _)⟩
  obtain ⟨hl,rfl⟩:=List.getElem?_eq_some_iff.1 hi
  refine ⟨G,0,rfl,h.lt,?_⟩
  rw [Nat.zero_add,h.cell (by rw [← h.2]; exact hl),onb_get hl]
  rfl
set_option maxRecDepth 100000 in
set_option maxHeartbeats 800000 in
theorem derived11_any (L:List Bool) (G N KB:Nat) (x:It) (w:World) (hR:RowK G N L w) (hK:w.cell? ⟨KB,0,none⟩=some (.slice (some ⟨G,0,none⟩) N N)) (hx:0≤x.sym∧x.sym<(N:Int)) :
    Calls Tryz.prog 150 #[.agg #[.int .i64 x.sym,.string x.fld,.string x.als],.pointer (some ⟨KB,0,none⟩)] w fun e w'=>e=.returned (.bool (!onb L x.sym.toNat))∧Below w.heap.size w w':=by
  have hKl:KB<w.heap.size:=World.block_lt_of_cell? w _ hK
  have hGl:=hR.lt
  obtain ⟨xs,xf,xa⟩:=x
  simp only at *
  obtain ⟨q,rfl⟩:∃ q:Nat,xs=q:=⟨xs.toNat,by omega⟩
  rw [Int.toNat_natCast]
  have hc:=hR.cell (i:=q) (by omega)
  generalize onb L q=oq at *
  have h1:KB≠w.heap.size:=by omega
  have h2:G≠w.heap.size:=by omega
  clear hR
  go_enter Tryz.func150,Tryz.ntmps150
  go_wp2_with fail
  go_ret
  exact ⟨rfl,(Below.refl _ _).alloc (Nat.le_refl _) _⟩
def grB (L:List Bool) (l:Nat) (sy:List Nat):Bool:=!onb L l && sy.all (onb L)
set_option maxRecDepth 100000 in
set_option maxHeartbeats 800000 in
theorem derived1_any (L:List Bool) (G N KB l:Nat) (r:List It) (v:Value) (w:World) (hR:RowK G N L w) (hK:w.cell? ⟨KB,0,none⟩=some (.slice (some ⟨G,0,none⟩) N N)) (hl:l<N) (hv:SlT r v w) (hr:r.length≤64) (hs:∀ x∈r,0≤x.sym∧x.sym<(N:Int)) :
    Calls Tryz.prog 148 #[.int .i64 l,v,.pointer (some ⟨KB,0,none⟩)] w fun e w'=>e=.returned (.bool (grB L l (r.map fun x=>x.sym.toNat)))∧RowK G N (if grB L l (r.map fun x=>x.sym.toNat) then L.set l true else L) w'∧But (fun k=>k=G) w w':=by
  have hC:=fun W (hb:Below w.heap.size w W)=>anyItems 150 #[.pointer (some ⟨KB,0,none⟩)] (enters_of Tryz.func150 (by kernel_rfl) rfl) (fun x=>!onb L x.sym.toNat) r v W (hv.next hb) (by omega)
    (fun W' x hx hb'=>(derived11_any L G N KB x W' ((hR.next hb).next hb') ((hb'.cell (p:=⟨KB,0,none⟩) (Nat.lt_of_lt_of_le (World.block_lt_of_cell? w _ hK) hb.size)).trans ((hb.cell (p:=⟨KB,0,none⟩) (World.block_lt_of_cell? w _ hK)).trans hK)) (hs x hx)).mono fun e w' ⟨h1,h2⟩=>⟨h1,below_then hb' h2 hb'.size⟩)
  have hany:r.any (fun x=>!onb L x.sym.toNat)=!((r.map fun x=>x.sym.toNat).all (onb L)):=by
    rw [List.all_map,List.any_eq_not_all_not]
    simp [Function.comp_def]
  rw [hany] at hC
  have HG:Hid (grB L l (r.map fun x=>x.sym.toNat)=(!onb L l && (r.map fun x=>x.sym.toNat).all (onb L))):=rfl
  have hcl:=hR.cell hl
  have hfz:=hR.frozen l
  have HS:Hid (RowK G N (L.set l true) (w.setCell ⟨G,l,none⟩ (.bool true))):=hR.set l true
  generalize (r.map fun x=>x.sym.toNat).all (onb L)=al at *
  obtain ⟨va,vc,rfl,_⟩:=hv
  have HC:Hid (∀ W,Below w.heap.size w W→Calls Tryz.prog 149 #[.slice va r.length vc,.func (.func 150) #[] #[.pointer (some ⟨KB,0,none⟩)]] W fun e w'=>e=.returned (.bool (!al))∧Below W.heap.size W w'):=hC
  clear hC hany hs
  have HR:Hid (RowK G N L w):=hR
  have hne:KB≠G:=fun e=>by subst e; rw [show (⟨KB,0,none⟩:Addr)=⟨KB,0,none⟩ from rfl,hR.cell (Nat.lt_of_le_of_lt (Nat.zero_le _) hl)] at hK; cases hK
  cases ho:onb L l with
  | true =>
    rw [ho] at hcl HG
    rw [show grB L l (r.map fun x=>x.sym.toNat)=false from HG.out]
    simp only [Bool.false_eq_true,if_false]
    clear HG
    go_enter Tryz.func148,Tryz.ntmps148
    go_wp2_with fail
    go_ret
    exact ⟨rfl,HR.out,But.refl _ _⟩
  | false =>
    rw [ho] at hcl HG
    cases al with
    | true =>
      rw [show grB L l (r.map fun x=>x.sym.toNat)=true from HG.out]
      simp only [if_true]
      clear HG
      go_enter Tryz.func148,Tryz.ntmps148
      go_wp2_with fail
      refine (HC.out _ (Below.refl _ _)).mono ?_
      rintro e w1 ⟨rfl,hb1⟩
      have hz:=hb1.size
      have R1:=HR.out.next hb1
      have hK1:=(hb1.cell (p:=⟨KB,0,none⟩) (World.block_lt_of_cell? w _ hK)).trans hK
      have hc1:=R1.cell hl
      have hf1:=R1.frozen l
      have HF:Hid (RowK G N (L.set l true) (w1.setCell ⟨G,l,none⟩ (.bool true))∧But (fun k=>k=G) w (w1.setCell ⟨G,l,none⟩ (.bool true))):=⟨R1.set l true,(But.of_next hb1).setCell _ _ (.inr rfl)⟩
      clear hb1 hcl hfz hK R1 HR HS HC hR
      go_wp2_with fail
      go_ret
      exact ⟨rfl,HF.out.1,HF.out.2⟩
    | false =>
      rw [show grB L l (r.map fun x=>x.sym.toNat)=false from HG.out]
      simp only [Bool.false_eq_true,if_false]
      clear HG
      go_enter Tryz.func148,Tryz.ntmps148
      go_wp2_with fail
      refine (HC.out _ (Below.refl _ _)).mono ?_
      rintro e w1 ⟨rfl,hb1⟩
      have HF:Hid (RowK G N L w1∧But (fun k=>k=G) w w1):=⟨HR.out.next hb1,But.of_next hb1⟩
      clear hb1 HR HS HC hR
      go_wp2_with fail
      go_ret
      exact ⟨rfl,HF.out.1,HF.out.2⟩
theorem below_but {w V V':World} {D:Nat→Prop} (h:Below w.heap.size w V) (hb:But D V V') (hd:∀ k,D k→w.heap.size≤k):Below w.heap.size w V':=h.trans (hb.below h.size hd)
def upB (t:Bool) (N k:Nat):List Bool:=(List.range N).map fun i=>t && decide (i<k)
theorem upB_zero (t:Bool) (N:Nat):upB t N 0=List.replicate N false:=by
  unfold upB
  apply List.ext_getElem (by simp)
  intro i h1 h2
  simp
theorem upB_on {t:Bool} {N k s:Nat}:OnB (upB t N k) s↔s<N∧t=true∧s<k:=by
  unfold OnB upB
  rw [List.getElem?_map]
  by_cases h:s<N
  · rw [List.getElem?_range h]; simp [h]
  · rw [List.getElem?_eq_none (by simp; omega)]; simp [h]
theorem upB_set {t:Bool} {N k:Nat}:(upB t N k).set k t=upB t N (k+1):=by
  unfold upB
  apply List.ext_getElem (by simp)
  intro i h1 h2
  rw [List.getElem_set]
  split
  · rename_i h; subst h; simp
  · have e:decide (i<k)=decide (i<k+1):=by rw [decide_eq_decide]; omega
    simp [e]
theorem grB_false {L:List Bool} {l:Nat} {sy:List Nat} (h:grB L l sy=false):ClosedB L (l,sy):=by
  unfold grB at h
  intro hx
  rw [← onb_iff]
  cases ho:onb L l with
  | true=>rfl
  | false =>
    rw [ho] at h
    have:sy.all (onb L)=true:=List.all_eq_true.2 fun x hx'=>onb_iff.2 (hx x hx')
    rw [this] at h
    cases h
theorem grB_true {L:List Bool} {l:Nat} {sy:List Nat} (h:grB L l sy=true):¬ OnB L l∧∀ x∈sy,OnB L x:=by
  unfold grB at h
  simp only [Bool.and_eq_true,Bool.not_eq_true',List.all_eq_true] at h
  exact ⟨(fun ho=>by rw [← onb_iff,h.1] at ho; cases ho),fun x hx=>onb_iff.1 (h.2 x hx)⟩
set_option maxRecDepth 100000 in
set_option maxHeartbeats 2000000 in
theorem derived_any (f:Fl) (a:FlA) (t:Bool) (w:World) (hf:FlAt f a w) (hp:FitP f) :
    Calls Tryz.prog 124 #[a.val f,.bool t] w fun e w'=>∃ G L,e=.returned (.slice (some ⟨G,0,none⟩) f.n f.n)∧w.heap.size≤G∧RowK G f.n L w'∧GivesB (fun s=>t=true∧s<f.terms.length) f.gr f.n L∧Below w.heap.size w w':=by
  have hn:f.n≤600:=hp.size
  have hS:=fun W=>symbols_any f a W hn
  have HSET:Hid (∀ (W:World) (G KB:Nat) (L:List Bool),FlAt f a W→RowK G f.n L W→W.cell? ⟨KB,0,none⟩=some (.slice (some ⟨G,0,none⟩) f.n f.n)→w.heap.size≤G→Below w.heap.size w W→SoundB (fun s=>t=true∧s<f.terms.length) f.gr L→(∀ s,t=true∧s<f.terms.length→OnB L s) →
      Calls Tryz.prog 147 #[a.val f,.func (.func 148) #[] #[.pointer (some ⟨KB,0,none⟩)]] W fun e w'=>(∃ v,e=.returned v)∧w'.cell? ⟨KB,0,none⟩=some (.slice (some ⟨G,0,none⟩) f.n f.n)∧∃ L',RowK G f.n L' w'∧GivesB (fun s=>t=true∧s<f.terms.length) f.gr f.n L'∧Below w.heap.size w w'):=by
    intro W G KB L hfl hR hK hwG hB hs hb
    have hGl:=hR.lt
    have hKl:=World.block_lt_of_cell? W _ hK
    have hne:KB≠G:=fun e=>by
      subst e
      have:=hR.cell (i:=0) (by have:=hp.nons; unfold Fl.n; omega)
      rw [this] at hK; cases hK
    have hpa:∀ ad,a.pa=some ad→f.prods.length≠0→ad.block<w.heap.size:=fun ad h0 h1=>by
      obtain ⟨b,off,v,e,hb',_⟩:=hf.2.2.1.at (Below.refl _ _) (j:=0) (by omega)
      rw [e] at h0; cases h0; exact hb'
    refine (settle_any (σ:=List Bool) f a 148 #[.pointer (some ⟨KB,0,none⟩)] (enters_of Tryz.func148 (by kernel_rfl) rfl)
      (fun L V=>FlAt f a V∧RowK G f.n L V∧V.cell? ⟨KB,0,none⟩=some (.slice (some ⟨G,0,none⟩) f.n f.n)∧Below w.heap.size w V∧SoundB (fun s=>t=true∧s<f.terms.length) f.gr L∧(∀ s,t=true∧s<f.terms.length→OnB L s)) (fun k=>k=G) offs
      (fun j L=>∀ q,f.gr[j]?=some q→ClosedB L q) W hp (fun L V h=>h.1) ?hS (fun k hk=>by rw [hk]; exact hGl) ?hDa ?hg L ⟨hfl,hR,hK,hB,hs,hb⟩).mono ?_
    case hS =>
      rintro L V V' ⟨k1,k2,k3,k4,k5,k6⟩ hVV
      exact ⟨hf.next (k4.trans (hVV.mono hB.size)),⟨(hVV.block G hGl).trans k2.1,k2.2⟩,(hVV.cell (p:=⟨KB,0,none⟩) hKl).trans k3,k4.trans (hVV.mono hB.size),k5,k6⟩
    case hDa =>
      intro hpos ad had hk
      have:=hpa ad had (by omega)
      omega
    case hg =>
      rintro j hj L V v ⟨k1,k2,k3,k4,k5,k6⟩ hv hz -
      have hlf:=hp.left _ (List.getElem_mem hj)
      have hq:f.gr[j]?=some (f.prods[j].left.toNat,f.prods[j].syms):=by unfold Fl.gr; rw [List.getElem?_map,List.getElem?_eq_getElem hj]; rfl
      have hm:=gr_mem hj
      have hln:(f.terms.length+f.nons.length:Nat)=f.n:=rfl
      obtain ⟨l,hl⟩:∃ l:Nat,f.prods[j].left=l:=⟨f.prods[j].left.toNat,by omega⟩
      rw [hl,Int.toNat_natCast] at hq hm
      rw [hl]
      refine (derived1_any L G f.n KB l f.prods[j].right v V k2 k3 (by omega) hv (hp.right _ (List.getElem_mem hj)) (fun x hx=>hp.sym _ (List.getElem_mem hj) x hx)).mono ?_
      rintro e V' ⟨rfl,h1,h2⟩
      have hb':=below_but k4 h2 (fun k hk=>by rw [hk]; exact hwG)
      cases hgb:grB L l (f.prods[j].right.map fun x=>x.sym.toNat) with
      | true =>
        rw [hgb] at h1
        simp only [if_true] at h1
        obtain ⟨g1,g2⟩:=grB_true hgb
        refine ⟨L.set l true,true,rfl,⟨hf.next hb',h1,(h2.cell (p:=⟨KB,0,none⟩) (World.block_lt_of_cell? V _ k3) hne).trans k3,hb',soundB_set k5 (by rw [k2.2]; omega) hm g2,fun s hs=>onB_set (k6 s hs)⟩,h2,fun _=>offs_set (by rw [k2.2]; omega) g1,fun h=>by cases h⟩
      | false =>
        rw [hgb] at h1
        simp only [Bool.false_eq_true,if_false] at h1
        exact ⟨L,false,rfl,⟨hf.next hb',h1,(h2.cell (p:=⟨KB,0,none⟩) (World.block_lt_of_cell? V _ k3) hne).trans k3,hb',k5,k6⟩,h2,(fun h=>by cases h),fun _=>⟨rfl,fun q hq'=>by rw [hq] at hq'; cases hq'; exact grB_false hgb⟩⟩
    · rintro e W' ⟨he,L',⟨k1,k2,k3,k4,k5,k6⟩,hcl,_⟩
      refine ⟨he,k3,L',k2,⟨k2.2,fun s _=>⟨k5 s,fun hd=>complete_B k6 (fun q hq=>?_) hd⟩⟩,k4⟩
      obtain ⟨j,hj,rfl⟩:=List.getElem_of_mem hq
      exact hcl j (by simpa [Fl.gr] using hj) _ (List.getElem?_eq_getElem hj)
  obtain ⟨i0,hi0,hz0,hz1,hz2⟩:=info_parts info4
  have X0:=FBox.new f a 25 w
  have B0:Below w.heap.size w (w.alloc (fobj f a 25)):=(Below.refl _ _).alloc (Nat.le_refl _) _
  have HFL:Hid (∀ W,Below w.heap.size w W→FlAt f a W):=fun W hb=>hf.next hb
  obtain ⟨ta,tc,na,nc,pa,pc⟩:=a
  unfold fobj at X0 B0
  unfold FlA.val at hS HSET ⊢
  simp only at *
  have HS:Hid (∀ W,Calls Tryz.prog 143 #[.agg #[Value.slice ta f.terms.length tc,Value.slice na f.nons.length nc,Value.slice pa f.prods.length pc]] W fun e w'=>e=.returned (.int .i64 f.n)∧Below W.heap.size W w'):=hS
  have hpn:=hp.nons
  clear hS hf hp
  have htN:f.terms.length≤f.n:=by unfold Fl.n; omega
  obtain ⟨N,hN⟩:∃ N,f.n=N:=⟨_,rfl⟩
  rw [hN] at hn HS HSET htN ⊢
  have HNN:Hid (f.n=N):=hN
  clear hN
  go_enter Tryz.func124,Tryz.ntmps124
  go_wp2_with fail
  generalize (w.alloc (Obj.cells #[Value.slice ta f.terms.length tc,Value.slice na f.nons.length nc,Value.slice pa f.prods.length pc] 25))=W1 at *
  refine (HS.out _).mono ?_
  rintro e w1 ⟨rfl,hb1⟩
  have X1:=X0.next hb1
  have B1:=below_then B0 hb1 B0.size
  clear X0 B0 hb1 HS
  go_wp2_with (at_make; refine wpList_make_full _ rfl _ _ 147 rfl w1.heap.size 4 i0 _ 1 Tryz.underlying147 hi0 hz0 hz1 _ _ _ _ N rfl rfl rfl rfl (by rw [hz2]; omega) (by unfold maxLen; omega) (Nat.le_refl _) ?_)
  intro w2 hown hg2
  have hown':w2.ownsRow w1.heap.size 4 1 (.slice (some ⟨w1.heap.size,0,none⟩) N N) N (madeCells #[Value.bool false] N).toList:=by simpa using hown
  have R0:=rowK_made hown'
  have B2:Below w1.heap.size w1 w2:=(Below.refl _ _).grown hg2 (Nat.le_refl _) (fun k e=>by cases e)
  have X2:=X1.next B2
  have hGw:w.heap.size≤w1.heap.size:=B1.size
  obtain ⟨G,hG⟩:∃ G,w1.heap.size=G:=⟨_,rfl⟩
  rw [hG] at R0 hGw ⊢
  have B3:=below_then B1 B2 B1.size
  have hGl:=R0.lt
  have hXl:=X1.1
  rw [hG] at hXl
  have hb3:Below w2.heap.size w2 (w2.alloc (Obj.cells #[Value.slice (some ⟨G,0,none⟩) N N] 147)):=(Below.refl _ _).alloc (Nat.le_refl _) _
  have X3:=X2.next hb3
  have R3:=R0.next hb3
  have B4:=below_then B3 hb3 B3.size
  have K3:(w2.alloc (Obj.cells #[Value.slice (some ⟨G,0,none⟩) N N] 147)).cell? ⟨w2.heap.size,0,none⟩=some (.slice (some ⟨G,0,none⟩) N N):=by simp
  obtain ⟨x0,x1,x2,x3⟩:=id X3
  simp only at x1 x2 x3
  clear hown hown' hg2 X1 B1 B2 hG X2 R0 B3 hb3
  go_wp2_with fail
  generalize w2.alloc (Obj.cells #[Value.slice (some ⟨G,0,none⟩) N N] 147)=W2 at *
  have hW2l:w2.heap.size<W2.heap.size:=World.block_lt_of_cell? W2 _ K3
  have HN:Hid (∀ W,But (fun k=>k=G) W2 W→W.cell? ⟨w.heap.size,0,none⟩=some (.slice ta f.terms.length tc)∧W.cell? ⟨w.heap.size,1,none⟩=some (.slice na f.nons.length nc)∧W.cell? ⟨w.heap.size,2,none⟩=some (.slice pa f.prods.length pc)∧W.cell? ⟨w2.heap.size,0,none⟩=some (.slice (some ⟨G,0,none⟩) N N)∧Below w.heap.size w W):=fun W hb =>
    ⟨(hb.cell (p:=⟨w.heap.size,0,none⟩) (by show w.heap.size<_; omega) (by show w.heap.size≠G; omega)).trans x1,(hb.cell (p:=⟨w.heap.size,1,none⟩) (by show w.heap.size<_; omega) (by show w.heap.size≠G; omega)).trans x2,(hb.cell (p:=⟨w.heap.size,2,none⟩) (by show w.heap.size<_; omega) (by show w.heap.size≠G; omega)).trans x3,(hb.cell (p:=⟨w2.heap.size,0,none⟩) hW2l (by show w2.heap.size≠G; omega)).trans K3,below_but B4 hb (fun k hk=>by rw [hk]; exact hGw)⟩
  have HR3:Hid (RowK G N (upB t N 0) W2):=by show RowK _ _ _ _; rw [upB_zero]; exact R3
  clear x0 x1 x2 x3 X3 R3 B4 K3
  go_loopw [13] (fun i wr=>∃ (j:Nat),i=.int .i64 j∧j≤f.terms.length∧RowK G N (upB t N j) wr∧But (fun k=>k=G) W2 wr) (fun i _=>f.terms.length - (intOf i).toNat)
  case atStart=>exact ⟨0,rfl,Nat.zero_le _,HR3.out,But.refl _ _⟩
  case round =>
  clear HR3
  obtain ⟨j,rfl,hj,R,hb⟩:=hrel
  obtain ⟨d0,d1,d2,d3,d4⟩:=HN.out _ hb
  by_cases hlt:j<f.terms.length
  · have c1:=R.cell (i:=j) (by omega)
    have fz:=R.frozen j
    have HF:Hid (RowK G N (upB t N (j+1)) (wr.setCell ⟨G,j,none⟩ (.bool t))∧But (fun k=>k=G) W2 (wr.setCell ⟨G,j,none⟩ (.bool t))):=⟨by rw [← upB_set]; exact R.set j t,hb.setCell _ _ (.inr rfl)⟩
    generalize onb (upB t N j) j=o at *
    clear R hb d4
    go_wp2_with fail
    exact ⟨⟨j+1,by go_num,by omega,HF.out.1,HF.out.2⟩,by simp [intOf]; omega⟩
  · obtain rfl:j=f.terms.length:=by omega
    have HC:=HSET.out wr G w2.heap.size (upB t N f.terms.length) (HFL.out _ d4) R d3 hGw d4 (fun s hs=>.base ⟨(upB_on.1 hs).2.1,(upB_on.1 hs).2.2⟩) (fun s hs=>upB_on.2 ⟨by omega,hs.1,hs.2⟩)
    clear HSET HFL HN R hb
    go_wp2_with fail
    refine HC.mono ?_
    rintro e w3 ⟨⟨v,rfl⟩,g1,L',g2,g3,g4⟩
    have HF:Hid (RowK G N L' w3∧GivesB (fun s=>t=true∧s<f.terms.length) f.gr N L'∧Below w.heap.size w w3):=⟨g2,g3,g4⟩
    clear g2 g3 g4 HC d0 d1 d2 d3 d4
    go_wp2_with fail
    go_ret
    exact ⟨G,L',rfl,hGw,HF.out.1,HF.out.2.1,HF.out.2.2⟩
end Go.Proofs.YtbilbgjojdlobaaGreatDoor
namespace Go.Proofs.YtbilbgjojdlobaaGreatDoor
open Go.RowKit Go.Shelf
shelf_lay Lays7.n29 Nm7 29 at Tryz as Tryz.tz64
def Tb (W:World):Prop:=TabAt 0 Lib.deBruijn64tab W∧0<W.heap.size
theorem Tb.next {W W':World} (h:Tb W) (hb:Below W.heap.size W W'):Tb W':=⟨fun j hj=>(hb.cell (p:=⟨0,j,none⟩) h.2).trans (h.1 j hj),Nat.lt_of_lt_of_le h.2 hb.size⟩
theorem tz_any (x:Nat) (hx:W64 x) (w:World) (h:Tb w):Calls Tryz.prog 172 #[.int .u64 x] w fun e w'=>e=.returned (.int .i64 (Lib.ctz 64 x))∧w'=w :=
  Any7.bits_TrailingZeros64 Tryz.tz64 x hx w (fun _=>h.1)
set_option maxRecDepth 100000 in
set_option maxHeartbeats 2000000 in
theorem list_any (s:List Nat) (b m:Nat) (w:World) (hs:SetB b m s w) (hm:m≤20) (hT:Tb w) :
    Calls Tryz.prog 151 #[.slice (some ⟨b,0,none⟩) m m] w fun e w'=>∃ v,e=.returned v∧Own1 3 encI w.heap.size (listW s) v w'∧Below w.heap.size w w':=by
  obtain ⟨i0,hi0,hz0,hz1,hz2⟩:=info_parts info3
  have hlen:s.length=m:=hs.2.1
  have HL:Hid (listW s=listTo m s):=by show _=_; unfold listW; rw [hlen]
  have HSL:Hid (∀ j,(listTo j s).length≤64 * j):=fun j=>listTo_length j s
  have HTS:Hid (∀ j,listTo (j+1) s=listTo j s++lowBits j (wOf s j)):=fun j=>listTo_succ j s
  have HSB:Hid (∀ W,Below w.heap.size w W→SetB b m s W):=fun W hb=>hs.but (But.of_below hb) (by have:=hs.lt; omega)
  have HTB:Hid (∀ W,Below w.heap.size w W→Tb W):=fun W hb=>hT.next hb
  have HW:Hid (∀ j,W64 (wOf s j)):=fun j=>hs.2.at j
  clear hs hT hlen
  go_enter Tryz.func151,Tryz.ntmps151
  go_wp2_with fail
  go_loopw [3,8] (fun l i wr=>∃ (j:Nat),i=.int .i64 j∧j≤m∧Own1 3 encI w.heap.size (listTo j s) l wr∧Below w.heap.size w wr) (fun _ i _=>m - (intOf i).toNat)
  case atStart=>exact ⟨0,rfl,Nat.zero_le _,by rw [listTo_zero]; exact Own1.nil _ _ _ _,Below.refl _ _⟩
  case round =>
    obtain ⟨j,rfl,hj,hO,hB⟩:=hrel
    by_cases hlt:j<m
    · have c1:=(HSB.out _ hB).cell hlt
      have HO:Hid (Own1 3 encI w.heap.size (listTo j s) u3 wr):=hO
      have HXW:Hid (W64 (wOf s j)):=HW.out j
      have HT1:=HTS.out j
      have hsl:=HSL.out j
      clear hO
      generalize wOf s j=x at *
      generalize listTo j s=L0 at *
      go_wp2_with fail
      go_loopg [3,5] x (fun gx l wd wq=>∃ (y:Nat) (L:List Int),gx=y∧wd=.int .u64 y∧W64 y∧L.length≤64 * j+64∧L0++lowBits j x=L++lowBits j y∧Own1 3 encI w.heap.size L l wq∧Below w.heap.size w wq)
      case atStart=>exact ⟨x,L0,rfl,rfl,HXW.out,by omega,rfl,HO.out,hB⟩
      case round =>
        clear HO hB c1
        obtain ⟨y,L,hgy,rfl,hy,hLl,hLe,hO,hB⟩:=hrel
        subst hgy
        obtain ⟨va,vc,rfl⟩:=slice_of_own hO
        have hown:wr.ownsRow w.heap.size 3 1 (.slice va L.length vc) L.length (L.map encI):=hO
        clear hO
        by_cases hy0:gk=0
        · subst hy0
          have HE:Hid (listTo (j+1) s=L):=by show _=_; rw [HT1,hLe,lowBits_zero,List.append_nil]
          have HO:Hid (Own1 3 encI w.heap.size L (.slice va L.length vc) wr):=hown
          clear HT1 hLe hown
          go_wp2_with fail
          exact ⟨⟨j+1,by go_num,by omega,by rw [HE.out]; exact HO.out,hB⟩,by simp [intOf]; omega⟩
        · obtain ⟨st,hct,hy2,hlt2⟩:=lowBits_step (b:=j) hy hy0
          rw [st] at hLe
          have HLE:Hid (L0++lowBits j x=(L++[((64 * j+Lib.ctz 64 gk:Nat):Int)])++lowBits j (gk &&& (gk - 1))):=by show _=_; rw [hLe]; simp
          have HLL:Hid ((L++[((64 * j+Lib.ctz 64 gk:Nat):Int)]).length≤64 * j+64):=by
            have e1:=congrArg List.length HLE.out
            have e2:=lowBits_length j x
            rw [List.length_append,List.length_append] at e1
            show _≤_
            omega
          have HCA:Hid (Calls Tryz.prog 172 #[.int .u64 gk] wr fun e w'=>e=.returned (.int .i64 (Lib.ctz 64 gk))∧w'=wr):=tz_any gk hy wr (HTB.out wr hB)
          have hne:(((gk:Nat):Int) != 0)=true:=by simp; omega
          have hsub:IntKind.u64.wrap ((gk:Int) - 1)=((gk - 1:Nat):Int):=by unfold W64 at hy; rw [IntKind.wrap_u64]; omega
          have hand:bits .and .u64 (gk:Int) ((gk - 1:Nat):Int)=((gk &&& (gk - 1):Nat):Int):=u64_and_nat gk (gk - 1) hy (by unfold W64 at hy; omega)
          have HY:Hid (W64 (gk &&& (gk - 1))∧gk &&& (gk - 1)<gk):=⟨hy2,hlt2⟩
          generalize gk &&& (gk - 1)=y2 at *
          have hle:L.length+1≤64 * j+64:=by have:=HLL.out; rwa [List.length_append] at this
          have hwm:((j:Int) * 64)=((64 * j:Nat):Int):=by omega
          have hwa:(((64 * j:Nat):Int)+(Lib.ctz 64 gk:Nat))=((64 * j+Lib.ctz 64 gk:Nat):Int):=by omega
          clear st hLe HT1 hy hy2 hlt2
          generalize Lib.ctz 64 gk=k at *
          go_wp2_with fail
          refine HCA.out.mono ?_
          rintro e w1 ⟨rfl,rfl⟩
          have hsz:=hB.size
          go_wp2_with (at_builtin; refine wpList_append_own _ rfl _ _ 43 rfl w.heap.size 3 i0 _ 1 8 Tryz.underlying43 hi0 hz0 hz1 hz2 rfl (by decide) _ L.length (L.map encI) rfl (World.ownsRow.alloc hown _) ⟨w1.heap.size,0,none⟩ 1 1 [encI (64 * (j:Int)+k)] rfl rfl (new_cell _ _ _) (by simp [encI]; rfl) (by unfold maxLen; omega) (by omega) (by simp; omega) ?_)
          intro v2 w2 hown2 hg2 _
          have B2:Below w.heap.size w w2:=(hB.alloc hsz _).grown hg2 (by simp; omega) (fun q e=>(World.ownsRow.lt hown q e).1)
          have HO2:Hid (Own1 3 encI w.heap.size (L++[((64 * j+k:Nat):Int)]) v2 w2):=by
            show w2.ownsRow _ _ _ _ _ _
            rw [List.length_append,List.map_append]
            push_cast
            simpa using hown2
          obtain ⟨a2,c2,rfl⟩:=slice_of_own hown2
          clear hown2 hg2 hown
          go_wp2_with fail
          go_roundg y2
          case measure=>exact HY.out.2
          case rel=>exact ⟨y2,_,rfl,rfl,HY.out.1,HLL.out,HLE.out,HO2.out,B2⟩
    · obtain rfl:j=m:=by omega
      go_wp2_with fail
      go_ret
      exact ⟨_,rfl,by rw [HL.out]; exact hO,hB⟩
end Go.Proofs.YtbilbgjojdlobaaGreatDoor
namespace Go.Proofs.YtbilbgjojdlobaaGreatDoor
open Go.RowKit
theorem symsN_all {N:Nat} {l:List It} (h:∀ x∈l,0≤x.sym∧x.sym<N):symsN N l=l.map fun x=>x.sym.toNat:=by
  unfold symsN
  rw [List.filter_eq_self.2]
  intro x hx
  have:=h x hx
  simp
  omega
def WR (R:List (List Nat)) (s:Nat):List Nat:=R.getD s []
theorem WR_set {R:List (List Nat)} {l s:Nat} {A:List Nat} (hl:l<R.length):WR (R.set l A) s=if l=s then A else WR R s:=by
  unfold WR
  rw [List.getD_eq_getElem?_getD,List.getD_eq_getElem?_getD,List.getElem?_set]
  split
  · rename_i h; subst h; simp
  · rfl
structure WOk (m N:Nat) (R:List (List Nat)):Prop where
  len:R.length=N
  words:∀ s,s<N→Words m (WR R s)
theorem WOk.set {m N R} (h:WOk m N R) {l:Nat} {A:List Nat} (hl:l<N) (hA:Words m A):WOk m N (R.set l A):=by
  refine ⟨by rw [List.length_set]; exact h.len,fun s hs=>?_⟩
  rw [WR_set (by rw [h.len]; exact hl)]
  split
  · exact hA
  · exact h.words s hs
def bulkW (R:List (List Nat)):Nat:=bulk (R.map listW)
theorem bulkW_set {R:List (List Nat)} {l:Nat} {A:List Nat} (hl:l<R.length):bulkW (R.set l A)+(listW (WR R l)).length=bulkW R+(listW A).length:=by
  unfold bulkW WR
  rw [List.map_set]
  have:=bulk_set (R:=R.map listW) (s:=l) (l:=listW A) (by simpa using hl)
  rw [List.getElem_map] at this
  rw [List.getD_eq_getElem?_getD,List.getElem?_eq_getElem hl]
  exact this
theorem listW_length {m:Nat} {ws:List Nat} (h:Words m ws):(listW ws).length≤64 * m:=by
  have:=listTo_length ws.length ws
  rw [h.1] at this
  unfold listW
  rw [h.1]
  exact this
theorem bulkW_max {m N R} (h:WOk m N R):bulkW R≤N * (64 * m):=by
  have:=bulk_le (R:=R.map listW) (k:=64 * m) (fun l hl=>by
    obtain ⟨i,hi,rfl⟩:=List.getElem_of_mem hl
    rw [List.getElem_map]
    have hi':i<R.length:=by simpa using hi
    have:=h.words i (by rw [← h.len]; exact hi')
    unfold WR at this
    rw [List.getD_eq_getElem?_getD,List.getElem?_eq_getElem hi'] at this
    exact listW_length this)
  rw [List.length_map,h.len] at this
  exact this
def begW (F:Nat→List Nat) (E:Nat→Bool):List Nat→List Nat→List Nat × Bool × Bool
  | A,[]=>(A,false,true)
  | A,x :: xs=>if E x then ((begW F E (orW A (F x)) xs).1,newW A (F x) || (begW F E (orW A (F x)) xs).2.1,(begW F E (orW A (F x)) xs).2.2) else (orW A (F x),newW A (F x),false)
theorem begW_words {F E m}:∀ {sy:List Nat} {A:List Nat},Words m A→(∀ x∈sy,Words m (F x))→Words m (begW F E A sy).1
  | [],A,h,_=>h
  | x :: xs,A,h,hF=>by
    have h1:=h.or (hF x (by simp))
    rw [begW]
    split
    · exact begW_words h1 (fun y hy=>hF y (by simp [hy]))
    · exact h1
theorem begW_mem {F E m}:∀ {sy:List Nat} {A:List Nat},Words m A→(∀ x∈sy,Words m (F x))→∀ t,t∈listW (begW F E A sy).1↔t∈listW A∨Beg (fun x=>E x=true) (fun x t=>t∈listW (F x)) (fun _=>False) sy t
  | [],A,_,_=>fun t=>by
    rw [begW]
    constructor
    · exact .inl
    · rintro (h | h)
      · exact h
      · cases h with | behind h=>exact h.elim
  | x :: xs,A,h,hF=>fun t=>by
    have h1:=h.or (hF x (by simp))
    have e:t∈listW (orW A (F x))↔t∈listW A∨t∈listW (F x):=by rw [listW_or h (hF x (by simp)),mem_unionL]
    rw [begW]
    split
    · rename_i hE
      simp only
      rw [begW_mem h1 (fun y hy=>hF y (by simp [hy])),e]
      constructor
      · rintro ((h | h) | h)
        · exact .inl h
        · exact .inr (.here h)
        · exact .inr (.next hE h)
      · rintro (h | h)
        · exact .inl (.inl h)
        · cases h with
          | here h=>exact .inl (.inr h)
          | next _ h=>exact .inr h
    · rename_i hE
      simp only
      rw [e]
      constructor
      · rintro (h | h)
        · exact .inl h
        · exact .inr (.here h)
      · rintro (h | h)
        · exact .inl h
        · cases h with
          | here h=>exact .inr h
          | next hE' _=>exact absurd hE' hE
theorem begW_no {F E}:∀ {sy:List Nat} {A:List Nat},(begW F E A sy).2.1=false→(begW F E A sy).1=A
  | [],A,_=>by rw [begW]
  | x :: xs,A,h=>by
    rw [begW] at h ⊢
    split
    · rename_i hE
      rw [if_pos hE] at h
      simp only [Bool.or_eq_false_iff] at h
      have e:=newW_false h.1
      simp only
      rw [e] at h ⊢
      exact begW_no h.2
    · rename_i hE
      rw [if_neg hE] at h
      exact newW_false h
theorem begW_len {F E m}:∀ {sy:List Nat} {A:List Nat},Words m A→(∀ x∈sy,Words m (F x))→(listW A).length≤(listW (begW F E A sy).1).length∧((begW F E A sy).2.1=true→(listW A).length<(listW (begW F E A sy).1).length)
  | [],A,_,_=>by rw [begW]; exact ⟨Nat.le_refl _,fun h=>by cases h⟩
  | x :: xs,A,h,hF=>by
    have hx:=hF x (by simp)
    have h1:=h.or hx
    have e1:(listW A).length≤(listW (orW A (F x))).length:=by rw [listW_or h hx]; exact (length_unionL _ _).1
    have e2:newW A (F x)=true→(listW A).length<(listW (orW A (F x))).length:=fun hn=>by
      rw [newW_iff h hx,decide_eq_true_eq] at hn
      rw [listW_or h hx]; exact hn
    have ih:=begW_len (E:=E) (sy:=xs) h1 (fun y hy=>hF y (List.mem_cons_of_mem _ hy))
    rw [begW]
    split
    · simp only [Bool.or_eq_true]
      refine ⟨by omega,fun h=>?_⟩
      rcases h with h | h
      · have:=e2 h; omega
      · have:=ih.2 h; omega
    · exact ⟨e1,e2⟩
theorem within_orW {m:Nat} {A B:List Nat} (hA:Words m A) (hB:Words m B) (h:∀ t,t∈listW B→t∈listW A):newW A B=false∧orW A B=A:=by
  have e:newW A B=false:=by
    rw [newW_iff hA hB,decide_eq_false_iff_not,unionL_of_sub (rising_listW A) h]
    omega
  exact ⟨e,newW_false e⟩
structure StW (f:Fl) (m:Nat) (R:List (List Nat)):Prop where
  ok:WOk m f.n R
  sound:∀ s,s<f.n→∀ t,t∈listW (WR R s)→FstP f s t
  basic:∀ t:Nat,t<f.terms.length→(t:Int)∈listW (WR R t)
def ClosF (f:Fl) (R:List (List Nat)) (q:Nat × List Nat):Prop:=∀ pre x post,q.2=pre++x :: post→(∀ y∈pre,EmpP f y)→∀ t,t∈listW (WR R x)→t∈listW (WR R q.1)
theorem beg_split {emp:Nat→Prop} {fst:Nat→Int→Prop} {sy:List Nat} {t:Int} (h:Beg emp fst (fun _=>False) sy t):∃ pre x post,sy=pre++x :: post∧(∀ y∈pre,emp y)∧fst x t:=by
  induction h with
  | here h=>exact ⟨[],_,_,rfl,by simp,h⟩
  | next he _ ih =>
    obtain ⟨pre,x,post,rfl,h1,h2⟩:=ih
    exact ⟨_ :: pre,x,post,rfl,fun y hy=>by rcases List.mem_cons.1 hy with rfl | hy; exact he; exact h1 y hy,h2⟩
  | behind h=>exact h.elim
theorem beg_join {emp:Nat→Prop} {fst:Nat→Int→Prop} {pre:List Nat} {x:Nat} {post:List Nat} {t:Int} (h1:∀ y∈pre,emp y) (h2:fst x t):Beg emp fst (fun _=>False) (pre++x :: post) t:=by
  induction pre with
  | nil=>exact .here h2
  | cons y ys ih=>exact .next (h1 y (by simp)) (ih (fun z hz=>h1 z (by simp [hz])))
theorem StW.step {f:Fl} {m:Nat} {R:List (List Nat)} {E:Nat→Bool} {l:Nat} {sy:List Nat} (h:StW f m R) (hE:∀ s,s<f.n→(E s=true↔EmpP f s)) (hg:(l,sy)∈f.gr) (hl:l<f.n) (hsy:∀ x∈sy,x<f.n) :
    StW f m (R.set l (begW (WR R) E (WR R l) sy).1)∧((begW (WR R) E (WR R l) sy).2.1=true→bulkW R<bulkW (R.set l (begW (WR R) E (WR R l) sy).1))∧((begW (WR R) E (WR R l) sy).2.1=false→R.set l (begW (WR R) E (WR R l) sy).1=R∧ClosF f R (l,sy)):=by
  have hw:=h.ok.words l hl
  have hF:∀ x∈sy,Words m (WR R x):=fun x hx=>h.ok.words x (hsy x hx)
  have hlR:l<R.length:=by rw [h.ok.len]; exact hl
  have hA:=begW_words (E:=E) hw hF
  have hb:=begW_mem (E:=E) hw hF
  have hlen:=begW_len (E:=E) hw hF
  have hno:=begW_no (F:=WR R) (E:=E) (sy:=sy) (A:=WR R l)
  generalize begW (WR R) E (WR R l) sy=r at *
  have hbk:=bulkW_set (R:=R) (l:=l) (A:=r.1) hlR
  refine ⟨⟨h.ok.set hl hA,fun s hs t ht=>?_,fun t ht=>?_⟩,fun hb'=>?_,fun hb'=>?_⟩
  · rw [WR_set hlR] at ht
    split at ht
    · rename_i e
      subst e
      rcases (hb t).1 ht with ht | ht
      · exact h.sound l hl t ht
      · obtain ⟨pre,x,post,rfl,h1,h2⟩:=beg_split ht
        exact .prod hg (fun y hy=>(hE y (hsy y (by simp [hy]))).1 (h1 y hy)) (h.sound x (hsy x (by simp)) t h2)
    · exact h.sound s hs t ht
  · rw [WR_set hlR]
    split
    · rename_i e
      subst e
      exact (hb _).2 (.inl (h.basic _ ht))
    · exact h.basic t ht
  · have:=hlen.2 hb'; omega
  · have e:=hno hb'
    refine ⟨?_,fun pre x post hp he t ht=>?_⟩
    · rw [e]
      apply List.ext_getElem (by simp)
      intro i h1 h2
      rw [List.getElem_set]
      split
      · rename_i hi; subst hi; unfold WR; rw [List.getD_eq_getElem?_getD,List.getElem?_eq_getElem h2]; rfl
      · rfl
    · simp only at hp ⊢
      rw [← e]
      refine (hb t).2 (.inr ?_)
      rw [hp]
      exact beg_join (fun y hy=>(hE y (hsy y (by rw [hp]; simp [hy]))).2 (he y hy)) ht
theorem StW.done {f:Fl} {m:Nat} {R:List (List Nat)} (h:StW f m R) (hc:∀ q∈f.gr,ClosF f R q) {s:Nat} {t:Int} (hf:FstP f s t):t∈listW (WR R s):=by
  induction hf with
  | term ht=>exact h.basic _ ht
  | prod hm he _ ih=>exact hc _ hm _ _ _ rfl he _ ih
theorem StW.gives {f:Fl} {m:Nat} {R:List (List Nat)} (h:StW f m R) (hc:∀ q∈f.gr,ClosF f R q):GivesR (FstP f) f.n (R.map listW):=by
  refine ⟨by rw [List.length_map]; exact h.ok.len,fun l hl=>?_,fun s hs t=>?_⟩
  · obtain ⟨ws,_,rfl⟩:=List.mem_map.1 hl
    exact rising_listW ws
  · have hs':s<R.length:=by rw [h.ok.len]; exact hs
    rw [inR_get (by simpa using hs'),List.getElem_map]
    have e:WR R s=R[s]:=by unfold WR; rw [List.getD_eq_getElem?_getD,List.getElem?_eq_getElem hs']; rfl
    rw [← e]
    exact ⟨h.sound s hs t,fun hf=>h.done hc hf⟩
def putsTo (m N j:Nat):List (List Nat):=(List.range N).map fun s=>if s<j then putW (List.replicate m 0) s else List.replicate m 0
theorem putsTo_len (m N j:Nat):(putsTo m N j).length=N:=by simp [putsTo]
theorem putsTo_get {m N j s:Nat} (hs:s<N):WR (putsTo m N j) s=if s<j then putW (List.replicate m 0) s else List.replicate m 0:=by
  unfold WR putsTo
  rw [List.getD_eq_getElem?_getD,List.getElem?_map,List.getElem?_range hs]
  rfl
theorem putsTo_zero (m N:Nat):putsTo m N 0=List.replicate N (List.replicate m 0):=by
  unfold putsTo
  apply List.ext_getElem (by simp)
  intro i h1 h2
  simp
theorem putsTo_succ {m N j:Nat}:putsTo m N (j+1)=(putsTo m N j).set j (putW (List.replicate m 0) j):=by
  unfold putsTo
  apply List.ext_getElem (by simp)
  intro i h1 h2
  rw [List.getElem_set]
  simp only [List.getElem_map,List.getElem_range]
  split
  · rename_i h
    split
    · rename_i e; subst e; rfl
    · rename_i e; rw [if_pos (by omega)]
  · rename_i h
    rw [if_neg (by omega),if_neg (by omega)]
theorem putsTo_ok {f:Fl}:StW f (f.terms.length / 64+1) (putsTo (f.terms.length / 64+1) f.n f.terms.length):=by
  generalize hM:f.terms.length / 64+1=m at *
  have hl:∀ s,s<f.terms.length→listW (putW (List.replicate m 0) s)=[(s:Int)]:=fun s hs=>by
    rw [listW_put (by rw [List.length_replicate]; omega),listW_zero]
    rfl
  refine ⟨⟨putsTo_len _ _ _,fun s hs=>?_⟩,fun s hs t ht=>?_,fun t ht=>?_⟩
  · rw [putsTo_get hs]
    split
    · exact (words_zero m).put s
    · exact words_zero m
  · rw [putsTo_get hs] at ht
    split at ht
    · rename_i h
      rw [hl s h] at ht
      simp at ht
      subst ht
      exact .term h
    · rw [listW_zero] at ht; cases ht
  · rw [putsTo_get (by unfold Fl.n; omega),if_pos ht,hl t ht]
    simp
def slS (m b:Nat):Value:=.slice (some ⟨b,0,none⟩) m m
structure SetsB (G m:Nat) (bs:List Nat) (R:List (List Nat)) (W:World):Prop where
  row:W.heap[G]?=some (Obj.cells (bs.map (slS m)).toArray 205 (0,0))
  len:bs.length=R.length
  nodup:bs.Nodup
  out:G ∉ bs
  each:∀ s,s<R.length→SetB (bs.getD s 0) m (WR R s) W
theorem block_cell {W:World} {G i:Nat} {cs:List Value} {t:TypeId} {v:Value} (h:W.heap[G]?=some (Obj.cells cs.toArray t (0,0))) (hi:cs[i]?=some v):W.cell? ⟨G,i,none⟩=some v:=by
  simp [World.cell?,h,hi]
theorem block_free {W:World} {G i:Nat} {cs:List Value} {t:TypeId} (h:W.heap[G]?=some (Obj.cells cs.toArray t (0,0))):W.frozen? ⟨G,i,none⟩=false:=by
  simp [World.frozen?,h]
structure NsI (N G m:Nat) (w1:World) (bs:List Nat) (W:World):Prop where
  row:W.heap[G]?=some (Obj.cells (bs.map (slS m)++List.replicate (N - bs.length) (Value.slice none 0 0)).toArray 205 (0,0))
  nodup:bs.Nodup
  out:∀ b∈bs,G<b
  each:∀ b∈bs,SetB b m (List.replicate m 0) W
  below:Below G w1 W
theorem NsI.cell {N G m w1 bs W} (h:NsI N G m w1 bs W) (hj:bs.length<N):W.cell? ⟨G,bs.length,none⟩=some (.slice none 0 0):=by
  refine block_cell h.row ?_
  rw [List.getElem?_append_right (by simp),List.length_map,Nat.sub_self,List.getElem?_replicate]
  simp; omega
theorem NsI.step {N G m w1 bs W W' b} (h:NsI N G m w1 bs W) (hj:bs.length<N) (hb:Below W.heap.size W W') (hG:G<W.heap.size) (hbl:W.heap.size≤b) (hs:SetB b m (List.replicate m 0) W'):NsI N G m w1 (bs++[b]) (W'.setCell ⟨G,bs.length,none⟩ (slS m b)):=by
  have hlt:∀ c∈bs,c<W.heap.size:=fun c hc=>(h.each c hc).lt
  have r1:=(hb.block G hG).trans h.row
  refine ⟨?_,?_,?_,?_,?_⟩
  · refine (block_set _ r1).trans ?_
    congr 2
    rw [List.setIfInBounds_toArray]
    congr 1
    rw [List.set_append_right _ _ (by simp)]
    simp only [List.length_map,Nat.sub_self,List.length_append,List.length_singleton,List.map_append,List.map_cons,List.map_nil,List.append_assoc]
    congr 1
    obtain ⟨d,hd⟩:∃ d,N - bs.length=d+1:=⟨N - bs.length - 1,by omega⟩
    rw [hd,show N - (bs.length+1)=d by omega,List.replicate_succ]
    rfl
  · rw [List.nodup_append]
    refine ⟨h.nodup,by simp,fun x hx y hy=>?_⟩
    simp at hy
    subst hy
    have:=hlt x hx
    omega
  · intro c hc
    rcases List.mem_append.1 hc with hc | hc
    · exact h.out c hc
    · simp at hc; omega
  · intro c hc
    rcases List.mem_append.1 hc with hc | hc
    · have h1:=h.each c hc
      have h2:=h.out c hc
      exact ⟨(Below.heap_setCell W' ⟨G,bs.length,none⟩ _ c (by simp only; omega)).trans ((hb.block c h1.lt).trans h1.1),h1.2⟩
    · simp at hc
      subst hc
      exact ⟨(Below.heap_setCell W' ⟨G,bs.length,none⟩ _ c (by simp only; omega)).trans hs.1,hs.2⟩
  · exact (h.below.trans (hb.mono (Nat.le_of_lt hG))).setCell (p:=⟨G,bs.length,none⟩) (Nat.le_refl _) _
theorem NsI.done {N G m w1 bs W} (h:NsI N G m w1 bs W) (hN:bs.length=N):SetsB G m bs (List.replicate N (List.replicate m 0)) W:=by
  refine ⟨?_,by simp [hN],h.nodup,fun hG=>by have:=h.out G hG; omega,fun s hs=>?_⟩
  · have:=h.row
    rw [hN,Nat.sub_self] at this
    simpa using this
  · have hs':s<N:=by simpa using hs
    have e:WR (List.replicate N (List.replicate m 0)) s=List.replicate m 0:=by
      unfold WR
      rw [List.getD_eq_getElem?_getD,List.getElem?_replicate,if_pos hs']
      rfl
    have hl:s<bs.length:=by omega
    rw [e,List.getD_eq_getElem?_getD,List.getElem?_eq_getElem hl]
    exact h.each _ (List.getElem_mem hl)
set_option maxRecDepth 100000 in
set_option maxHeartbeats 1000000 in
theorem newSets_any (f:Fl) (a:FlA) (w:World) (hp:FitP f) :
    Calls Tryz.prog 152 #[a.val f] w fun e w'=>∃ G bs,e=.returned (.slice (some ⟨G,0,none⟩) f.n f.n)∧w.heap.size≤G∧(∀ b∈bs,w.heap.size≤b)∧SetsB G (f.terms.length / 64+1) bs (List.replicate f.n (List.replicate (f.terms.length / 64+1) 0)) w'∧Below w.heap.size w w':=by
  have hn:f.n≤600:=hp.size
  have hS:=fun W=>symbols_any f a W hn
  have hNS:=fun W=>newSet_any f a W hn
  obtain ⟨i0,hi0,hz0,hz1,hz2⟩:=info_parts info61
  have X0:=FBox.new f a 25 w
  have B0:Below w.heap.size w (w.alloc (fobj f a 25)):=(Below.refl _ _).alloc (Nat.le_refl _) _
  obtain ⟨ta,tc,na,nc,pa,pc⟩:=a
  unfold fobj at X0 B0
  unfold FlA.val at hS hNS ⊢
  simp only at *
  generalize f.terms.length / 64+1=m at *
  have HS:Hid (∀ W,Calls Tryz.prog 143 #[.agg #[Value.slice ta f.terms.length tc,Value.slice na f.nons.length nc,Value.slice pa f.prods.length pc]] W fun e w'=>e=.returned (.int .i64 f.n)∧Below W.heap.size W w'):=hS
  have HNS:Hid (∀ W,Calls Tryz.prog 173 #[.agg #[Value.slice ta f.terms.length tc,Value.slice na f.nons.length nc,Value.slice pa f.prods.length pc]] W fun e w'=>∃ b,e=.returned (.slice (some ⟨b,0,none⟩) m m)∧W.heap.size≤b∧SetB b m (List.replicate m 0) w'∧Below W.heap.size W w'):=hNS
  clear hS hNS
  obtain ⟨N,hN⟩:∃ N,f.n=N:=⟨_,rfl⟩
  rw [hN] at hn HS ⊢
  clear hN hp
  go_enter Tryz.func152,Tryz.ntmps152
  go_wp2_with fail
  generalize (w.alloc (Obj.cells #[Value.slice ta f.terms.length tc,Value.slice na f.nons.length nc,Value.slice pa f.prods.length pc] 25))=W1 at *
  refine (HS.out _).mono ?_
  rintro e w1 ⟨rfl,hb1⟩
  have X1:=X0.next hb1
  have B1:=below_then B0 hb1 B0.size
  clear X0 B0 hb1 HS
  go_wp2_with (at_make; refine wpList_make_full _ rfl _ _ 181 rfl w1.heap.size 205 i0 _ 1 Tryz.underlying181 hi0 hz0 hz1 _ _ _ _ N rfl rfl rfl rfl (by rw [hz2]; omega) (by unfold maxLen; omega) (Nat.le_refl _) ?_)
  intro w2 hown hg2
  have hown':w2.ownsRow w1.heap.size 205 1 (.slice (some ⟨w1.heap.size,0,none⟩) N N) N (madeCells #[Value.slice none 0 0] N).toList:=by simpa using hown
  have R0:NsI N w1.heap.size m w1 [] w2:=by
    refine ⟨?_,List.nodup_nil,by simp,by simp,(Below.refl _ _).grown hg2 (Nat.le_refl _) (fun k e=>by cases e)⟩
    obtain ⟨_,h2⟩:=hown'
    rcases h2 with ⟨h2,_⟩ | ⟨g',cap,cur,hv,hB,hg,hc,hm,hz,hx⟩
    · cases h2
    · cases hv
      rw [hg]
      have e:cur.toList=List.replicate N (.slice none 0 0):=by
        rw [Nat.mul_one] at hx hz
        rw [List.take_of_length_le (by simp [hz])] at hx
        rw [hx,toList_madeCells_one]
      rw [show (List.map (slS m) []++List.replicate (N - ([]:List Nat).length) (Value.slice none 0 0))=List.replicate N (Value.slice none 0 0) by simp,← e]
  have hGw:w.heap.size≤w1.heap.size:=B1.size
  have hXl:=X1.1
  obtain ⟨G,hG⟩:∃ G,w1.heap.size=G:=⟨_,rfl⟩
  have HX:Hid (∀ W,Below G w1 W→FBox f ⟨ta,tc,na,nc,pa,pc⟩ w.heap.size W):=fun W hb=>X1.next (by rw [hG]; exact hb)
  have HB:Hid (∀ W,Below G w1 W→Below w.heap.size w W):=fun W hb=>below_then B1 (by rw [hG]; exact hb) B1.size
  have HR0:Hid (NsI N G m w1 [] w2):=by rw [← hG]; exact R0
  have HGL:Hid (∀ W,Below G w1 W→G≤W.heap.size):=fun W hb=>by have:=hb.size; omega
  rw [hG] at hGw hXl ⊢
  clear hown hown' hg2 R0 X1 B1 hG
  go_wp2_with fail
  go_loopw [10] (fun i wr=>∃ (bs:List Nat),i=.int .i64 bs.length∧bs.length≤N∧NsI N G m w1 bs wr) (fun i _=>N - (intOf i).toNat)
  case atStart=>exact ⟨[],rfl,Nat.zero_le _,HR0.out⟩
  case round =>
  clear HR0
  obtain ⟨bs,rfl,hj,R⟩:=hrel
  obtain ⟨x0,x1,x2,x3⟩:=HX.out _ R.below
  simp only at x1 x2 x3
  have hGl:G<wr.heap.size:=(Array.getElem?_eq_some_iff.1 R.row).1
  by_cases hlt:bs.length<N
  · have HST:=fun W' b hb hbl hs=>R.step (W':=W') (b:=b) hlt hb hGl hbl hs
    have HC:=HNS.out wr
    have hcl:=R.cell hlt
    have hfr:wr.frozen? ⟨G,bs.length,none⟩=false:=block_free R.row
    have HST':Hid (∀ W' b,Below wr.heap.size wr W'→wr.heap.size≤b→SetB b m (List.replicate m 0) W'→NsI N G m w1 (bs++[b]) (W'.setCell ⟨G,bs.length,none⟩ (slS m b))):=HST
    have HC':Hid (Calls Tryz.prog 173 #[.agg #[Value.slice ta f.terms.length tc,Value.slice na f.nons.length nc,Value.slice pa f.prods.length pc]] wr fun e w'=>∃ b,e=.returned (.slice (some ⟨b,0,none⟩) m m)∧wr.heap.size≤b∧SetB b m (List.replicate m 0) w'∧Below wr.heap.size wr w'):=HC
    clear HST HC R
    go_wp2_with fail
    refine HC'.out.mono ?_
    rintro e w3 ⟨b,rfl,hbl,hs,hb3⟩
    have HF:Hid (NsI N G m w1 (bs++[b]) (w3.setCell ⟨G,bs.length,none⟩ (.slice (some ⟨b,0,none⟩) m m))):=HST'.out w3 b hb3 hbl hs
    have c3:=(hb3.cell (p:=⟨G,bs.length,none⟩) hGl).trans hcl
    have f3:=(hb3.frozen (p:=⟨G,bs.length,none⟩) hGl).trans hfr
    clear HST' HC' hs hb3 hcl hfr x0 x1 x2 x3
    go_wp2_with fail
    exact ⟨⟨bs++[b],by simp,by simp; omega,HF.out⟩,by simp [intOf]; omega⟩
  · have hN':bs.length=N:=by omega
    have HF:Hid (SetsB G m bs (List.replicate N (List.replicate m 0)) wr∧(∀ b∈bs,G<b)∧Below w.heap.size w wr):=⟨R.done hN',R.out,HB.out _ R.below⟩
    clear R
    go_wp2_with fail
    go_ret
    exact ⟨G,bs,rfl,hGw,fun b hb=>by have:=HF.out.2.1 b hb; omega,HF.out.1,HF.out.2.2⟩
structure VAt (f:Fl) (a:FlA) (V E G:Nat) (W:World):Prop where
  c0:W.cell? ⟨V,0,none⟩=some (.slice a.ta f.terms.length a.tc)
  c1:W.cell? ⟨V,1,none⟩=some (.slice a.na f.nons.length a.nc)
  c2:W.cell? ⟨V,2,none⟩=some (.slice a.pa f.prods.length a.pc)
  c3:W.cell? ⟨V,3,none⟩=some (.slice (some ⟨E,0,none⟩) f.n f.n)
  c4:W.cell? ⟨V,4,none⟩=some (.slice (some ⟨G,0,none⟩) f.n f.n)
theorem VAt.lt {f a V E G W} (h:VAt f a V E G W):V<W.heap.size:=World.block_lt_of_cell? W _ h.c0
theorem VAt.but {f a V E G W W'} {D:Nat→Prop} (h:VAt f a V E G W) (hb:But D W W') (hd:¬ D V):VAt f a V E G W':=by
  have e:∀ {o v},W.cell? ⟨V,o,none⟩=some v→W'.cell? ⟨V,o,none⟩=some v:=fun {o v} hv=>(hb.cell (p:=⟨V,o,none⟩) h.lt hd).trans hv
  exact ⟨e h.c0,e h.c1,e h.c2,e h.c3,e h.c4⟩
theorem SetsB.lt {G m bs R W} (h:SetsB G m bs R W):G<W.heap.size:=(Array.getElem?_eq_some_iff.1 h.row).1
theorem SetsB.cell {G m bs R W} (h:SetsB G m bs R W) {s:Nat} (hs:s<R.length):W.cell? ⟨G,s,none⟩=some (.slice (some ⟨bs.getD s 0,0,none⟩) m m):=by
  have hl:s<bs.length:=by rw [h.len]; exact hs
  refine block_cell h.row ?_
  rw [List.getElem?_map,List.getElem?_eq_getElem hl,List.getD_eq_getElem?_getD,List.getElem?_eq_getElem hl]
  rfl
theorem SetsB.mem {G m bs R W} (h:SetsB G m bs R W) {s:Nat} (hs:s<R.length):bs.getD s 0∈bs:=by
  have hl:s<bs.length:=by rw [h.len]; exact hs
  rw [List.getD_eq_getElem?_getD,List.getElem?_eq_getElem hl]
  exact List.getElem_mem hl
theorem SetsB.inj {G m bs R W} (h:SetsB G m bs R W) {s t:Nat} (hs:s<R.length) (ht:t<R.length) (e:bs.getD s 0=bs.getD t 0):s=t:=by
  have hl:s<bs.length:=by rw [h.len]; exact hs
  have hl2:t<bs.length:=by rw [h.len]; exact ht
  rw [List.getD_eq_getElem?_getD,List.getElem?_eq_getElem hl,List.getD_eq_getElem?_getD,List.getElem?_eq_getElem hl2] at e
  exact (List.getElem_inj h.nodup).1 e
theorem SetsB.but {G m bs R W W'} {D:Nat→Prop} (h:SetsB G m bs R W) (hb:But D W W') (hG:¬ D G) (hd:∀ b∈bs,¬ D b):SetsB G m bs R W' :=
  ⟨(hb.block G h.lt hG).trans h.row,h.len,h.nodup,h.out,fun s hs=>(h.each s hs).but hb (hd _ (h.mem hs))⟩
theorem SetsB.turn {G m bs R W W' l A} (h:SetsB G m bs R W) (hl:l<R.length) (hb:But (fun k=>k=bs.getD l 0) W W') (hA:SetB (bs.getD l 0) m A W'):SetsB G m bs (R.set l A) W':=by
  refine ⟨(hb.block G h.lt (fun e=>h.out (by rw [e]; exact h.mem hl))).trans h.row,by rw [List.length_set]; exact h.len,h.nodup,h.out,fun s hs=>?_⟩
  rw [List.length_set] at hs
  rw [WR_set hl]
  split
  · rename_i e; subst e; exact hA
  · rename_i e; exact (h.each s hs).but hb (fun e'=>e (h.inj hs hl e').symm)
set_option maxRecDepth 100000 in
set_option maxHeartbeats 1000000 in
theorem begin_any (f:Fl) (a:FlA) (V E G m c:Nat) (bs:List Nat) (R:List (List Nat)) (L:List Bool) (A0:List Nat) (l:List It) (vl:Value) (w:World) (hn:f.n≤600) (hm:m≤20)
    (hV:VAt f a V E G w) (hE:RowK E f.n L w) (hS:SetsB G m bs R w) (hR:WOk m f.n R) (hA:SetB c m A0 w) (hl:SlT l vl w) (_hll:l.length≤1000)
    (hcV:c≠V) (hcE:c≠E) (hcG:c≠G) (hcl:∀ (b:Nat) (ao:Addr),vl=.slice (some ao) l.length b→l≠[]→ao.block≠c) (hown:∀ s,s<f.n→bs.getD s 0=c→WR R s=A0) :
    Calls Tryz.prog 155 #[.pointer (some ⟨V,0,none⟩),.slice (some ⟨c,0,none⟩) m m,vl] w fun e w'=>e=.returned (.tuple #[.bool (begW (WR R) (onb L) A0 (symsN f.n l)).2.1,.bool (begW (WR R) (onb L) A0 (symsN f.n l)).2.2])∧SetB c m (begW (WR R) (onb L) A0 (symsN f.n l)).1 w'∧But (fun k=>k=c) w w':=by
  obtain ⟨la,lc,rfl,hI,_⟩:=hl
  have hJ:=fun W x=>isSymbol_any f a x W hn
  obtain ⟨ta,tc,na,nc,pa,pc⟩:=a
  unfold FlA.val at hJ
  simp only at *
  have HJ:Hid (∀ W x,Calls Tryz.prog 168 #[.agg #[Value.slice ta f.terms.length tc,Value.slice na f.nons.length nc,Value.slice pa f.prods.length pc],.int .i64 x] W fun e w'=>e=.returned (.bool (decide (0≤x∧x<(f.n:Int))))∧Below W.heap.size W w'):=hJ
  clear hJ
  have hRl:R.length=f.n:=hR.len
  -- what lies in every world that has turned in block c alone
  have HV:Hid (∀ W,But (fun k=>k=c) w W→VAt f ⟨ta,tc,na,nc,pa,pc⟩ V E G W):=fun W hb=>hV.but hb (fun e=>hcV e.symm)
  have HE:Hid (∀ W,But (fun k=>k=c) w W→RowK E f.n L W):=fun W hb=>hE.but hb (fun e=>hcE e.symm)
  have HG:Hid (∀ W,But (fun k=>k=c) w W→∀ s,s<f.n→W.cell? ⟨G,s,none⟩=some (.slice (some ⟨bs.getD s 0,0,none⟩) m m)):=fun W hb s hs=>(hb.cell (p:=⟨G,s,none⟩) hS.lt (fun e=>hcG e.symm)).trans (hS.cell (by rw [hRl]; exact hs))
  have HO:Hid (∀ W,But (fun k=>k=c) w W→∀ s,s<f.n→bs.getD s 0≠c→SetB (bs.getD s 0) m (WR R s) W):=fun W hb s hs hne=>(hS.each s (by rw [hRl]; exact hs)).but hb hne
  have HI:Hid (∀ W,But (fun k=>k=c) w W→ItsAt l la W):=fun W hb i r hr=>by
    obtain ⟨b,off,e0,e1,e2,e3,e4,e5⟩:=hI i r hr
    subst e0
    have hne:b≠c:=hcl lc ⟨b,off,none⟩ rfl (fun e=>by rw [e] at hr; simp at hr)
    exact ⟨b,off,rfl,Nat.lt_of_lt_of_le e1 hb.size,(hb.cell (p:=⟨b,off+i * 3,none⟩) e1 hne).trans e2,(hb.cell (p:=⟨b,off+i * 3+1,none⟩) e1 hne).trans e3,(hb.cell (p:=⟨b,off+i * 3+2,none⟩) e1 hne).trans e4,e5⟩
  have HOW:Hid (∀ s,s<f.n→bs.getD s 0=c→WR R s=A0):=hown
  have HWD:Hid (∀ s,s<f.n→Words m (WR R s)):=hR.words
  clear hV hE hS hI hown hcl hR hcV hcE hcG
  obtain ⟨RES,hRES⟩:∃ RES,begW (WR R) (onb L) A0 (symsN f.n l)=RES:=⟨_,rfl⟩
  rw [hRES]
  have HRES:Hid (begW (WR R) (onb L) A0 (symsN f.n l)=RES):=hRES
  clear hRES
  have HA0:Hid (SetB c m A0 w):=hA
  clear hA
  go_enter Tryz.func155,Tryz.ntmps155
  go_wp2_with fail
  go_loopw [6,12] (fun g i wr=>∃ (j:Nat) (A:List Nat) (gb:Bool),i=.int .i64 j∧j≤l.length∧g=.bool gb∧SetB c m A wr∧But (fun k=>k=c) w wr∧(∀ t,t∈listW A0→t∈listW A)∧RES=((begW (WR R) (onb L) A (symsN f.n (l.drop j))).1,gb || (begW (WR R) (onb L) A (symsN f.n (l.drop j))).2.1,(begW (WR R) (onb L) A (symsN f.n (l.drop j))).2.2)) (fun _ i _=>l.length - (intOf i).toNat)
  case atStart=>exact ⟨0,A0,false,rfl,Nat.zero_le _,rfl,HA0.out,But.refl _ _,fun _ h=>h,by rw [List.drop_zero,HRES.out]; simp⟩
  case round =>
  clear HA0 HRES
  obtain ⟨j,A,gb,rfl,hj,rfl,hA,hB,hsub,hres⟩:=hrel
  by_cases hlt:j<l.length
  · obtain ⟨bi,oi,rfl,hbi,i0,i1,i2,si,sf,sa⟩:=(HI.out _ hB).at (Below.refl _ _) hlt
    rw [List.drop_eq_getElem_cons hlt] at hres
    generalize l[j]=it at *
    obtain ⟨x,xf,xa⟩:=it
    simp only at i0 i1 i2 si sf sa
    have hcz:c<wr.heap.size:=hA.lt
    have hVz:=(HV.out _ hB).lt
    obtain ⟨Wp,hWp⟩:∃ Wp,wr.alloc (Obj.cells #[Value.int .i64 x,.string xf,.string xa] 55)=Wp:=⟨_,rfl⟩
    have hbp:Below wr.heap.size wr Wp:=by rw [← hWp]; exact (Below.refl _ _).alloc (Nat.le_refl _) _
    have hz:Wp.cell? ⟨wr.heap.size,0,none⟩=some (.int .i64 x):=by rw [← hWp]; simp
    have hBp:But (fun k=>k=c) w Wp:=hB.trans (But.of_next hbp)
    have HAp:Hid (SetB c m A Wp):=hA.but (D:=fun _=>False) (But.of_next hbp) (fun h=>h)
    have hzz:wr.heap.size<Wp.heap.size:=World.block_lt_of_cell? Wp _ hz
    have HRE:Hid (RES=((begW (WR R) (onb L) A (symsN f.n (⟨x,xf,xa⟩ :: l.drop (j+1)))).1,gb || (begW (WR R) (onb L) A (symsN f.n (⟨x,xf,xa⟩ :: l.drop (j+1)))).2.1,(begW (WR R) (onb L) A (symsN f.n (⟨x,xf,xa⟩ :: l.drop (j+1)))).2.2)):=hres
    have HSU:Hid (∀ t,t∈listW A0→t∈listW A):=hsub
    clear hres hsub hA hB hbp
    go_upto_region 4 with fail
    try rw [hWp]
    clear hWp i0 i1 i2
    obtain ⟨Z,hZ⟩:∃ Z,wr.heap.size=Z:=⟨_,rfl⟩
    rw [hZ] at hz hzz hcz hVz ⊢
    clear hZ
    obtain ⟨v0,v1,v2,v3,v4⟩:=HV.out _ hBp
    simp only at v0 v1 v2 v3 v4
    have HS0:Hid ((fun W=>W.cell? ⟨V,0,none⟩=some (.slice ta f.terms.length tc)∧W.cell? ⟨V,1,none⟩=some (.slice na f.nons.length nc)∧W.cell? ⟨V,2,none⟩=some (.slice pa f.prods.length pc)∧W.cell? ⟨Z,0,none⟩=some (.int .i64 x)∧Below Wp.heap.size Wp W) Wp.drew):=⟨v0,v1,v2,hz,(Below.refl _ _).drew⟩
    have hstep:∀ W W',(fun W=>W.cell? ⟨V,0,none⟩=some (.slice ta f.terms.length tc)∧W.cell? ⟨V,1,none⟩=some (.slice na f.nons.length nc)∧W.cell? ⟨V,2,none⟩=some (.slice pa f.prods.length pc)∧W.cell? ⟨Z,0,none⟩=some (.int .i64 x)∧Below Wp.heap.size Wp W) W→Below W.heap.size W W'→(fun W=>W.cell? ⟨V,0,none⟩=some (.slice ta f.terms.length tc)∧W.cell? ⟨V,1,none⟩=some (.slice na f.nons.length nc)∧W.cell? ⟨V,2,none⟩=some (.slice pa f.prods.length pc)∧W.cell? ⟨Z,0,none⟩=some (.int .i64 x)∧Below Wp.heap.size Wp W) W':=by
      rintro W W' ⟨y0,y1,y2,y3,y4⟩ hb'
      have hsz:=y4.size
      exact ⟨(hb'.cell (p:=⟨V,0,none⟩) (by show V<_; omega)).trans y0,(hb'.cell (p:=⟨V,1,none⟩) (by show V<_; omega)).trans y1,(hb'.cell (p:=⟨V,2,none⟩) (by show V<_; omega)).trans y2,(hb'.cell (p:=⟨Z,0,none⟩) (by show Z<_; omega)).trans y3,below_then y4 hb' hsz⟩
    have cJ:∀ W,(fun W=>W.cell? ⟨V,0,none⟩=some (.slice ta f.terms.length tc)∧W.cell? ⟨V,1,none⟩=some (.slice na f.nons.length nc)∧W.cell? ⟨V,2,none⟩=some (.slice pa f.prods.length pc)∧W.cell? ⟨Z,0,none⟩=some (.int .i64 x)∧Below Wp.heap.size Wp W) W→Calls Tryz.prog 168 #[.agg #[Value.slice ta f.terms.length tc,Value.slice na f.nons.length nc,Value.slice pa f.prods.length pc],.int .i64 x] W fun e w'=>e=.returned (.bool (decide (0≤x∧x<(f.n:Int))))∧(fun W=>W.cell? ⟨V,0,none⟩=some (.slice ta f.terms.length tc)∧W.cell? ⟨V,1,none⟩=some (.slice na f.nons.length nc)∧W.cell? ⟨V,2,none⟩=some (.slice pa f.prods.length pc)∧W.cell? ⟨Z,0,none⟩=some (.int .i64 x)∧Below Wp.heap.size Wp W) w':=by
      intro W hS
      refine (HJ.out W x).mono ?_
      rintro e w' ⟨rfl,h2⟩
      exact ⟨rfl,hstep _ _ hS h2⟩
    clear hstep HJ
    by_cases hx:0≤x∧x<(f.n:Int)
    · rw [show decide (0≤x∧x<(f.n:Int))=true from decide_eq_true hx] at cJ
      go_region_held3 (fun W=>W.cell? ⟨V,0,none⟩=some (.slice ta f.terms.length tc)∧W.cell? ⟨V,1,none⟩=some (.slice na f.nons.length nc)∧W.cell? ⟨V,2,none⟩=some (.slice pa f.prods.length pc)∧W.cell? ⟨Z,0,none⟩=some (.int .i64 x)∧Below Wp.heap.size Wp W) (first | exact HS0.out | assumption) (first
        | (go_at_call 168; refine (cJ _ (by assumption)).mono ?_; rintro e w' ⟨rfl,hS⟩))
      all_goals
        obtain ⟨q,rfl⟩:∃ q:Nat,x=q:=⟨x.toNat,by omega⟩
        have hqn:q<f.n:=by omega
        have hbS:=hS.2.2.2.2
        have hzS:=hbS.size
        have B4:But (fun k=>k=c) w w':=hBp.trans (But.of_next hbS)
        have A4:SetB c m A w':=HAp.out.but (D:=fun _=>False) (But.of_next hbS) (fun h=>h)
        have Z4:=hS.2.2.2.1
        obtain ⟨bq,hbq⟩:∃ bq,bs.getD q 0=bq:=⟨_,rfl⟩
        have G4:=HG.out _ B4 q hqn
        rw [hbq] at G4
        have V4:=(HV.out _ B4).c4
        have hwA:=A4.2
        have hwq:=HWD.out q hqn
        have HRQ:Hid (symsN f.n (⟨(q:Int),xf,xa⟩ :: l.drop (j+1))=q :: symsN f.n (l.drop (j+1))):=by
          show _=_
          rw [symsN_cons_yes (by simp only; omega)]; rfl
        have HJN:Hid (Calls Tryz.prog 174 #[.slice (some ⟨c,0,none⟩) m m,.slice (some ⟨bq,0,none⟩) m m] w'.drew fun e w2=>e=.returned (.bool (newW A (WR R q)))∧Hid (SetB c m (orW A (WR R q)) w2∧But (fun k=>k=c) w'.drew w2)∧(fun W=>W.cell? ⟨V,4,none⟩=some (.slice (some ⟨G,0,none⟩) f.n f.n)∧W.cell? ⟨Z,0,none⟩=some (.int .i64 q)∧W.cell? ⟨G,q,none⟩=some (.slice (some ⟨bq,0,none⟩) m m)) w2):=by
          have key:∀ O,SetB bq m O w'→newW A O=newW A (WR R q)→orW A O=orW A (WR R q)→Calls Tryz.prog 174 #[.slice (some ⟨c,0,none⟩) m m,.slice (some ⟨bq,0,none⟩) m m] w'.drew fun e w2=>e=.returned (.bool (newW A (WR R q)))∧Hid (SetB c m (orW A (WR R q)) w2∧But (fun k=>k=c) w'.drew w2)∧(fun W=>W.cell? ⟨V,4,none⟩=some (.slice (some ⟨G,0,none⟩) f.n f.n)∧W.cell? ⟨Z,0,none⟩=some (.int .i64 q)∧W.cell? ⟨G,q,none⟩=some (.slice (some ⟨bq,0,none⟩) m m)) w2:=by
            intro O hO e1 e2
            refine (join_any A O c bq m w'.drew ⟨A4.1,A4.2⟩ ⟨hO.1,hO.2⟩ (by omega)).mono ?_
            rintro e w2 ⟨rfl,h1,h2⟩
            have hb2:But (fun k=>k=c) w w2:=(B4.drew).trans h2
            rw [e1]
            rw [e2] at h1
            refine ⟨rfl,⟨h1,h2⟩,(HV.out _ hb2).c4,(h2.cell (p:=⟨Z,0,none⟩) (by show Z<w'.heap.size; omega) (by show Z≠c; omega)).trans Z4,?_⟩
            have:=HG.out _ hb2 q hqn
            rw [hbq] at this
            exact this
          by_cases hbc:bq=c
          · have hA0:=HOW.out q hqn (hbq.trans hbc)
            have k1:=within_orW hwA hwq (by rw [hA0]; exact HSU.out)
            have k2:=within_orW hwA hwA (fun _ h=>h)
            rw [hbc] at key ⊢
            exact key A A4 (k2.1.trans k1.1.symm) (k2.2.trans k1.2.symm)
          · have:=HO.out _ B4 q hqn (by rw [hbq]; exact hbc)
            rw [hbq] at this
            exact key (WR R q) this rfl rfl
        have HAW:Hid (Words m (orW A (WR R q))):=hwA.or hwq
        have HSU2:Hid (∀ t,t∈listW A0→t∈listW (orW A (WR R q))):=fun t ht=>by rw [listW_or hwA hwq,mem_unionL]; exact .inl (HSU.out t ht)
        have HS5:Hid ((fun W=>W.cell? ⟨V,4,none⟩=some (.slice (some ⟨G,0,none⟩) f.n f.n)∧W.cell? ⟨Z,0,none⟩=some (.int .i64 q)∧W.cell? ⟨G,q,none⟩=some (.slice (some ⟨bq,0,none⟩) m m)) w'.drew):=⟨V4,Z4,G4⟩
        have HB4:Hid (But (fun k=>k=c) w w'):=B4
        have HZ4:Hid (Z<w'.heap.size∧Z≠c):=⟨by omega,by omega⟩
        rw [HRQ.out] at HRE
        have HRB:Hid (begW (WR R) (onb L) A (q :: symsN f.n (l.drop (j+1)))=if onb L q then ((begW (WR R) (onb L) (orW A (WR R q)) (symsN f.n (l.drop (j+1)))).1,newW A (WR R q) || (begW (WR R) (onb L) (orW A (WR R q)) (symsN f.n (l.drop (j+1)))).2.1,(begW (WR R) (onb L) (orW A (WR R q)) (symsN f.n (l.drop (j+1)))).2.2) else (orW A (WR R q),newW A (WR R q),false)):=by show _=_; rw [begW]
        clear hwA hwq hbq V4 Z4 G4 A4 HAp hS hbS HSU HRQ HS0 hz v0 v1 v2 v3 v4 cJ hBp
        generalize newW A (WR R q)=nb at *
        generalize orW A (WR R q)=A2 at *
        cases nb with
        | true =>
          go_wp2_with fail
          refine wp_region_L (fun W=>W.cell? ⟨V,4,none⟩=some (.slice (some ⟨G,0,none⟩) f.n f.n)∧W.cell? ⟨Z,0,none⟩=some (.int .i64 q)∧W.cell? ⟨G,q,none⟩=some (.slice (some ⟨bq,0,none⟩) m m)) 14 (by kernel_rfl) 14 rfl ?_
          refine lk ⟨some 24,.move (.tmp 1),205, "view.go:50",#[],none⟩ HS5.out ?_;simp only [Act.put,sA,s0,sS]
          refine lk ⟨some 25,.move (.tmp 0),184, "view.go:50",#[],none⟩ HS5.out ?_;simp only [Act.put,sA,s0,sS]
          refine lk ⟨some 26,.nilCheck (.tmp 25),0, "view.go:50",#[⟨1,.data⟩],none⟩ HS5.out ?_;simp only [Act.put,sA,s0,sS]
          refine lk ⟨some 27,.fieldAddr 183 (.tmp 26) 2,0, "view.go:50",#[⟨2,.data⟩],none⟩ HS5.out ?_;simp only [Act.put,sA,s0,sS]
          refine lk ⟨some 28,.load 181 (.tmp 27),181, "view.go:50",#[⟨3,.data⟩],none⟩ HS5.out ?_;simp only [Act.put,sA,s0,sS]
          refine lk ⟨some 29,.fieldAddr 55 (.tmp 9) 0,0, "view.go:50",#[],none⟩ HS5.out ?_;simp only [Act.put,sA,s0,sS]
          refine lk ⟨some 30,.load 3 (.tmp 29),3, "view.go:50",#[⟨5,.data⟩],none⟩ HS5.out ?_;simp only [Act.put,sA,s0,sS]
          refine lk ⟨some 31,.indexAddr 181 (.tmp 28) (.tmp 30),0, "view.go:50",#[⟨4,.data⟩,⟨6,.data⟩],none⟩ HS5.out ?_;simp only [Act.put,sA,s0,sS]
          refine lk ⟨some 32,.load 205 (.tmp 31),205, "view.go:50",#[⟨7,.data⟩],none⟩ HS5.out ?_;simp only [Act.put,sA,s0,sS]
          refine wpL_one (o:=⟨some 33,.call ⟨.value (.func 174),#[.tmp 24,.tmp 32],#[205,205]⟩,4, "view.go:50",#[⟨0,.data⟩,⟨8,.data⟩],none⟩) (by decide) (by kernel_rfl) rfl (fun K hK=>?_)
          go_simp
          refine HJN.out.mono ?_
          rintro e w2 ⟨rfl,hF,hS2⟩
          refine hK.out _ _ (fun _=>hS2) ?_
          clear hK
          refine lk ⟨some 34,.move (.tmp 33),4, "view.go:50",#[⟨9,.data⟩,⟨9,.chain⟩],none⟩ hS2 ?_;simp only [Act.put,sA,s0,sS]
          refine lu ⟨some 35,.move (.tmp 6),4, "view.go:50",#[⟨10,.guard⟩],some (10,false)⟩ hS2 ?_;simp only [Act.put,sA,s0,sS]
          refine lk ⟨some 36,.pick (.tmp 34) (.const (.bool true)) (.tmp 35),4, "view.go:50",#[⟨10,.data⟩,⟨11,.data⟩],none⟩ hS2 ?_;simp only [Act.put,sA,s0,sS]
          refine lk ⟨some 6,.assign (.tmp 36),4, "view.go:50",#[⟨12,.data⟩,⟨10,.chain⟩,⟨0,.phase⟩,⟨1,.phase⟩,⟨2,.phase⟩,⟨3,.phase⟩,⟨4,.phase⟩,⟨5,.phase⟩,⟨6,.phase⟩,⟨7,.phase⟩,⟨8,.phase⟩,⟨9,.phase⟩,⟨10,.phase⟩,⟨11,.phase⟩,⟨12,.phase⟩],none⟩ hS2 ?_;simp only [Act.put,sA,s0,sS]
          refine wpAnyL_done (by kernel_rfl) ?_ _
          all_goals
            have hb2:But (fun k=>k=c) w w2:=(HB4.out.drew).trans hF.out.2
            have hA2:=hF.out.1
            have V2:=(HV.out _ hb2).c3
            have E2:=(HE.out _ hb2).cell hqn
            have Z2:=hS2.2.1
            have HFF:Hid (SetB c m A2 w2∧But (fun k=>k=c) w w2):=⟨hA2,hb2⟩
            clear hS2 hF hb2 hA2 HJN HS5
            cases ho:onb L q with
            | true =>
              rw [ho] at E2 HRB
              have HRE2:Hid (RES=((begW (WR R) (onb L) A2 (symsN f.n (l.drop (j+1)))).1,true || (begW (WR R) (onb L) A2 (symsN f.n (l.drop (j+1)))).2.1,(begW (WR R) (onb L) A2 (symsN f.n (l.drop (j+1)))).2.2)):=by
                have:=HRE.out
                rw [HRB.out,if_pos rfl] at this
                show _=_
                rw [this]
                simp
              clear HRE HRB
              go_wp2_with fail
              go_big_quiet (fail)
              go_wp2_with fail
              exact ⟨⟨j+1,A2,true,by go_num,by omega,rfl,HFF.out.1,HFF.out.2.drewN _,HSU2.out,HRE2.out⟩,by simp [intOf]; omega⟩
            | false =>
              rw [ho] at E2 HRB
              have HRE2:Hid (RES=(A2,true,false)):=by
                have:=HRE.out
                rw [HRB.out,if_neg (by simp)] at this
                show _=_
                rw [this]
                simp
              clear HRE HRB
              go_wp2_with fail
              go_big_quiet (fail)
              go_wp2_with fail
              refine bodyPost_ret (v:=.tuple #[.bool true,.bool false]) (by simp [results,Tryz.f155,go_sem]) rfl ?_
              rw [HRE2.out]
              exact ⟨rfl,HFF.out.1,HFF.out.2.drewN _⟩
        | false =>
          go_wp2_with fail
          go_region_held3 (fun W=>W.cell? ⟨V,4,none⟩=some (.slice (some ⟨G,0,none⟩) f.n f.n)∧W.cell? ⟨Z,0,none⟩=some (.int .i64 q)∧W.cell? ⟨G,q,none⟩=some (.slice (some ⟨bq,0,none⟩) m m)) (first | exact HS5.out | assumption) (first
            | (go_at_call 174; refine HJN.out.mono ?_; rintro e w2 ⟨rfl,hF,hS2⟩))
          all_goals
            have hb2:But (fun k=>k=c) w w2:=(HB4.out.drew).trans hF.out.2
            have hA2:=hF.out.1
            have V2:=(HV.out _ hb2).c3
            have E2:=(HE.out _ hb2).cell hqn
            have Z2:=hS2.2.1
            have HFF:Hid (SetB c m A2 w2∧But (fun k=>k=c) w w2):=⟨hA2,hb2⟩
            clear hS2 hF hb2 hA2 HJN HS5
            cases ho:onb L q with
            | true =>
              rw [ho] at E2 HRB
              have HRE2:Hid (RES=((begW (WR R) (onb L) A2 (symsN f.n (l.drop (j+1)))).1,gb || (begW (WR R) (onb L) A2 (symsN f.n (l.drop (j+1)))).2.1,(begW (WR R) (onb L) A2 (symsN f.n (l.drop (j+1)))).2.2)):=by
                have:=HRE.out
                rw [HRB.out,if_pos rfl] at this
                show _=_
                rw [this]
                simp
              clear HRE HRB
              go_wp2_with fail
              go_big_quiet (fail)
              go_wp2_with fail
              exact ⟨⟨j+1,A2,gb,by go_num,by omega,rfl,HFF.out.1,HFF.out.2.drewN _,HSU2.out,HRE2.out⟩,by simp [intOf]; omega⟩
            | false =>
              rw [ho] at E2 HRB
              have HRE2:Hid (RES=(A2,gb,false)):=by
                have:=HRE.out
                rw [HRB.out,if_neg (by simp)] at this
                show _=_
                rw [this]
                simp
              clear HRE HRB
              go_wp2_with fail
              go_big_quiet (fail)
              go_wp2_with fail
              refine bodyPost_ret (v:=.tuple #[.bool gb,.bool false]) (by simp [results,Tryz.f155,go_sem]) rfl ?_
              rw [HRE2.out]
              exact ⟨rfl,HFF.out.1,HFF.out.2.drewN _⟩
    · rw [show decide (0≤x∧x<(f.n:Int))=false from decide_eq_false hx] at cJ
      go_region_held3 (fun W=>W.cell? ⟨V,0,none⟩=some (.slice ta f.terms.length tc)∧W.cell? ⟨V,1,none⟩=some (.slice na f.nons.length nc)∧W.cell? ⟨V,2,none⟩=some (.slice pa f.prods.length pc)∧W.cell? ⟨Z,0,none⟩=some (.int .i64 x)∧Below Wp.heap.size Wp W) (first | exact HS0.out | assumption) (first
        | (go_at_call 168; refine (cJ _ (by assumption)).mono ?_; rintro e w' ⟨rfl,hS⟩))
      all_goals
        have HF:Hid (SetB c m A w'∧But (fun k=>k=c) w w'):=⟨HAp.out.but (D:=fun _=>False) (But.of_next hS.2.2.2.2) (fun h=>h),hBp.trans (But.of_next hS.2.2.2.2)⟩
        rw [symsN_cons_no (by simp only; omega)] at HRE
        clear hS HS0 hz v0 v1 v2 v3 v4 cJ hBp
        go_wp2_with fail
        exact ⟨⟨j+1,A,gb,by go_num,by omega,rfl,HF.out.1,HF.out.2,HSU.out,HRE.out⟩,by simp [intOf]; omega⟩
  · obtain rfl:j=l.length:=by omega
    rw [List.drop_length] at hres
    have HRE:Hid (RES=(A,gb,true)):=by
      show _=_
      rw [hres]
      simp [symsN,begW]
    clear hres
    go_wp2_with fail
    refine bodyPost_ret (v:=.tuple #[.bool gb,.bool true]) (by simp [results,Tryz.f155,go_sem]) rfl ?_
    rw [HRE.out]
    exact ⟨rfl,hA,hB⟩
theorem SlT.next' {l:List It} {v:Value} {W W':World} (h:SlT l v W) (hb:But (fun _=>False) W W'):SlT l v W' :=
  h.next ⟨hb.os,hb.tape,hb.output,hb.size,fun k hk=>hb.block k hk (fun h=>h)⟩
set_option maxRecDepth 100000 in
set_option maxHeartbeats 1000000 in
theorem viewOf1_any (f:Fl) (a:FlA) (V E G m KB l:Nat) (bs:List Nat) (R:List (List Nat)) (L:List Bool) (r:List It) (vr:Value) (w:World) (hn:f.n≤600) (hm:m≤20)
    (hK:w.cell? ⟨KB,0,none⟩=some (.pointer (some ⟨V,0,none⟩))) (hV:VAt f a V E G w) (hE:RowK E f.n L w) (hS:SetsB G m bs R w) (hR:WOk m f.n R) (hl:l<f.n) (hv:SlT r vr w) (hr:r.length≤64)
    (hKb:KB ∉ bs) (hVb:V ∉ bs) (hEb:E ∉ bs) (hvb:∀ (b:Nat) (ao:Addr),vr=.slice (some ao) r.length b→r≠[]→ao.block ∉ bs) :
    Calls Tryz.prog 154 #[.int .i64 l,vr,.pointer (some ⟨KB,0,none⟩)] w fun e w'=>e=.returned (.bool (begW (WR R) (onb L) (WR R l) (symsN f.n r)).2.1)∧SetsB G m bs (R.set l (begW (WR R) (onb L) (WR R l) (symsN f.n r)).1) w'∧But (fun k=>k=bs.getD l 0) w w':=by
  have hlR:l<R.length:=by rw [hR.len]; exact hl
  have hmem:=hS.mem hlR
  have HB:Hid (∀ W,But (fun _=>False) w W→Calls Tryz.prog 155 #[.pointer (some ⟨V,0,none⟩),.slice (some ⟨bs.getD l 0,0,none⟩) m m,vr] W fun e w'=>e=.returned (.tuple #[.bool (begW (WR R) (onb L) (WR R l) (symsN f.n r)).2.1,.bool (begW (WR R) (onb L) (WR R l) (symsN f.n r)).2.2])∧SetB (bs.getD l 0) m (begW (WR R) (onb L) (WR R l) (symsN f.n r)).1 w'∧But (fun k=>k=bs.getD l 0) W w'):=fun W hb =>
    begin_any f a V E G m (bs.getD l 0) bs R L (WR R l) r vr W hn hm (hV.but hb (fun h=>h)) (hE.but hb (fun h=>h)) (hS.but hb (fun h=>h) (fun _ _ h=>h)) hR ((hS.each l hlR).but hb (fun h=>h)) (hv.next' hb) (by omega)
      (fun e=>hVb (e ▸ hmem)) (fun e=>hEb (e ▸ hmem)) (fun e=>hS.out (e ▸ hmem)) (fun b ao h1 h2 e=>hvb b ao h1 h2 (e ▸ hmem)) (fun s hs e=>by rw [hS.inj (by rw [hR.len]; exact hs) hlR e])
  have HT:Hid (∀ A w',But (fun k=>k=bs.getD l 0) w w'→SetB (bs.getD l 0) m A w'→SetsB G m bs (R.set l A) w'):=fun A w' hb hA=>hS.turn hlR hb hA
  have hGc:=hS.cell hlR
  have hGl:=hS.lt
  have hVl:=hV.lt
  have hKl:=World.block_lt_of_cell? w _ hK
  have n1:KB≠bs.getD l 0:=fun e=>hKb (e ▸ hmem)
  have n2:V≠bs.getD l 0:=fun e=>hVb (e ▸ hmem)
  have n3:G≠bs.getD l 0:=fun e=>hS.out (e ▸ hmem)
  have hV4:=hV.c4
  obtain ⟨va,vc,rfl,_⟩:=hv
  generalize bs.getD l 0=c at *
  obtain ⟨RES,hRES⟩:∃ RES,begW (WR R) (onb L) (WR R l) (symsN f.n r)=RES:=⟨_,rfl⟩
  rw [hRES] at HB ⊢
  clear hRES hV hE hS hR hVb hEb hvb hmem
  have HS0:Hid ((fun W=>W.cell? ⟨KB,0,none⟩=some (.pointer (some ⟨V,0,none⟩))∧W.cell? ⟨V,4,none⟩=some (.slice (some ⟨G,0,none⟩) f.n f.n)∧W.cell? ⟨G,l,none⟩=some (.slice (some ⟨c,0,none⟩) m m)) w.drew):=⟨hK,hV4,hGc⟩
  have HC:Hid (Calls Tryz.prog 155 #[.pointer (some ⟨V,0,none⟩),.slice (some ⟨c,0,none⟩) m m,.slice va r.length vc] w.drew fun e w'=>e=.returned (.tuple #[.bool RES.2.1,.bool RES.2.2])∧Hid (SetsB G m bs (R.set l RES.1) w'∧But (fun k=>k=c) w w')∧(fun W=>W.cell? ⟨KB,0,none⟩=some (.pointer (some ⟨V,0,none⟩))∧W.cell? ⟨V,4,none⟩=some (.slice (some ⟨G,0,none⟩) f.n f.n)∧W.cell? ⟨G,l,none⟩=some (.slice (some ⟨c,0,none⟩) m m)) w'):=by
    refine (HB.out w.drew (But.refl _ w).drew).mono ?_
    rintro e w' ⟨rfl,h1,h2⟩
    have h3:But (fun k=>k=c) w w':=((But.refl _ w).drew).trans h2
    exact ⟨rfl,⟨HT.out _ _ h3 h1,h3⟩,(h3.cell (p:=⟨KB,0,none⟩) hKl n1).trans hK,(h3.cell (p:=⟨V,4,none⟩) hVl n2).trans hV4,(h3.cell (p:=⟨G,l,none⟩) hGl n3).trans hGc⟩
  generalize RES.2.1=b1 at *
  generalize RES.2.2=b2 at *
  clear HB HT
  go_enter Tryz.func154,Tryz.ntmps154
  go_wp2_with fail
  go_region_held3 (fun W=>W.cell? ⟨KB,0,none⟩=some (.pointer (some ⟨V,0,none⟩))∧W.cell? ⟨V,4,none⟩=some (.slice (some ⟨G,0,none⟩) f.n f.n)∧W.cell? ⟨G,l,none⟩=some (.slice (some ⟨c,0,none⟩) m m)) (first | exact HS0.out | assumption) (first
    | (go_at_call 155; refine HC.out.mono ?_; rintro e w2 ⟨rfl,hF,hS2⟩))
  all_goals
    clear hS2
    go_wp2_with fail
    go_ret
    exact ⟨rfl,hF.out.1,hF.out.2⟩
structure VOk (f:Fl) (a:FlA) (m:Nat) (w:World) (V E G:Nat) (bs:List Nat) (L:List Bool) (R:List (List Nat)) (W:World):Prop where
  v:VAt f a V E G W
  e:RowK E f.n L W
  s:SetsB G m bs R W
  vb:V ∉ bs
  eb:E ∉ bs
  vl:w.heap.size≤V
  el:w.heap.size≤E
  gl:w.heap.size≤G
  bl:∀ b∈bs,w.heap.size≤b
  ve:V≠E
  vg:V≠G
  eg:E≠G
  below:Below w.heap.size w W
theorem VOk.next {f a m w V E G bs L R W W'} (h:VOk f a m w V E G bs L R W) (hb:Below W.heap.size W W'):VOk f a m w V E G bs L R W' :=
  ⟨h.v.but (D:=fun _=>False) (But.of_next hb) (fun h=>h),h.e.next hb,h.s.but (D:=fun _=>False) (But.of_next hb) (fun h=>h) (fun _ _ h=>h),h.vb,h.eb,h.vl,h.el,h.gl,h.bl,h.ve,h.vg,h.eg,below_then h.below hb h.below.size⟩
structure VNew (f:Fl) (a:FlA) (m:Nat) (w:World) (KB V E G:Nat) (bs:List Nat) (L:List Bool) (R:List (List Nat)) (W:World):Prop where
  ok:VOk f a m w V E G bs L R W
  k:W.cell? ⟨KB,0,none⟩=some (.pointer (some ⟨V,0,none⟩))
  kb:KB ∉ bs
  ke:KB≠E
  kg:KB≠G
  kv:KB≠V
  kl:w.heap.size≤KB
theorem view_made {f:Fl} {a:FlA} {m:Nat} {W1 W2 W w3 W4:World} {KB V E G K:Nat} {bs:List Nat} {L:List Bool} {R:List (List Nat)} (hb1:Below W1.heap.size W1 w3) (h1:W1.heap.size≤K) (h2:K≤E) (h3:E<W2.heap.size) (h4:W2.heap.size≤W.heap.size) (h5:W.heap.size≤G) (h6:∀ b∈bs,W.heap.size≤b)
    (hE:RowK E f.n L w3) (hS:SetsB G m bs R w3) (hB:But (fun k=>k=KB) w3 W4) (hV:VAt f a V E G W4) (hK:W4.cell? ⟨KB,0,none⟩=some (.pointer (some ⟨V,0,none⟩))) (hVl:w3.heap.size≤V) (hKV:KB≠V) (hK1:W1.heap.size≤KB)
    (hKK:w3.heap.size≤KB∨(KB=W1.heap.size∧W1.heap.size<K)∨(KB=W2.heap.size∧W2.heap.size<W.heap.size)):VNew f a m W1 KB V E G bs L R W4:=by
  have hEl:=hE.lt
  have hGl:=hS.lt
  have hbs:∀ b∈bs,b<w3.heap.size:=fun b hb=>by
    obtain ⟨i,hi,rfl⟩:=List.getElem_of_mem hb
    have:=(hS.each i (by rw [← hS.len]; exact hi)).lt
    rwa [List.getD_eq_getElem?_getD,List.getElem?_eq_getElem hi] at this
  have nKb:KB ∉ bs:=fun hb=>by have:=hbs _ hb; have:=h6 _ hb; omega
  have nE:¬ E=KB:=by omega
  have nG:¬ G=KB:=by omega
  exact ⟨⟨hV,hE.but hB nE,hS.but hB nG (fun b hb e=>nKb (e ▸ hb)),fun hb=>by have:=hbs _ hb; omega,fun hb=>by have:=h6 _ hb; omega,by omega,by omega,by omega,fun b hb=>by have:=h6 _ hb; omega,by omega,by omega,by omega,hb1.trans (hB.below hb1.size (fun k hk=>by rw [hk]; exact hK1))⟩,hK,nKb,fun e=>nE e.symm,fun e=>nG e.symm,hKV,hK1⟩
theorem SetsB.blk {G m bs R W} (h:SetsB G m bs R W):∀ b∈bs,b<W.heap.size:=fun b hb=>by
  obtain ⟨i,hi,rfl⟩:=List.getElem_of_mem hb
  have:=(h.each i (by rw [← h.len]; exact hi)).lt
  rwa [List.getD_eq_getElem?_getD,List.getElem?_eq_getElem hi] at this
theorem VNew.keep {f a m w KB V E G bs L R W W'} {n:Nat} (h:VNew f a m w KB V E G bs L R W) (hb:Below n W W') (hn:w.heap.size≤n) (h1:KB<n) (h2:V<n) (h3:E<n) (h4:G<n) (h5:∀ b∈bs,b<n):VNew f a m w KB V E G bs L R W':=by
  have hB:=But.of_below hb
  exact ⟨⟨h.ok.v.but hB (by omega),h.ok.e.but hB (by omega),h.ok.s.but hB (by omega) (fun b hb'=>by have:=h5 b hb'; omega),h.ok.vb,h.ok.eb,h.ok.vl,h.ok.el,h.ok.gl,h.ok.bl,h.ok.ve,h.ok.vg,h.ok.eg,h.ok.below.trans (hb.mono hn)⟩,(hb.cell (p:=⟨KB,0,none⟩) h1).trans h.k,h.kb,h.ke,h.kg,h.kv,h.kl⟩
theorem VNew.turn {f a m w KB V E G bs L R W W' l A} (h:VNew f a m w KB V E G bs L R W) (hl:l<R.length) (hb:But (fun k=>k=bs.getD l 0) W W') (hA:SetB (bs.getD l 0) m A W'):VNew f a m w KB V E G bs L (R.set l A) W':=by
  have hm:=h.ok.s.mem hl
  refine ⟨⟨h.ok.v.but hb (fun e=>h.ok.vb (e ▸ hm)),h.ok.e.but hb (fun e=>h.ok.eb (e ▸ hm)),h.ok.s.turn hl hb hA,h.ok.vb,h.ok.eb,h.ok.vl,h.ok.el,h.ok.gl,h.ok.bl,h.ok.ve,h.ok.vg,h.ok.eg,below_but h.ok.below hb (fun k hk=>by rw [hk]; exact h.ok.bl _ hm)⟩,(hb.cell (p:=⟨KB,0,none⟩) (World.block_lt_of_cell? W _ h.k) (fun e=>h.kb (by rw [show KB=bs.getD l 0 from e]; exact hm))).trans h.k,h.kb,h.ke,h.kg,h.kv,h.kl⟩
theorem viewSettle (f:Fl) (a:FlA) (m:Nat) (w0:World) (KB V E G:Nat) (bs:List Nat) (L:List Bool) (R:List (List Nat)) (W:World) (hp:FitP f) (hf0:FlAt f a w0) (hm:m≤20) (hV:VNew f a m w0 KB V E G bs L R W) (hL:GivesB (fun s=>false=true∧s<f.terms.length) f.gr f.n L) (hR:StW f m R) :
    Calls Tryz.prog 147 #[a.val f,.func (.func 154) #[] #[.pointer (some ⟨KB,0,none⟩)]] W fun e w'=>(∃ v,e=.returned v)∧∃ R',VNew f a m w0 KB V E G bs L R' w'∧StW f m R'∧∀ q∈f.gr,ClosF f R' q:=by
  have hVl:=hV.ok.v.lt
  have hEl:=hV.ok.e.lt
  have hGl:=hV.ok.s.lt
  have hbl:=hV.ok.s.blk
  have hKl:=World.block_lt_of_cell? W _ hV.k
  have hn:f.n≤600:=hp.size
  have hEmp:∀ s,s<f.n→(onb L s=true↔EmpP f s):=fun s hs=>by
    rw [onb_iff,hL.2 s hs]
    have e:(fun s=>false=true∧s<f.terms.length)=fun _=>False:=by funext s; simp
    rw [e]
    exact Iff.rfl
  have hcell:∀ j (hj:j<f.prods.length) v,(∃ pb off,a.pa=some ⟨pb,off,none⟩∧W.cell? ⟨pb,off+j * 3+1,none⟩=some v)→SlT f.prods[j].right v w0:=fun j hj v ⟨pb,off,h1,h2⟩=>by
    obtain ⟨b,off',v',e,hb,_,k1,_,hv,_⟩:=hf0.2.2.1.at (Below.refl _ _) hj
    rw [h1] at e; cases e
    rw [hV.ok.below.cell (p:=⟨pb,off+j * 3+1,none⟩) hb,k1] at h2
    cases h2; exact hv
  refine (settle_any (σ:=List (List Nat)) f a 154 #[.pointer (some ⟨KB,0,none⟩)] (enters_of Tryz.func154 (by kernel_rfl) rfl)
    (fun R X=>VNew f a m w0 KB V E G bs L R X∧StW f m R) (fun k=>k∈bs) (fun R=>f.n * (64 * m) - bulkW R) (fun j R=>∀ q,f.gr[j]?=some q→ClosF f R q) W hp (fun R X h=>hf0.next h.1.ok.below)
    (fun R X X' h hb=>⟨h.1.keep hb hV.ok.below.size hKl hVl hEl hGl hbl,h.2⟩) (fun k hk=>hbl k hk) ?hDa ?hg R ⟨hV,hR⟩).mono ?_
  case hDa =>
    intro hpos ad had hk
    obtain ⟨b,off,v,e,hb,_⟩:=hf0.2.2.1.at (Below.refl _ _) hpos
    rw [e] at had; cases had
    have:=hV.ok.bl _ hk
    simp only at this
    omega
  case hg =>
    rintro j hj R X v ⟨hX,hR⟩ hv hz hpv
    have hv0:=hcell j hj v hpv
    have hlf:=hp.left _ (List.getElem_mem hj)
    have hsy:∀ x∈f.prods[j].right,0≤x.sym∧x.sym<(f.n:Int):=fun x hx=>hp.sym _ (List.getElem_mem hj) x hx
    have hq:f.gr[j]?=some (f.prods[j].left.toNat,f.prods[j].syms):=by unfold Fl.gr; rw [List.getElem?_map,List.getElem?_eq_getElem hj]; rfl
    have hmem:=gr_mem hj
    obtain ⟨l,hl⟩:∃ l:Nat,f.prods[j].left=l:=⟨f.prods[j].left.toNat,by omega⟩
    have hln:l<f.n:=by unfold Fl.n; omega
    rw [hl,Int.toNat_natCast] at hq hmem
    rw [hl]
    have hlR:l<R.length:=by rw [hR.ok.len]; exact hln
    refine (viewOf1_any f a V E G m KB l bs R L f.prods[j].right v X hn hm hX.k hX.ok.v hX.ok.e hX.ok.s hR.ok hln hv (hp.right _ (List.getElem_mem hj)) hX.kb hX.ok.vb hX.ok.eb (fun b ao e hne=>?_)).mono ?_
    · obtain ⟨ao',cap,e',hI,_⟩:=hv0
      rw [e] at e'
      cases e'
      intro hk
      obtain ⟨b',off',e2,hb',_⟩:=hI.at (Below.refl _ _) (j:=0) (List.length_pos_iff.2 hne)
      cases e2
      have:=hX.ok.bl _ hk
      simp only at this
      omega
    · rintro e X' ⟨rfl,h1,h2⟩
      rw [symsN_all hsy] at h1 ⊢
      have hst:=hR.step hEmp hmem hln (fun x hx=>by
        obtain ⟨y,hy,rfl⟩:=List.mem_map.1 hx
        have:=hsy y hy
        omega)
      have hsym:f.prods[j].syms=f.prods[j].right.map fun x=>x.sym.toNat:=rfl
      rw [hsym] at hst
      have hB:But (fun k=>k∈bs) X X':=h2.mono (fun k _ hk=>by rw [hk]; exact hX.ok.s.mem hlR)
      have hXX:VNew f a m w0 KB V E G bs L (R.set l (begW (WR R) (onb L) (WR R l) (f.prods[j].right.map fun x=>x.sym.toNat)).1) X':=by
        have he:=h1.each l (by rw [List.length_set]; exact hlR)
        rw [WR_set hlR,if_pos rfl] at he
        exact hX.turn hlR h2 he
      refine ⟨_,_,rfl,⟨hXX,hst.1⟩,hB,fun hb=>?_,fun hb=>⟨(hst.2.2 hb).1,fun q hq'=>?_⟩⟩
      · have k1:=hst.2.1 hb
        have k2:=bulkW_max hst.1.ok
        omega
      · rw [hq] at hq'; cases hq'
        exact (hst.2.2 hb).2
  · rintro e X ⟨he,R',⟨k1,k2⟩,hcl,_⟩
    refine ⟨he,R',k1,k2,fun q hq=>?_⟩
    obtain ⟨j,hj,rfl⟩:=List.getElem_of_mem hq
    exact hcl j (by simpa [Fl.gr] using hj) _ (List.getElem?_eq_getElem hj)
set_option maxRecDepth 100000 in
set_option maxHeartbeats 1000000 in
theorem viewOf_any (f:Fl) (a:FlA) (w:World) (hf:FlAt f a w) (hp:FitP f) :
    Calls Tryz.prog 126 #[a.val f] w fun e w'=>∃ V E G bs L R,e=.returned (.pointer (some ⟨V,0,none⟩))∧VOk f a (f.terms.length / 64+1) w V E G bs L R w'∧GivesB (fun s=>false=true∧s<f.terms.length) f.gr f.n L∧StW f (f.terms.length / 64+1) R∧∀ q∈f.gr,ClosF f R q:=by
  have hn:f.n≤600:=hp.size
  have HD:Hid (∀ W,Below w.heap.size w W→Calls Tryz.prog 124 #[a.val f,.bool false] W fun e w'=>∃ G L,e=.returned (.slice (some ⟨G,0,none⟩) f.n f.n)∧W.heap.size≤G∧RowK G f.n L w'∧GivesB (fun s=>false=true∧s<f.terms.length) f.gr f.n L∧Below W.heap.size W w'):=fun W hb=>derived_any f a false W (hf.next hb) hp
  have HNS:Hid (∀ W,Calls Tryz.prog 152 #[a.val f] W fun e w'=>∃ G bs,e=.returned (.slice (some ⟨G,0,none⟩) f.n f.n)∧W.heap.size≤G∧(∀ b∈bs,W.heap.size≤b)∧SetsB G (f.terms.length / 64+1) bs (List.replicate f.n (List.replicate (f.terms.length / 64+1) 0)) w'∧Below W.heap.size W w'):=fun W=>newSets_any f a W hp
  obtain ⟨ta,tc,na,nc,pa,pc⟩:=a
  unfold FlA.val at HD HNS ⊢
  simp only at *
  have X0:=FBox.new f ⟨ta,tc,na,nc,pa,pc⟩ 25 w
  have B0:Below w.heap.size w (w.alloc (fobj f ⟨ta,tc,na,nc,pa,pc⟩ 25)):=(Below.refl _ _).alloc (Nat.le_refl _) _
  unfold fobj at X0 B0
  simp only at X0 B0
  obtain ⟨W1,hW1⟩:∃ W1,(w.alloc (Obj.cells #[Value.slice ta f.terms.length tc,Value.slice na f.nons.length nc,Value.slice pa f.prods.length pc] 25))=W1:=⟨_,rfl⟩
  rw [hW1] at X0 B0
  have HW1:Hid ((w.alloc (Obj.cells #[Value.slice ta f.terms.length tc,Value.slice na f.nons.length nc,Value.slice pa f.prods.length pc] 25))=W1):=hW1
  clear hW1
  obtain ⟨x0,x1,x2,x3⟩:=X0
  simp only at x1 x2 x3
  have htn:f.terms.length≤f.n:=by unfold Fl.n; omega
  have hm20:f.terms.length / 64+1≤20:=by omega
  have hm64:f.terms.length<64 * (f.terms.length / 64+1):=by omega
  have HSET:Hid (∀ KB V E G bs L W,VNew f ⟨ta,tc,na,nc,pa,pc⟩ (f.terms.length / 64+1) W1 KB V E G bs L (putsTo (f.terms.length / 64+1) f.n f.terms.length) W→GivesB (fun s=>false=true∧s<f.terms.length) f.gr f.n L→Calls Tryz.prog 147 #[.agg #[Value.slice ta f.terms.length tc,Value.slice na f.nons.length nc,Value.slice pa f.prods.length pc],.func (.func 154) #[] #[.pointer (some ⟨KB,0,none⟩)]] W fun e w'=>(∃ v,e=.returned v)∧∃ R',VNew f ⟨ta,tc,na,nc,pa,pc⟩ (f.terms.length / 64+1) W1 KB V E G bs L R' w'∧StW f (f.terms.length / 64+1) R'∧∀ q∈f.gr,ClosF f R' q):=fun KB V E G bs L W h1 h2 =>
    viewSettle f ⟨ta,tc,na,nc,pa,pc⟩ _ W1 KB V E G bs L _ W hp (hf.next B0) hm20 h1 h2 putsTo_ok
  generalize f.terms.length / 64+1=m at *
  have HS0:Hid ((fun W=>W.cell? ⟨w.heap.size,0,none⟩=some (.slice ta f.terms.length tc)∧W.cell? ⟨w.heap.size,1,none⟩=some (.slice na f.nons.length nc)∧W.cell? ⟨w.heap.size,2,none⟩=some (.slice pa f.prods.length pc)∧Below W1.heap.size W1 W) W1.drew):=⟨x1,x2,x3,(Below.refl _ _).drew⟩
  have hstep:∀ W W',(fun W=>W.cell? ⟨w.heap.size,0,none⟩=some (.slice ta f.terms.length tc)∧W.cell? ⟨w.heap.size,1,none⟩=some (.slice na f.nons.length nc)∧W.cell? ⟨w.heap.size,2,none⟩=some (.slice pa f.prods.length pc)∧Below W1.heap.size W1 W) W→Below W.heap.size W W'→(fun W=>W.cell? ⟨w.heap.size,0,none⟩=some (.slice ta f.terms.length tc)∧W.cell? ⟨w.heap.size,1,none⟩=some (.slice na f.nons.length nc)∧W.cell? ⟨w.heap.size,2,none⟩=some (.slice pa f.prods.length pc)∧Below W1.heap.size W1 W) W':=by
    rintro W W' ⟨y0,y1,y2,y3⟩ hb'
    have hsz:=y3.size
    exact ⟨(hb'.cell (p:=⟨w.heap.size,0,none⟩) (by show w.heap.size<_; omega)).trans y0,(hb'.cell (p:=⟨w.heap.size,1,none⟩) (by show w.heap.size<_; omega)).trans y1,(hb'.cell (p:=⟨w.heap.size,2,none⟩) (by show w.heap.size<_; omega)).trans y2,below_then y3 hb' hsz⟩
  have cD:∀ W,(fun W=>W.cell? ⟨w.heap.size,0,none⟩=some (.slice ta f.terms.length tc)∧W.cell? ⟨w.heap.size,1,none⟩=some (.slice na f.nons.length nc)∧W.cell? ⟨w.heap.size,2,none⟩=some (.slice pa f.prods.length pc)∧Below W1.heap.size W1 W) W→Calls Tryz.prog 124 #[.agg #[Value.slice ta f.terms.length tc,Value.slice na f.nons.length nc,Value.slice pa f.prods.length pc],.bool false] W fun e w'=>∃ E L,e=.returned (.slice (some ⟨E,0,none⟩) f.n f.n)∧Hid (W1.heap.size≤W.heap.size∧W.heap.size≤E∧RowK E f.n L w'∧GivesB (fun s=>false=true∧s<f.terms.length) f.gr f.n L)∧Below W.heap.size W w'∧(fun W=>W.cell? ⟨w.heap.size,0,none⟩=some (.slice ta f.terms.length tc)∧W.cell? ⟨w.heap.size,1,none⟩=some (.slice na f.nons.length nc)∧W.cell? ⟨w.heap.size,2,none⟩=some (.slice pa f.prods.length pc)∧Below W1.heap.size W1 W) w':=by
    intro W hS
    refine (HD.out W (below_then B0 hS.2.2.2 B0.size)).mono ?_
    rintro e w' ⟨E,L,rfl,h1,h2,h3,h4⟩
    exact ⟨E,L,rfl,⟨hS.2.2.2.size,h1,h2,h3⟩,h4,hstep _ _ hS h4⟩
  have cN:∀ W W2 E L K,(fun W=>W.cell? ⟨w.heap.size,0,none⟩=some (.slice ta f.terms.length tc)∧W.cell? ⟨w.heap.size,1,none⟩=some (.slice na f.nons.length nc)∧W.cell? ⟨w.heap.size,2,none⟩=some (.slice pa f.prods.length pc)∧Below W1.heap.size W1 W) W→Hid (W1.heap.size≤K∧K≤E∧RowK E f.n L W2∧GivesB (fun s=>false=true∧s<f.terms.length) f.gr f.n L)→Below W2.heap.size W2 W→Calls Tryz.prog 152 #[.agg #[Value.slice ta f.terms.length tc,Value.slice na f.nons.length nc,Value.slice pa f.prods.length pc]] W fun e w'=>∃ G bs,e=.returned (.slice (some ⟨G,0,none⟩) f.n f.n)∧Hid (W1.heap.size≤K∧K≤E∧E<W2.heap.size∧W2.heap.size≤W.heap.size∧W.heap.size≤G∧(∀ b∈bs,W.heap.size≤b)∧RowK E f.n L w'∧GivesB (fun s=>false=true∧s<f.terms.length) f.gr f.n L∧SetsB G m bs (List.replicate f.n (List.replicate m 0)) w')∧Below W.heap.size W w'∧(fun W=>W.cell? ⟨w.heap.size,0,none⟩=some (.slice ta f.terms.length tc)∧W.cell? ⟨w.heap.size,1,none⟩=some (.slice na f.nons.length nc)∧W.cell? ⟨w.heap.size,2,none⟩=some (.slice pa f.prods.length pc)∧Below W1.heap.size W1 W) w':=by
    intro W W2 E L K hS hG hb
    refine (HNS.out W).mono ?_
    rintro e w' ⟨G,bs,rfl,h1,h2,h3,h4⟩
    obtain ⟨k1,k2,k3,k4⟩:=hG.out
    exact ⟨G,bs,rfl,⟨k1,k2,k3.lt,hb.size,h1,h2,(k3.next hb).next h4,k4,h3⟩,h4,hstep _ _ hS h4⟩
  have hal:∀ W o,(fun W=>W.cell? ⟨w.heap.size,0,none⟩=some (.slice ta f.terms.length tc)∧W.cell? ⟨w.heap.size,1,none⟩=some (.slice na f.nons.length nc)∧W.cell? ⟨w.heap.size,2,none⟩=some (.slice pa f.prods.length pc)∧Below W1.heap.size W1 W) W→(fun W=>W.cell? ⟨w.heap.size,0,none⟩=some (.slice ta f.terms.length tc)∧W.cell? ⟨w.heap.size,1,none⟩=some (.slice na f.nons.length nc)∧W.cell? ⟨w.heap.size,2,none⟩=some (.slice pa f.prods.length pc)∧Below W1.heap.size W1 W) (World.alloc W o):=fun W o hS=>hstep _ _ hS ((Below.refl _ _).alloc (Nat.le_refl _) _)
  have hset:∀ W (p:Addr) v,(fun W=>W.cell? ⟨w.heap.size,0,none⟩=some (.slice ta f.terms.length tc)∧W.cell? ⟨w.heap.size,1,none⟩=some (.slice na f.nons.length nc)∧W.cell? ⟨w.heap.size,2,none⟩=some (.slice pa f.prods.length pc)∧Below W1.heap.size W1 W) W→W1.heap.size≤p.block→(fun W=>W.cell? ⟨w.heap.size,0,none⟩=some (.slice ta f.terms.length tc)∧W.cell? ⟨w.heap.size,1,none⟩=some (.slice na f.nons.length nc)∧W.cell? ⟨w.heap.size,2,none⟩=some (.slice pa f.prods.length pc)∧Below W1.heap.size W1 W) (World.setCell W p v):=by
    rintro W p v ⟨y0,y1,y2,y3⟩ hp'
    have e:∀ {o u},W.cell? ⟨w.heap.size,o,none⟩=some u→(W.setCell p v).cell? ⟨w.heap.size,o,none⟩=some u:=fun {o u} hu=>(World.cell?_of_block (w:=W) (Below.heap_setCell W p v w.heap.size (by omega))).trans hu
    exact ⟨e y0,e y1,e y2,y3.setCell hp' _⟩
  clear hstep HD HNS
  go_enter Tryz.func126,Tryz.ntmps126
  go_wp2_with fail
  try rw [HW1.out]
  go_region_held3 (fun W=>W.cell? ⟨w.heap.size,0,none⟩=some (.slice ta f.terms.length tc)∧W.cell? ⟨w.heap.size,1,none⟩=some (.slice na f.nons.length nc)∧W.cell? ⟨w.heap.size,2,none⟩=some (.slice pa f.prods.length pc)∧Below W1.heap.size W1 W) (first | exact HS0.out | assumption | exact hal _ _ HS0.out | exact hal _ _ (by assumption) | exact hal _ _ (hal _ _ (by assumption)) | exact hset _ _ _ (hal _ _ (by assumption)) (Nat.le_refl _) | exact hset _ _ _ (hal _ _ (by assumption)) (by show _≤_; omega) | fail) (first
    | (go_at_call 124; refine (cD _ (by assumption)).mono ?_; rintro e w2 ⟨E,L,rfl,hG,hbD,hS⟩; have hz2:=hS.2.2.2.size; try (have q1:w2.cell? ⟨W1.heap.size,0,none⟩=some (Value.pointer none):=(hbD.cell (p:=⟨W1.heap.size,0,none⟩) (by first | (simp; done) | fail)).trans (by first | (simp; done) | fail); have q2:w2.frozen? ⟨W1.heap.size,0,none⟩=false:=(hbD.frozen (p:=⟨W1.heap.size,0,none⟩) (by first | (simp; done) | fail)).trans (by first | (simp; done) | fail)))
    | (go_at_call 152; refine (cN _ _ _ _ _ (by assumption) hG (by first | exact Below.refl _ _ | exact (Below.refl _ _).alloc (Nat.le_refl _) _)).mono ?_; clear hG; rintro e w3 ⟨G,bs,rfl,hG,hbN,hS⟩; have hz3:=hS.2.2.2.size; have hS3:=hS; (try (have r1:=(hbN.cell (p:=⟨W1.heap.size,0,none⟩) (World.block_lt_of_cell? _ _ q1)).trans q1; have r2:=(hbN.frozen (p:=⟨W1.heap.size,0,none⟩) (World.block_lt_of_cell? _ _ q1)).trans q2; have r3:W1.heap.size≠w3.heap.size:=Nat.ne_of_lt (World.block_lt_of_cell? w3 ⟨W1.heap.size,0,none⟩ r1); have r4:¬ w3.heap.size=W1.heap.size:=fun e=>r3 e.symm; have r5:∀ o,(World.alloc w3 o).cell? ⟨W1.heap.size,0,none⟩=some (Value.pointer none):=fun o=>(((Below.refl _ w3).alloc (Nat.le_refl _) o).cell (p:=⟨W1.heap.size,0,none⟩) (World.block_lt_of_cell? w3 ⟨W1.heap.size,0,none⟩ r1)).trans r1; have r6:∀ o,(World.alloc w3 o).frozen? ⟨W1.heap.size,0,none⟩=false:=fun o=>(((Below.refl _ w3).alloc (Nat.le_refl _) o).frozen (p:=⟨W1.heap.size,0,none⟩) (World.block_lt_of_cell? w3 ⟨W1.heap.size,0,none⟩ r1)).trans r2)); (try (have r1:w3.cell? ⟨w2.heap.size,0,none⟩=some (Value.pointer none):=(hbN.cell (p:=⟨w2.heap.size,0,none⟩) (by first | (simp; done) | fail)).trans (by first | (simp; done) | fail); have r2:w3.frozen? ⟨w2.heap.size,0,none⟩=false:=(hbN.frozen (p:=⟨w2.heap.size,0,none⟩) (by first | (simp; done) | fail)).trans (by first | (simp; done) | fail); have r3:w2.heap.size≠w3.heap.size:=Nat.ne_of_lt (World.block_lt_of_cell? w3 ⟨w2.heap.size,0,none⟩ r1); have r4:¬ w3.heap.size=w2.heap.size:=fun e=>r3 e.symm; have r5:∀ o,(World.alloc w3 o).cell? ⟨w2.heap.size,0,none⟩=some (Value.pointer none):=fun o=>(((Below.refl _ w3).alloc (Nat.le_refl _) o).cell (p:=⟨w2.heap.size,0,none⟩) (World.block_lt_of_cell? w3 ⟨w2.heap.size,0,none⟩ r1)).trans r1; have r6:∀ o,(World.alloc w3 o).frozen? ⟨w2.heap.size,0,none⟩=false:=fun o=>(((Below.refl _ w3).alloc (Nat.le_refl _) o).frozen (p:=⟨w2.heap.size,0,none⟩) (World.block_lt_of_cell? w3 ⟨w2.heap.size,0,none⟩ r1)).trans r2))))
  focus
    obtain ⟨h1,h2,h3,h4,h5,h6,h7,h8,h9⟩:=hG.out
    have HV:Hid (VNew f ⟨ta,tc,na,nc,pa,pc⟩ m W1 (w3.heap.size+1) (w3.heap.size) E G bs L (List.replicate f.n (List.replicate m 0)) ((w3.alloc (Obj.cells #[Value.slice ta f.terms.length tc,Value.slice na f.nons.length nc,Value.slice pa f.prods.length pc,Value.slice (some ⟨E,0,none⟩) f.n f.n,Value.slice (some ⟨G,0,none⟩) f.n f.n] 183)).alloc (Obj.cells #[Value.pointer (some ⟨w3.heap.size,0,none⟩)] 184))∧GivesB (fun s=>false=true∧s<f.terms.length) f.gr f.n L):=by
      refine ⟨view_made hS3.2.2.2 h1 h2 h3 h4 h5 h6 h7 h9 (But.of_next (((Below.refl _ w3).alloc (Nat.le_refl _) _).alloc (by simp) _)) ?_ ?_ (by omega) (by omega) (by omega) (.inl (by omega)),h8⟩
      · constructor <;> go_simp
      · go_simp
    generalize ((w3.alloc (Obj.cells #[Value.slice ta f.terms.length tc,Value.slice na f.nons.length nc,Value.slice pa f.prods.length pc,Value.slice (some ⟨E,0,none⟩) f.n f.n,Value.slice (some ⟨G,0,none⟩) f.n f.n] 183)).alloc (Obj.cells #[Value.pointer (some ⟨w3.heap.size,0,none⟩)] 184))=W4 at *
    obtain ⟨KB,hKB⟩:∃ KB,w3.heap.size+1=KB:=⟨_,rfl⟩
    obtain ⟨V,hVV⟩:∃ V,w3.heap.size=V:=⟨_,rfl⟩
    first | rw [hKB,hVV] at HV ⊢ | rw [hVV,hKB] at HV ⊢
    clear hKB hVV
  rotate_left
  focus
    obtain ⟨h1,h2,h3,h4,h5,h6,h7,h8,h9⟩:=hG.out
    have HV:Hid (VNew f ⟨ta,tc,na,nc,pa,pc⟩ m W1 (w3.heap.size) (w3.heap.size+1) E G bs L (List.replicate f.n (List.replicate m 0)) ((w3.alloc (Obj.cells #[Value.pointer (some ⟨w3.heap.size+1,0,none⟩)] 184)).alloc (Obj.cells #[Value.slice ta f.terms.length tc,Value.slice na f.nons.length nc,Value.slice pa f.prods.length pc,Value.slice (some ⟨E,0,none⟩) f.n f.n,Value.slice (some ⟨G,0,none⟩) f.n f.n] 183))∧GivesB (fun s=>false=true∧s<f.terms.length) f.gr f.n L):=by
      refine ⟨view_made hS3.2.2.2 h1 h2 h3 h4 h5 h6 h7 h9 (But.of_next (((Below.refl _ w3).alloc (Nat.le_refl _) _).alloc (by simp) _)) ?_ ?_ (by omega) (by omega) (by omega) (.inl (by omega)),h8⟩
      · constructor <;> go_simp
      · go_simp
    generalize ((w3.alloc (Obj.cells #[Value.pointer (some ⟨w3.heap.size+1,0,none⟩)] 184)).alloc (Obj.cells #[Value.slice ta f.terms.length tc,Value.slice na f.nons.length nc,Value.slice pa f.prods.length pc,Value.slice (some ⟨E,0,none⟩) f.n f.n,Value.slice (some ⟨G,0,none⟩) f.n f.n] 183))=W4 at *
    obtain ⟨KB,hKB⟩:∃ KB,w3.heap.size=KB:=⟨_,rfl⟩
    obtain ⟨V,hVV⟩:∃ V,w3.heap.size+1=V:=⟨_,rfl⟩
    first | rw [hKB,hVV] at HV ⊢ | rw [hVV,hKB] at HV ⊢
    clear hKB hVV
  rotate_left
  focus
    obtain ⟨h1,h2,h3,h4,h5,h6,h7,h8,h9⟩:=hG.out
    have HV:Hid (VNew f ⟨ta,tc,na,nc,pa,pc⟩ m W1 (w2.heap.size) (w3.heap.size) E G bs L (List.replicate f.n (List.replicate m 0)) ((w3.alloc (Obj.cells #[Value.slice ta f.terms.length tc,Value.slice na f.nons.length nc,Value.slice pa f.prods.length pc,Value.slice (some ⟨E,0,none⟩) f.n f.n,Value.slice (some ⟨G,0,none⟩) f.n f.n] 183)).setCell ⟨w2.heap.size,0,none⟩ (Value.pointer (some ⟨w3.heap.size,0,none⟩)))∧GivesB (fun s=>false=true∧s<f.terms.length) f.gr f.n L):=by
      refine ⟨view_made hS3.2.2.2 h1 h2 h3 h4 h5 h6 h7 h9 ((But.of_next ((Below.refl _ w3).alloc (Nat.le_refl _) _)).setCell _ _ (.inr rfl)) ?_ ?_ (by omega) (by omega) (by omega) (.inr (.inr ⟨rfl,by simp⟩)),h8⟩
      · constructor <;> go_simp
      · go_simp
    generalize ((w3.alloc (Obj.cells #[Value.slice ta f.terms.length tc,Value.slice na f.nons.length nc,Value.slice pa f.prods.length pc,Value.slice (some ⟨E,0,none⟩) f.n f.n,Value.slice (some ⟨G,0,none⟩) f.n f.n] 183)).setCell ⟨w2.heap.size,0,none⟩ (Value.pointer (some ⟨w3.heap.size,0,none⟩)))=W4 at *
    obtain ⟨KB,hKB⟩:∃ KB,w2.heap.size=KB:=⟨_,rfl⟩
    obtain ⟨V,hVV⟩:∃ V,w3.heap.size=V:=⟨_,rfl⟩
    first | rw [hKB,hVV] at HV ⊢ | rw [hVV,hKB] at HV ⊢
    clear hKB hVV
  rotate_left
  focus
    obtain ⟨h1,h2,h3,h4,h5,h6,h7,h8,h9⟩:=hG.out
    have HV:Hid (VNew f ⟨ta,tc,na,nc,pa,pc⟩ m W1 (W1.heap.size) (w3.heap.size) E G bs L (List.replicate f.n (List.replicate m 0)) ((w3.alloc (Obj.cells #[Value.slice ta f.terms.length tc,Value.slice na f.nons.length nc,Value.slice pa f.prods.length pc,Value.slice (some ⟨E,0,none⟩) f.n f.n,Value.slice (some ⟨G,0,none⟩) f.n f.n] 183)).setCell ⟨W1.heap.size,0,none⟩ (Value.pointer (some ⟨w3.heap.size,0,none⟩)))∧GivesB (fun s=>false=true∧s<f.terms.length) f.gr f.n L):=by
      refine ⟨view_made hS3.2.2.2 h1 h2 h3 h4 h5 h6 h7 h9 ((But.of_next ((Below.refl _ w3).alloc (Nat.le_refl _) _)).setCell _ _ (.inr rfl)) ?_ ?_ (by omega) (by omega) (by omega) (.inr (.inl ⟨rfl,by simp⟩)),h8⟩
      · constructor <;> go_simp
      · go_simp
    generalize ((w3.alloc (Obj.cells #[Value.slice ta f.terms.length tc,Value.slice na f.nons.length nc,Value.slice pa f.prods.length pc,Value.slice (some ⟨E,0,none⟩) f.n f.n,Value.slice (some ⟨G,0,none⟩) f.n f.n] 183)).setCell ⟨W1.heap.size,0,none⟩ (Value.pointer (some ⟨w3.heap.size,0,none⟩)))=W4 at *
    obtain ⟨KB,hKB⟩:∃ KB,W1.heap.size=KB:=⟨_,rfl⟩
    obtain ⟨V,hVV⟩:∃ V,w3.heap.size=V:=⟨_,rfl⟩
    first | rw [hKB,hVV] at HV ⊢ | rw [hVV,hKB] at HV ⊢
    clear hKB hVV
  rotate_left
  all_goals
    clear hG hS hS3 hbD hbN hz2 hz3 h1 h2 h3 h4 h5 h6 h7 h8 h9 cD cN hal hset HS0 HW1
    try clear r1
    try clear r2
    try clear r3
    try clear r4
    try clear r5
    try clear r6
    try clear q1
    try clear q2
    have HX:Hid (∀ W,Below W1.heap.size W1 W→W.cell? ⟨w.heap.size,0,none⟩=some (.slice ta f.terms.length tc)∧W.cell? ⟨w.heap.size,1,none⟩=some (.slice na f.nons.length nc)∧W.cell? ⟨w.heap.size,2,none⟩=some (.slice pa f.prods.length pc)):=fun W hb =>
      ⟨(hb.cell (p:=⟨w.heap.size,0,none⟩) x0).trans x1,(hb.cell (p:=⟨w.heap.size,1,none⟩) x0).trans x2,(hb.cell (p:=⟨w.heap.size,2,none⟩) x0).trans x3⟩
    have HV0:Hid (VNew f ⟨ta,tc,na,nc,pa,pc⟩ m W1 KB V E G bs L (putsTo m f.n 0) W4):=by show VNew _ _ _ _ _ _ _ _ _ _ _ _; rw [putsTo_zero]; exact HV.out.1
    have HGB:Hid (GivesB (fun s=>false=true∧s<f.terms.length) f.gr f.n L):=HV.out.2
    obtain ⟨y0,y1,y2⟩:=HX.out _ HV0.out.ok.below
    clear HV
    go_wp2_with fail
    clear y0 y1 y2
    go_loopw [15] (fun i wr=>∃ (j:Nat),i=.int .i64 j∧j≤f.terms.length∧VNew f ⟨ta,tc,na,nc,pa,pc⟩ m W1 KB V E G bs L (putsTo m f.n j) wr) (fun i _=>f.terms.length - (intOf i).toNat)
    case atStart=>exact ⟨0,rfl,Nat.zero_le _,HV0.out⟩
    case round =>
      clear HV0
      obtain ⟨j,rfl,hj,hN⟩:=hrel
      obtain ⟨y0,y1,y2⟩:=HX.out _ hN.ok.below
      have k1:=hN.k
      have k2:=hN.ok.v.c4
      by_cases hlt:j<f.terms.length
      · have hjn:j<f.n:=by omega
        have hjl:j<(putsTo m f.n j).length:=by rw [putsTo_len]; exact hjn
        have k3:=hN.ok.s.cell hjl
        have hsj:=hN.ok.s.each j hjl
        rw [putsTo_get hjn,if_neg (by omega)] at hsj
        have HP:Hid (Calls Tryz.prog 153 #[.slice (some ⟨bs.getD j 0,0,none⟩) m m,.int .i64 j] wr fun e w'=>(∃ v,e=.returned v)∧VNew f ⟨ta,tc,na,nc,pa,pc⟩ m W1 KB V E G bs L (putsTo m f.n (j+1)) w'):=by
          refine (sput_any _ _ m j wr hsj (by omega) (by omega)).mono ?_
          rintro e w' ⟨he,h1,h2⟩
          refine ⟨he,?_⟩
          rw [putsTo_succ]
          exact hN.turn hjl h2 h1
        clear hsj hN hjl
        generalize bs.getD j 0=c at *
        go_wp2_with fail
        refine HP.out.mono ?_
        rintro e w5 ⟨⟨v,rfl⟩,hN⟩
        clear HP k1 k2 k3 y0 y1 y2
        go_wp2_with fail
        exact ⟨⟨j+1,by go_num,by omega,hN⟩,by simp [intOf]; omega⟩
      · obtain rfl:j=f.terms.length:=by omega
        have HSE:=HSET.out _ _ _ _ _ _ _ hN HGB.out
        clear hN
        go_wp2_with fail
        refine HSE.mono ?_
        rintro e w5 ⟨⟨v,rfl⟩,R',g1,g2,g3⟩
        have k5:=g1.k
        have HF:Hid (VOk f ⟨ta,tc,na,nc,pa,pc⟩ m w V E G bs L R' w5∧StW f m R'∧∀ q∈f.gr,ClosF f R' q):=⟨⟨g1.ok.v,g1.ok.e,g1.ok.s,g1.ok.vb,g1.ok.eb,by have:=g1.ok.vl; omega,by have:=g1.ok.el; omega,by have:=g1.ok.gl; omega,fun b hb=>by have:=g1.ok.bl b hb; omega,g1.ok.ve,g1.ok.vg,g1.ok.eg,below_then B0 g1.ok.below B0.size⟩,g2,g3⟩
        clear g1 g2 g3 HSE k1 k2 y0 y1 y2
        go_wp2_with fail
        go_ret
        exact ⟨V,E,G,bs,L,R',rfl,HF.out.1,HGB.out,HF.out.2.1,HF.out.2.2⟩
end Go.Proofs.YtbilbgjojdlobaaGreatDoor
