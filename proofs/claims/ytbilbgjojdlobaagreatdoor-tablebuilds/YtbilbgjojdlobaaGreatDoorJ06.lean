import Derived.Test.YtbilbgjojdlobaaGreatDoorJ02
import Derived.Test.YtbilbgjojdlobaaGreatDoorJ04
import Derived.Test.YtbilbgjojdlobaaGreatDoorJ05
import Derived.Laws.StructEq
import Derived.Deep.Onto
import Derived.Deep.Upon
import Derived.Lib.UnsafeStr
import Derived.Shelf.RegionOpenPlain

namespace Go.Proofs.YtbilbgjojdlobaaGreatDoor
open Go.RowKit Go.Maps
set_option maxRecDepth 100000 in
set_option maxHeartbeats 1000000 in
theorem at_any {B b n:Nat} {G:Int→Option Ac} {U:Int→Value} (t:Int) (w:World) (h:MapA B b n G U w) (ht:i64B t) :
    Calls Tryz.prog 101 #[.map (some b),.int .i64 t] w fun e w'=>e=.returned (acVal (curA G t) (curU G U t))∧Below w.heap.size w w':=by
  have B0:Below w.heap.size w (w.alloc (Obj.cells #[.int .i64 0,.int .i64 0,.slice none 0 0,.bool false] 45)):=(Below.refl _ _).alloc (Nat.le_refl _) _
  obtain ⟨v,hr,hv1,hv2⟩:=(h.next B0).look ht
  have HNT:Hid (∀ W,Calls Tryz.prog 46 #[.int .i64 t] W fun e w'=>e=.returned (.agg #[.int .i64 t,.int .i64 (-1),.slice none 0 0,.bool false])∧Below W.heap.size W w'):=fun W=>nothing_any t W
  cases hg:G t with
  | some a =>
    have hrow:=h.rows t a hg
    have hc:acVal (curA G t) (curU G U t)=acVal a (U t):=by unfold curA curU; rw [hg]; rfl
    rw [hc]
    obtain rfl:=hv1 a hg
    rw [hg] at hr
    obtain ⟨ua,uc,hU⟩:=slice_of_ownK hrow
    rw [hU] at hr ⊢
    unfold acVal at hr ⊢
    clear hv1 hv2 hc hrow h HNT
    simp only [Option.isSome_some] at hr
    go_enter Tryz.func101,Tryz.ntmps101
    go_wp2_with fail
    have B1:Below w.heap.size w ((w.alloc (Obj.cells #[.int .i64 a.look,.int .i64 a.to,.slice ua a.red.length uc,.bool a.acc] 45)).alloc (Obj.cells #[.int .i64 a.look,.int .i64 a.to,.slice ua a.red.length uc,.bool a.acc] 45)):=((Below.refl _ _).alloc (Nat.le_refl _) _).alloc (by simp) _
    refine bodyPost_ret (results_cell_row rfl _ _ w.heap.size 45 #[.int .i64 a.look,.int .i64 a.to,.slice ua a.red.length uc,.bool a.acc] (0,0) _ rfl ((Lib.alloc_old _ _ _ (by simp)).trans (heap_alloc_new _ _)) Tryz.underlying45 rfl (by kernel_rfl)) rfl ?_
    exact ⟨rfl,B1⟩
  | none =>
    have hc:acVal (curA G t) (curU G U t)=acVal ⟨t,-1,[],false⟩ (.slice none 0 0):=by unfold curA curU; rw [hg]; rfl
    rw [hc]
    obtain rfl:=hv2 hg
    rw [hg] at hr
    unfold acVal
    clear hv1 hv2 hc h
    simp only [Option.isSome_none] at hr
    have B1:Below w.heap.size w ((w.alloc (Obj.cells #[.int .i64 0,.int .i64 0,.slice none 0 0,.bool false] 45)).alloc (Obj.cells #[.int .i64 0,.int .i64 0,.slice none 0 0,.bool false] 45)):=B0.alloc (by simp) _
    have hR1:((w.alloc (Obj.cells #[.int .i64 0,.int .i64 0,.slice none 0 0,.bool false] 45)).alloc (Obj.cells #[.int .i64 0,.int .i64 0,.slice none 0 0,.bool false] 45)).heap[w.heap.size]?=some (Obj.cells #[.int .i64 0,.int .i64 0,.slice none 0 0,.bool false] 45):=(Lib.alloc_old _ _ _ (by simp)).trans (heap_alloc_new _ _)
    go_enter Tryz.func101,Tryz.ntmps101
    go_upto_region 4 with fail
    clear hr
    generalize (w.alloc (Obj.cells #[.int .i64 0,.int .i64 0,.slice none 0 0,.bool false] 45)).alloc (Obj.cells #[.int .i64 0,.int .i64 0,.slice none 0 0,.bool false] 45)=w3 at *
    have HN3:=HNT.out w3
    go_wp2_with fail
    refine HN3.mono ?_
    rintro e w4 ⟨rfl,b4⟩
    have B4:=below_then B1 b4 B1.size
    have hR4:w4.heap[w.heap.size]?=some (Obj.cells #[.int .i64 0,.int .i64 0,.slice none 0 0,.bool false] 45):=(b4.block _ (Array.getElem?_eq_some_iff.1 hR1).1).trans hR1
    have c0:w4.cell? ⟨w.heap.size,0,none⟩=some (.int .i64 0):=by simp [World.cell?,hR4]
    have c1:w4.cell? ⟨w.heap.size,1,none⟩=some (.int .i64 0):=by simp [World.cell?,hR4]
    have c2:w4.cell? ⟨w.heap.size,2,none⟩=some (.slice none 0 0):=by simp [World.cell?,hR4]
    have c3:w4.cell? ⟨w.heap.size,3,none⟩=some (.bool false):=by simp [World.cell?,hR4]
    have z:∀ k,w4.frozen? ⟨w.heap.size,k,none⟩=false:=fun k=>by simp [World.frozen?,hR4]
    clear HN3 b4 HNT hR1 hR4 B0
    go_wp2_with fail
    have hB:Below w.heap.size w ((((w4.setCell ⟨w.heap.size,0,none⟩ (.int .i64 t)).setCell ⟨w.heap.size,1,none⟩ (.int .i64 (-1))).setCell ⟨w.heap.size,2,none⟩ (.slice none 0 0)).setCell ⟨w.heap.size,3,none⟩ (.bool false)):=(((B4.setCell (by simp) _).setCell (by simp) _).setCell (by simp) _).setCell (by simp) _
    refine bodyPost_ret (results_cell1 rfl _ _ _ rfl (run_loadVar_mid _ _ _ _ _ _ (set4 c0 c1 c2 c3 _ _ _ _) Tryz.underlying45 rfl (by kernel_rfl))) rfl ?_
    exact ⟨rfl,hB⟩
set_option maxRecDepth 100000 in
set_option maxHeartbeats 1000000 in
theorem shift_any {B b n:Nat} {G:Int→Option Ac} {U:Int→Value} (t y:Int) (w:World) (h:MapA B b n G U w) (ht:i64B t) (hn:n<1000000000) :
    Calls Tryz.prog 65 #[.map (some b),.int .i64 t,.int .i64 y] w fun e w'=>e=.returned (.tuple #[])∧MapA B b (n+1) (updG G t ⟨(curA G t).look,y,(curA G t).red,(curA G t).acc⟩) (updU U t (curU G U t)) w'∧But (fun k=>k=b) w w':=by
  have HAT:=at_any t w h ht
  have hrow:=curU_own h t
  obtain ⟨ua,uc,hU⟩:=slice_of_ownK hrow
  have HST:Hid (∀ W,Below w.heap.size w W→∃ W',(Instr.mapUpdate 119 (.map (some b)) (.int .i64 t) (.agg #[.int .i64 (curA G t).look,.int .i64 y,.slice ua (curA G t).red.length uc,.bool (curA G t).acc])).run Tryz.prog W=.ok () W'∧MapA B b (n+1) (updG G t ⟨(curA G t).look,y,(curA G t).red,(curA G t).acc⟩) (updU U t (curU G U t)) W'∧But (fun k=>k=b) W W'):=fun W hW=>by
    have hM:=h.next hW
    have:=hM.store hn ht ⟨(curA G t).look,y,(curA G t).red,(curA G t).acc⟩ (curU G U t) (curU_own hM t) (fun s c k hs hc h1 h2=>by
      unfold curU at h2
      split at h2
      · rename_i hsome
        obtain ⟨a,ha⟩:=Option.isSome_iff_exists.1 hsome
        exact h.apart s t c a k hs hc ha h1 h2
      · cases h2)
    unfold acVal at this
    rw [hU] at this ⊢
    exact this
  rw [hU] at HAT ⊢
  unfold acVal at HAT
  clear hrow
  rw [← hU]
  generalize (updG G t ⟨(curA G t).look,y,(curA G t).red,(curA G t).acc⟩)=G' at *
  generalize (updU U t (curU G U t))=U' at *
  generalize (curA G t).look=a0 at *
  generalize (curA G t).to=a1 at *
  generalize (curA G t).red.length=rn at *
  generalize (curA G t).acc=a3 at *
  go_enter Tryz.func65,Tryz.ntmps65
  go_wp2_with fail
  refine HAT.mono ?_
  rintro e w1 ⟨rfl,b1⟩
  have B1:Below w.heap.size w (w1.alloc (Obj.cells #[.int .i64 a0,.int .i64 y,.slice ua rn uc,.bool a3] 45)):=b1.alloc b1.size _
  obtain ⟨W',hr,hM,hb⟩:=HST.out _ B1
  have HR:Hid (MapA B b (n+1) G' U' W'∧But (fun k=>k=b) w W'):=⟨hM,(But.of_next B1).trans hb⟩
  clear HAT HST hM hb h
  go_wp2_with fail
  go_end0
  exact ⟨rfl,HR.out⟩
theorem infoInt1:(Tryz.prog.info? 3).map (fun i=>(i.zero,i.size,i.bytes))=some (some (.int .i64 0),1,8):=by kernel_rfl
def endA (a:Ac) (p:Int):Ac:=if p=-1 then ⟨a.look,a.to,a.red,true⟩ else ⟨a.look,a.to,a.red++[p],a.acc⟩
def Ended (B b n:Nat) (G:Int→Option Ac) (U:Int→Value) (t:Int) (a:Ac) (w w':World):Prop :=
  ∃ u,MapA B b (n+1) (updG G t a) (updU U t u) w'∧But (inA b G U) w w'∧∀ k,inA b (updG G t a) (updU U t u) k→inA b G U k∨w.heap.size≤k
theorem ended_in {b:Nat} {G:Int→Option Ac} {U:Int→Value} {t:Int} {a:Ac} {u:Value} {m:Nat} (hu:∀ k,u.ownBlock=some k→inA b G U k∨m≤k):∀ k,inA b (updG G t a) (updU U t u) k→inA b G U k∨m≤k:=by
  rintro k (rfl | ⟨s,c,hs,hk⟩)
  · exact .inl (.inl rfl)
  · unfold updG at hs
    unfold updU at hk
    split at hs
    · rename_i e; rw [if_pos e] at hk; exact hu k hk
    · rename_i e; rw [if_neg e] at hk; exact .inl (.inr ⟨s,c,hs,hk⟩)
theorem curU_in {G:Int→Option Ac} {U:Int→Value} {t:Int} {k:Nat} (h:(curU G U t).ownBlock=some k):∃ a,G t=some a∧(U t).ownBlock=some k:=by
  unfold curU at h
  split at h
  · rename_i hs
    obtain ⟨a,ha⟩:=Option.isSome_iff_exists.1 hs
    exact ⟨a,ha,h⟩
  · cases h
set_option maxRecDepth 100000 in
set_option maxHeartbeats 2000000 in
theorem endAct_any {B b n:Nat} {G:Int→Option Ac} {U:Int→Value} (x:Ir) (w:World) (h:MapA B b n G U w) (hx:okR x) (hn:n<1000000000) (hl:(curA G x.2.2).red.length≤100000000) (hBw:B≤w.heap.size) :
    Calls Tryz.prog 62 #[.map (some b),valR x] w fun e w'=>e=.returned (.tuple #[])∧Ended B b n G U x.2.2 (endA (curA G x.2.2) x.1) w w':=by
  obtain ⟨i0,hi0,hz0,hz1,hz2⟩:=info_parts infoInt1
  obtain ⟨x0,x1,t⟩:=x
  obtain ⟨hx0,hx1,ht⟩:=hx
  unfold valR
  simp only at *
  have BX:Below w.heap.size w (w.alloc (Obj.cells #[.int .i64 x0,.int .i64 x1,.int .i64 t] 77)):=(Below.refl _ _).alloc (Nat.le_refl _) _
  have hM0:=h.next BX
  have HAT:=at_any t _ hM0 ht
  obtain ⟨ua,uc,hU⟩:=slice_of_ownK (curU_own h t)
  have hlt:=h.lt
  rw [hU] at HAT
  unfold acVal at HAT
  have d0:(w.alloc (Obj.cells #[.int .i64 x0,.int .i64 x1,.int .i64 t] 77)).cell? ⟨w.heap.size,0,none⟩=some (.int .i64 x0):=by simp
  have d2:(w.alloc (Obj.cells #[.int .i64 x0,.int .i64 x1,.int .i64 t] 77)).cell? ⟨w.heap.size,2,none⟩=some (.int .i64 t):=by simp
  have hxl:w.heap.size<(w.alloc (Obj.cells #[.int .i64 x0,.int .i64 x1,.int .i64 t] 77)).heap.size:=by simp
  obtain ⟨c,hc⟩:∃ c,curA G t=c:=⟨_,rfl⟩
  rw [hc] at HAT hl hU ⊢
  have HC:Hid (curA G t=c):=hc
  clear hc hM0
  go_enter Tryz.func62,Tryz.ntmps62
  go_wp2_with fail
  generalize w.alloc (Obj.cells #[.int .i64 x0,.int .i64 x1,.int .i64 t] 77)=w0 at *
  refine HAT.mono ?_
  rintro e w1 ⟨rfl,b1⟩
  have B1:Below w.heap.size w w1:=below_then BX b1 BX.size
  have e0:=(b1.cell (p:=⟨w.heap.size,0,none⟩) hxl).trans d0
  have e2:=(b1.cell (p:=⟨w.heap.size,2,none⟩) hxl).trans d2
  have hx1l:w.heap.size<w1.heap.size:=Nat.lt_of_lt_of_le hxl b1.size
  clear HAT b1 d0 d2 BX
  by_cases hp:x0=-1
  · subst hp
    have hEA:endA c (-1)=⟨c.look,c.to,c.red,true⟩:=if_pos rfl
    have BA:Below w.heap.size w (w1.alloc (Obj.cells #[.int .i64 c.look,.int .i64 c.to,.slice ua c.red.length uc,.bool true] 45)):=B1.alloc B1.size _
    have hM:=h.next BA
    obtain ⟨W',hr,hM',hb⟩:=hM.store hn ht ⟨c.look,c.to,c.red,true⟩ (curU G U t) (by have:=curU_own hM t; rw [HC.out] at this; exact this) (fun s c' k hs hc' h1 h2=>by
      obtain ⟨a,ha,h3⟩:=curU_in h2
      exact h.apart s t c' a k hs hc' ha h1 h3)
    rw [hU] at hr
    unfold acVal at hr
    have HR:Hid (Ended B b n G U t (endA c (-1)) w W'):=hEA ▸ ⟨_,hM',(But.of_next BA).trans (hb.mono (fun k _ e=>.inl e)),ended_in (fun k hk=>by
      obtain ⟨a,ha,h3⟩:=curU_in hk
      exact .inl (.inr ⟨t,a,ha,h3⟩))⟩
    clear hM hM' hb h hEA
    go_wp2_with fail
    go_end0
    exact ⟨rfl,HR.out⟩
  · have hp':(x0 == -1)=false:=by simpa using hp
    have hEA:endA c x0=⟨c.look,c.to,c.red++[x0],c.acc⟩:=if_neg hp
    have BA:Below w.heap.size w (w1.alloc (Obj.cells #[.int .i64 c.look,.int .i64 c.to,.slice ua c.red.length uc,.bool c.acc] 45)):=B1.alloc B1.size _
    have a0:(w1.alloc (Obj.cells #[.int .i64 c.look,.int .i64 c.to,.slice ua c.red.length uc,.bool c.acc] 45)).heap[w1.heap.size]?=some (Obj.cells #[.int .i64 c.look,.int .i64 c.to,.slice ua c.red.length uc,.bool c.acc] 45):=heap_alloc_new _ _
    have hal:w1.heap.size<(w1.alloc (Obj.cells #[.int .i64 c.look,.int .i64 c.to,.slice ua c.red.length uc,.bool c.acc] 45)).heap.size:=by simp
    have e0':(w1.alloc (Obj.cells #[.int .i64 c.look,.int .i64 c.to,.slice ua c.red.length uc,.bool c.acc] 45)).cell? ⟨w.heap.size,0,none⟩=some (.int .i64 x0):=(World.cell?_of_block (Lib.alloc_old w1 _ _ hx1l)).trans e0
    have e2':(w1.alloc (Obj.cells #[.int .i64 c.look,.int .i64 c.to,.slice ua c.red.length uc,.bool c.acc] 45)).cell? ⟨w.heap.size,2,none⟩=some (.int .i64 t):=(World.cell?_of_block (Lib.alloc_old w1 _ _ hx1l)).trans e2
    go_upto_region 4 with fail
    generalize w1.alloc (Obj.cells #[.int .i64 c.look,.int .i64 c.to,.slice ua c.red.length uc,.bool c.acc] 45)=wa at *
    have hcw:curA G t=c:=HC.out
    have hrow:OwnI B c.red (.slice ua c.red.length uc) wa:=by
      have:=curU_own (h.next BA) t
      rw [hcw,hU] at this
      exact this
    have hMB:MapB t B b n G U (wa.alloc (Obj.cells #[.int .i64 x0] 3)):=((h.next BA).next ((Below.refl _ wa).alloc (Nat.le_refl _) _)).toB
    have HMB:Hid (MapB t B b n G U (wa.alloc (Obj.cells #[.int .i64 x0] 3))):=hMB
    have HON:Hid ((wa.alloc (Obj.cells #[.int .i64 x0] 3)).ownsRow B 3 1 (.slice ua c.red.length uc) c.red.length (c.red.map encI)):=World.ownsRow.alloc hrow _
    have a0':(wa.alloc (Obj.cells #[.int .i64 x0] 3)).heap[w1.heap.size]?=some (Obj.cells #[.int .i64 c.look,.int .i64 c.to,.slice ua c.red.length uc,.bool c.acc] 45):=(Lib.alloc_old wa _ _ hal).trans a0
    have HA0:Hid ((wa.alloc (Obj.cells #[.int .i64 x0] 3)).heap[w1.heap.size]?=some (Obj.cells #[.int .i64 c.look,.int .i64 c.to,.slice ua c.red.length uc,.bool c.acc] 45)):=a0'
    have q2:wa.cell? ⟨w1.heap.size,2,none⟩=some (.slice ua c.red.length uc):=by rw [Lib.cell_of_heap a0]; rfl
    have HE2:Hid (w.heap.size<wa.heap.size∧(wa.alloc (Obj.cells #[.int .i64 x0] 3)).cell? ⟨w.heap.size,2,none⟩=some (.int .i64 t)):=by
      have:w.heap.size<wa.heap.size:=Nat.lt_trans hx1l hal
      exact ⟨this,(World.cell?_of_block (Lib.alloc_old wa _ _ this)).trans e2'⟩
    have BAN:Below w.heap.size w (wa.alloc (Obj.cells #[.int .i64 x0] 3)):=BA.alloc BA.size _
    have HBN:Hid (Below w.heap.size w (wa.alloc (Obj.cells #[.int .i64 x0] 3))):=BAN
    have hszn:B≤(wa.alloc (Obj.cells #[.int .i64 x0] 3)).heap.size:=Nat.le_trans hBw BAN.size
    have HUL:Hid (∀ k,(Value.slice ua c.red.length uc).ownBlock=some k→∃ a,G t=some a∧(U t).ownBlock=some k):=fun k hk=>curU_in (by rw [hU]; exact hk)
    have HNW:=cell_one_new wa (.int .i64 x0) 3
    have HIN:Hid (∀ s a k,G s=some a→(U s).ownBlock=some k→k<w.heap.size):=fun s a k ha hk=>(h.inLt (.inr ⟨s,a,ha,hk⟩)).2
    have HAPT:Hid (∀ s a a' k,s≠t→G s=some a→G t=some a'→(U s).ownBlock=some k→(U t).ownBlock=some k→False):=fun s a a' k h1 h2 h3 h4 h5=>h.apart s t a a' k h1 h2 h3 h4 h5
    have hbl:b<w.heap.size:=hlt
    clear h hMB hrow a0' BAN BA e0 e2 hU hcw HC a0
    go_wp2_with (at_builtin; refine wpList_append_own_at _ rfl (.tmp 14) (.tmp 17) 43 rfl B 3 i0 _ 1 8 Tryz.underlying43 hi0 hz0 hz1 hz2 rfl (by omega) _ _ _ rfl HON.out _ 1 1 [.int .i64 x0] rfl rfl HNW (by simp [Value.oneCell']) (by unfold maxLen; omega) (by omega) hszn ?_)
    intro v' w2 hown' hgrow _ hat
    have hne:=Lib.ownBlock_ne HON.out HA0.out (by decide)
    have hgb:w2.heap[w1.heap.size]?=some (Obj.cells #[.int .i64 c.look,.int .i64 c.to,.slice ua c.red.length uc,.bool c.acc] 45):=(hgrow.block _ (Array.getElem?_eq_some_iff.1 HA0.out).1 (fun e=>hne e.symm)).trans HA0.out
    have hup:=HUL.out
    obtain ⟨va',vc',rfl⟩:=slice_of_ownK hown'
    have hx2:w2.cell? ⟨w.heap.size,2,none⟩=some (.int .i64 t):=by
      rw [← HE2.out.2]
      refine World.cell?_of_block (hgrow.block _ (by have:=HE2.out.1; simp; omega) (fun e=>?_))
      obtain ⟨a,ha,hk⟩:=hup _ e.symm
      have:=HIN.out t a _ ha hk
      simp only at this
      omega
    have hD:But (fun k=>(Value.slice ua c.red.length uc).ownBlock=some k∨k=w1.heap.size) (wa.alloc (Obj.cells #[.int .i64 x0] 3)) (w2.setCell ⟨w1.heap.size,2,none⟩ (.slice va' (c.red.length+1) vc')) :=
      But.setCell ⟨hgrow.os,hgrow.tape,hgrow.output,hgrow.size,fun k hk hd=>hgrow.block k hk (fun e=>hd (.inl e.symm))⟩ _ _ (.inr (.inr rfl))
    have hM3:MapB t B b n G U (w2.setCell ⟨w1.heap.size,2,none⟩ (.slice va' (c.red.length+1) vc')):=by
      refine HMB.out.keep hD ?_ ?_
      · rintro (e | e)
        · have:=HMB.out.own
          obtain ⟨D,⟨es,clock,hbk,_⟩,_⟩:=this
          rcases HON.out.2 with ⟨e1,_⟩ | ⟨g,cap,cur,e1,_,hg,_⟩
          · rw [e1] at e; cases e
          · rw [e1] at e; cases e
            rw [hg] at hbk; cases hbk
        · omega
      · rintro s a k hs ha hk (e | e)
        · obtain ⟨a',ha',hk'⟩:=hup k e
          exact HAPT.out s a a' k hs ha ha' hk hk'
        · have:=HIN.out s a k ha hk
          omega
    have hne':=Lib.ownBlock_ne hown' hgb (by decide)
    have hO3:OwnI B (c.red++[x0]) (.slice va' (c.red.length+1) vc') (w2.setCell ⟨w1.heap.size,2,none⟩ (.slice va' (c.red.length+1) vc')):=by
      have h1:w2.ownsRow B 3 1 (.slice va' (c.red.length+1) vc') (c.red++[x0]).length ((c.red++[x0]).map encI):=by
        simpa [encI] using hown'
      exact ownsRow_keep (D:=fun k=>k=w1.heap.size) h1 ((But.refl _ w2).setCell _ _ (.inr rfl)) (fun j hj e=>hne' (by rw [hj,e]))
    obtain ⟨W',hr,hM',hb⟩:=hM3.store hn ht ⟨c.look,c.to,c.red++[x0],c.acc⟩ _ hO3 (fun s c' k hs hc' h1 h2=>by
      rcases hat with e | e
      · rw [e] at h2
        obtain ⟨a',ha',hk'⟩:=hup k h2
        exact HAPT.out s c' a' k hs hc' ha' h1 hk'
      · rw [e] at h2; cases h2
        have:=HIN.out s c' _ hc' h1
        have:=HE2.out.1
        omega)
    unfold acVal at hr
    simp only at hr
    have hbn:=HBN.out
    have hAll:But (inA b G U) w W':=⟨hb.os.trans (hD.os.trans hbn.os),hb.tape.trans (hD.tape.trans hbn.tape),hb.output.trans (hD.output.trans hbn.output),Nat.le_trans hbn.size (Nat.le_trans hD.size hb.size),fun k hk hd=>by
      have k1:k<(wa.alloc (Obj.cells #[.int .i64 x0] 3)).heap.size:=Nat.lt_of_lt_of_le hk hbn.size
      refine (hb.block k (Nat.lt_of_lt_of_le k1 hD.size) (fun e=>hd (.inl e))).trans ((hD.block k k1 ?_).trans (hbn.block k hk))
      rintro (e | e)
      · obtain ⟨a',ha',hk'⟩:=hup k e
        exact hd (.inr ⟨t,a',ha',hk'⟩)
      · omega⟩
    have HR:Hid (Ended B b n G U t (endA c x0) w W'):=hEA ▸ ⟨_,hM',hAll,ended_in (fun k hk=>by
      rcases hat with e | e
      · rw [e] at hk
        obtain ⟨a',ha',hk'⟩:=hup k hk
        exact .inl (.inr ⟨t,a',ha',hk'⟩)
      · rw [e] at hk; cases hk
        have:=HE2.out.1
        exact .inr (by omega))⟩
    have g0:w2.cell? ⟨w1.heap.size,0,none⟩=some (.int .i64 c.look):=by rw [Lib.cell_of_heap hgb]; rfl
    have g1:w2.cell? ⟨w1.heap.size,1,none⟩=some (.int .i64 c.to):=by rw [Lib.cell_of_heap hgb]; rfl
    have g2:w2.cell? ⟨w1.heap.size,2,none⟩=some (.slice ua c.red.length uc):=by rw [Lib.cell_of_heap hgb]; rfl
    have g3:w2.cell? ⟨w1.heap.size,3,none⟩=some (.bool c.acc):=by rw [Lib.cell_of_heap hgb]; rfl
    have gz:w2.frozen? ⟨w1.heap.size,2,none⟩=false:=Lib.frozen_of_heap hgb _
    clear hM3 hM' hb hD hO3 hgb hgrow hown' hat hAll HMB HON HA0 HE2 HBN HUL HIN HAPT hup hne hne' hEA hbn HNW q2 e0' e2'
    go_wp2_with fail
    go_end0
    exact ⟨rfl,HR.out⟩
end Go.Proofs.YtbilbgjojdlobaaGreatDoor
namespace Go.Proofs.YtbilbgjojdlobaaGreatDoor
open Go.RowKit
theorem infoBd:(Tryz.prog.info? 100).map (·.size)=some 2:=by kernel_rfl
theorem cellsWr:Tryz.prog.cellsOf 102=3:=by kernel_rfl
theorem row_lies (P:Program) (fits:TypeId→Bool) (d e n i s:Nat) (hs:P.cellsOf e=s) (h0:s≠0) (hi:i<n):Go.rowAt P fits (d+1) e n (i * s) 1=Go.rowAt P fits (d+1) e 1 0 1:=by
  have e1:i * s / s=i:=Nat.mul_div_cancel _ (by omega)
  have e2:i * s % s=0:=Nat.mul_mod_left _ _
  unfold Go.rowAt
  simp only [hs,h0,if_false,e1,e2,Nat.zero_div,Nat.zero_mod,Nat.zero_add]
  have e3:(i+1≤n)=True:=by simp; omega
  have e4:(i<n)=True:=by simp [hi]
  simp only [e3,e4,Nat.le_refl,decide_true,Nat.zero_lt_one,Bool.true_and,Bool.and_true]
theorem liesWr {n i:Nat} (h:i<n):liesAt Tryz.prog Tryz.prog.depth 102 (n * 3 / Tryz.prog.cellsOf 102) (i * 3) 100 1=true:=by
  have h1:liesAt Tryz.prog Tryz.prog.depth 102 1 0 100 1=true:=by kernel_rfl
  rw [cellsWr,Nat.mul_div_cancel _ (by omega)]
  obtain ⟨m,hm⟩:∃ m,Tryz.prog.depth=m+1:=⟨Tryz.prog.depth - 1,by have:0<Tryz.prog.depth:=of_decide_eq_true (by kernel_rfl); omega⟩
  rw [hm] at h1 ⊢
  unfold liesAt at h1 ⊢
  rw [hm] at h1 ⊢
  rw [row_lies _ _ _ _ _ _ 3 cellsWr (by omega) h]
  simp only [Tryz.underlying100] at h1 ⊢
  exact h1
set_option maxHeartbeats 1000000 in
set_option maxRecDepth 100000 in
theorem check_used (a:Addr) (w:World) (h0:w.cell? a=some (.pointer (some a))) :
    Calls Tryz.prog 141 #[.pointer (some a)] w fun e w'=>e=.returned (.tuple #[])∧w'=w:=by
  obtain ⟨j,hj,_⟩:=Option.map_eq_some_iff.1 infoBd
  obtain ⟨b,o,x⟩:=a
  go_enter Tryz.func141,Tryz.ntmps141
  go_wp2
  rw [Lib.run_neq_ptr_same w _ Tryz.underlying97 hj]
  go_wp2
  go_end0
  exact ⟨rfl,rfl⟩
set_option maxHeartbeats 1000000 in
set_option maxRecDepth 100000 in
theorem check_fresh {B g i:Nat} {L:List Wr} {x:Wr} (w:World) (h:WsAt B g L w) (hx:L[i]?=some x) (h0:w.cell? ⟨g,i * 3,none⟩=some (.pointer none)) :
    Calls Tryz.prog 141 #[.pointer (some ⟨g,i * 3,none⟩)] w fun e w'=>e=.returned (.tuple #[])∧w'=w.setCell ⟨g,i * 3,none⟩ (.pointer (some ⟨g,i * 3,none⟩)):=by
  obtain ⟨j,hj,hjs⟩:=Option.map_eq_some_iff.1 infoBd
  obtain ⟨cs,hc,hs⟩:=h.blk
  have hi:i<L.length:=(List.getElem?_eq_some_iff.1 hx).1
  have hsh:w.shape? g=some (102,L.length * 3):=by simp [World.shape?,hc,hs]
  have hfz:w.frozen? ⟨g,i * 3,none⟩=false:=Lib.frozen_of_heap hc _
  have hlt:i * 3<L.length * 3:=by omega
  have hli:=liesWr hi
  generalize L.length=n at *
  generalize i * 3=o at *
  clear h hx hi hc hs
  go_enter Tryz.func141,Tryz.ntmps141
  go_wp2
  rw [Lib.run_to_unsafe w ⟨g,o,none⟩ Tryz.underlying97 Tryz.underlying225 hj (by rw [hjs]; decide) hsh hlt]
  simp only [Result.andThen]
  rw [Oper.upon_value]
  go_wp2
  rw [run_callFunc_extern Tryz.func164 (by kernel_rfl) (by kernel_rfl) (by kernel_rfl) (e:=Extern.AbiNoEscape.same) (by kernel_rfl)]
  rw [Lib.run_noEscape]
  simp only [Result.andThen]
  rw [Oper.upon_value]
  go_wp2
  rw [Lib.run_from_unsafe w ⟨g,o,none⟩ Tryz.underlying225 Tryz.underlying97 hj hsh hli]
  simp only [Result.andThen]
  rw [Oper.upon_value]
  go_wp2
  go_end0
  exact ⟨rfl,rfl⟩
theorem check_any {B g i:Nat} {L:List Wr} {x:Wr} (w:World) (h:WsAt B g L w) (hx:L[i]?=some x) :
    Calls Tryz.prog 141 #[.pointer (some ⟨g,i * 3,none⟩)] w fun e w'=>e=.returned (.tuple #[])∧WsAt B g L w'∧Wrote g w w':=by
  rcases h.ptr i x hx with h0 | h0
  · exact (check_fresh w h hx h0).mono fun _ _ ⟨he,hw⟩=>⟨he,by rw [hw]; exact (h.setPtr hx).1,by rw [hw]; exact (h.setPtr hx).2⟩
  · exact (check_used _ w h0).mono fun _ _ ⟨he,hw⟩=>⟨he,by rw [hw]; exact h,by rw [hw]; exact Wrote.refl _ _⟩
set_option maxHeartbeats 2000000 in
set_option maxRecDepth 100000 in
theorem byte_any {B g i:Nat} {L:List Wr} {x:Wr} (u:UInt8) (w:World) (h:WsAt B g L w) (hx:L[i]?=some x) (hl:x.bs.length≤1000000000) (hBw:B≤w.heap.size) :
    Calls Tryz.prog 117 #[.pointer (some ⟨g,i * 3,none⟩),.int .u8 u.toNat] w fun e w'=>e=.returned .nilIface∧WsAt B g (L.set i ⟨x.bs++[u],x.bad⟩) w'∧Wrote g w w':=by
  obtain ⟨i0,hi,hz0,hz1,hz2⟩:=info_parts infoU8
  have HC:Hid (Calls Tryz.prog 141 #[.pointer (some ⟨g,i * 3,none⟩)] w fun e w'=>e=.returned (.tuple #[])∧WsAt B g L w'∧Wrote g w w'):=check_any w h hx
  clear h
  obtain ⟨o,ho⟩:∃ o,i * 3=o:=⟨_,rfl⟩
  rw [ho] at HC ⊢
  go_enter Tryz.func117,Tryz.ntmps117
  go_wp2_with fail
  refine HC.out.mono ?_
  rintro e w1 ⟨rfl,hW,hw1⟩
  obtain ⟨v,hv,hown⟩:=hW.buf i x hx
  obtain ⟨va,vc,rfl⟩:=slice_of_ownK hown
  obtain ⟨cs,hc,hs⟩:=hW.blk
  rw [ho] at hv
  have hfz:w1.frozen? ⟨g,o+1,none⟩=false:=Lib.frozen_of_heap hc _
  have hsz:=hw1.1.size
  have HON:Hid ((w1.alloc (Obj.cells #[.int .u8 u.toNat] 5)).ownsRow B 5 1 (.slice va x.bs.length vc) x.bs.length (x.bs.map encU8)):=World.ownsRow.alloc hown _
  have hWa:=hW.next ((Below.refl _ w1).alloc (Nat.le_refl _) (Obj.cells #[.int .u8 u.toNat] 5))
  have HW:Hid (WsAt B g L (w1.alloc (Obj.cells #[.int .u8 u.toNat] 5))∧Wrote g w (w1.alloc (Obj.cells #[.int .u8 u.toNat] 5))):=⟨hWa,hw1.trans (hW.wrote ((Below.refl _ w1).alloc (Nat.le_refl _) _))⟩
  have HV:Hid ((w1.alloc (Obj.cells #[.int .u8 u.toNat] 5)).cell? ⟨g,i * 3+1,none⟩=some (.slice va x.bs.length vc)):=by
    show _=_
    rw [ho,← hv]
    exact World.cell?_of_block (Below.heap_alloc w1 _ g hW.lt)
  have hszn:B≤(w1.alloc (Obj.cells #[.int .u8 u.toNat] 5)).heap.size:=by simp; omega
  have HNW:=cell_one_new w1 (.int .u8 u.toNat) 5
  have HLT:Hid (g<w1.heap.size):=hW.lt
  have hca:(w1.alloc (Obj.cells #[.int .u8 u.toNat] 5)).heap[g]?=some (.cells cs 102 (0,0)):=(Below.heap_alloc w1 _ g hW.lt).trans hc
  have HCA:Hid ((w1.alloc (Obj.cells #[.int .u8 u.toNat] 5)).heap[g]?=some (.cells cs 102 (0,0))):=hca
  have HOS:Hid (o+1<cs.size):=by
    have:i<L.length:=(List.getElem?_eq_some_iff.1 hx).1
    show o+1<cs.size
    omega
  clear hWa hW hw1 hown hc hs HC hca
  go_wp2_with (at_builtin; refine wpList_append_own_at _ rfl (.tmp 11) (.tmp 13) 98 rfl B 5 i0 _ 1 1 Tryz.underlying98 hi hz0 hz1 hz2 rfl (by omega) _ _ _ rfl HON.out _ 1 1 [.int .u8 u.toNat] rfl rfl HNW (by simp [Value.oneCell']) (by unfold maxLen; omega) (by omega) hszn ?_)
  intro v' w2 hown' hgrow _ hat
  have HP:Hid (WsAt B g (L.set i ⟨x.bs++[u],x.bad⟩) (w2.setCell ⟨g,i * 3+1,none⟩ v')∧Wrote g w (w2.setCell ⟨g,i * 3+1,none⟩ v')):=by
    have:=HW.out.1.put hx HV.out hgrow (l:=x.bs++[u]) (by simpa [OwnB,encU8] using hown') (by simpa using hat) (by simp)
    exact ⟨this.1,HW.out.2.trans this.2⟩
  have hne:=Lib.ownBlock_ne HON.out HCA.out (by decide)
  have hc2:w2.heap[g]?=some (.cells cs 102 (0,0)):=(hgrow.block g (Array.getElem?_eq_some_iff.1 HCA.out).1 (fun e=>hne e.symm)).trans HCA.out
  have hf2:w2.frozen? ⟨g,o+1,none⟩=false:=Lib.frozen_of_heap hc2 _
  obtain ⟨u1,hu1⟩:∃ u1,w2.cell? ⟨g,o+1,none⟩=some u1:=⟨cs[o+1]'HOS.out,by rw [Lib.cell_of_heap hc2]; simp⟩
  obtain ⟨va',vc',rfl⟩:=slice_of_ownK hown'
  rw [ho] at HP
  clear hown' hgrow hat hc2 HON HCA HW HV
  go_wp2_with fail
  go_ret
  exact ⟨rfl,HP.out⟩
set_option maxRecDepth 100000 in
set_option maxHeartbeats 1000000 in
theorem rbefore_any (x y:Ir) (w:World):Calls Tryz.prog 137 #[valR x,valR y] w fun e w'=>e=.returned (.bool (decide (ltI x y)))∧Below w.heap.size w w':=by
  obtain ⟨x0,x1,x2⟩:=x
  obtain ⟨y0,y1,y2⟩:=y
  have HW:Hid (decide (ltI (x0,x1,x2) (y0,y1,y2))=decide (x0<y0∨(x0=y0∧(x1<y1∨(x1=y1∧x2<y2))))):=rfl
  have B0:Below w.heap.size w ((w.alloc (Obj.cells #[.int .i64 x0,.int .i64 x1,.int .i64 x2] 77)).alloc (Obj.cells #[.int .i64 y0,.int .i64 y1,.int .i64 y2] 77)):=((Below.refl _ _).alloc (Nat.le_refl _) _).alloc (by simp) _
  unfold valR
  simp only
  by_cases h1:x0=y0
  · subst h1
    by_cases h2:x1=y1
    · subst h2
      go_enter Tryz.func137,Tryz.ntmps137
      go_wp2
      go_ret
      exact ⟨ret_bool (by rw [HW.out,Bool.eq_iff_iff]; simp),B0⟩
    · have h2':(x1 != y1)=true:=by simpa using h2
      go_enter Tryz.func137,Tryz.ntmps137
      go_wp2
      go_ret
      exact ⟨ret_bool (by rw [HW.out,Bool.eq_iff_iff]; simp; omega),B0⟩
  · have h1':(x0 != y0)=true:=by simpa using h1
    go_enter Tryz.func137,Tryz.ntmps137
    go_wp2
    go_ret
    exact ⟨ret_bool (by rw [HW.out,Bool.eq_iff_iff]; simp; omega),B0⟩
set_option maxRecDepth 100000 in
set_option maxHeartbeats 1000000 in
theorem rsame_any (es fs:List Ir) (u v:Value) (w:World) (hc:SlL es u w) (hd:SlL fs v w) (hl:es.length≤100000000) (_hm:fs.length≤100000000) :
    Calls Tryz.prog 69 #[u,v] w fun e w'=>e=.returned (.bool (decide (es=fs)))∧∃ m,w'=w.drewN m:=by
  obtain ⟨ao,cap,rfl,hc,_⟩:=hc
  obtain ⟨bo,dap,rfl,hd,_⟩:=hd
  by_cases hn:es.length=fs.length
  · have hn':(es.length:Int)=fs.length:=by omega
    rw [← hn]
    go_enter Tryz.func69,Tryz.ntmps69
    go_wp2
    go_loopw [5] (fun i wr=>∃ (j:Nat),i=.int .i64 j∧j≤es.length∧(es=fs↔es.drop j=fs.drop j)∧∃ m,wr=w.drewN m) (fun i _=>es.length - (intOf i).toNat)
    case atStart=>exact ⟨0,rfl,Nat.zero_le _,by simp,0,rfl⟩
    case round =>
      obtain ⟨j,rfl,hj,hrel,m0,rfl⟩:=hrel
      by_cases hlt:j<es.length
      · have hlt2:j<fs.length:=by omega
        obtain ⟨b,off,rfl,_,c0,c1,c2,_⟩:=hc.at (Below.refl _ _) hlt
        obtain ⟨b2,off2,rfl,_,d0,d1,d2,_⟩:=hd.at (Below.refl _ _) hlt2
        rw [List.drop_eq_getElem_cons hlt,List.drop_eq_getElem_cons hlt2] at hrel
        generalize es[j]=r at *
        generalize fs[j]=q at *
        simp only [List.cons.injEq] at hrel
        have HN:Hid (es.length=fs.length):=hn
        clear hc hd hn hn' hlt2
        by_cases h1:r=q
        · have HR:Hid (es=fs↔es.drop (j+1)=fs.drop (j+1)):=by show _↔_; rw [hrel]; exact ⟨fun h=>h.2,fun h=>⟨h1,h⟩⟩
          clear hrel
          subst h1
          obtain ⟨r0,r1,r2⟩:=r
          simp only at c0 c1 c2 d0 d1 d2
          go_wp2
          go_quiet (fail)
          go_wp2
          exact ⟨⟨j+1,by go_num,by omega,HR.out,(by first | exact drewN_two _ _ _ | exact ⟨_,rfl⟩)⟩,by simp [intOf]; omega⟩
        · have HR:Hid (¬ es=fs):=by show ¬ _; rw [hrel]; exact fun h=>h1 h.1
          clear hrel
          obtain ⟨r0,r1,r2⟩:=r
          obtain ⟨q0,q1,q2⟩:=q
          simp only at c0 c1 c2 d0 d1 d2
          have h3:¬ (r0=q0∧r1=q1∧r2=q2):=fun ⟨e1,e2,e3⟩=>h1 (by rw [e1,e2,e3])
          clear h1
          by_cases e0:r0=q0
          · subst e0
            by_cases e1:r1=q1
            · subst e1
              have e2:(r2 == q2)=false:=by
                have:¬ r2=q2:=fun h=>h3 ⟨rfl,rfl,h⟩
                simpa using this
              clear h3
              go_wp2
              go_quiet (fail)
              go_wp2
              go_ret
              exact ⟨ret_bool (by simp [HR.out]),(by first | exact drewN_two _ _ _ | exact ⟨_,rfl⟩)⟩
            · have e1':(r1 == q1)=false:=by simpa using e1
              clear h3
              go_wp2
              go_quiet (fail)
              go_wp2
              go_ret
              exact ⟨ret_bool (by simp [HR.out]),(by first | exact drewN_two _ _ _ | exact ⟨_,rfl⟩)⟩
          · have e0':(r0 == q0)=false:=by simpa using e0
            clear h3
            go_wp2
            go_quiet (fail)
            go_wp2
            go_ret
            exact ⟨ret_bool (by simp [HR.out]),(by first | exact drewN_two _ _ _ | exact ⟨_,rfl⟩)⟩
      · have HS:Hid (es=fs):=by
          show _=_
          rw [hrel,List.drop_of_length_le (by omega),List.drop_of_length_le (by omega)]
        clear hrel hc hd
        go_wp2
        go_ret
        exact ⟨ret_bool (by simp [HS.out]),m0,rfl⟩
  · have hn':¬ (es.length:Int)=fs.length:=by omega
    have HS:Hid (¬ es=fs):=fun h=>hn (by rw [h])
    have hn2:((es.length:Int) != fs.length)=true:=by simpa using hn'
    clear hc hd hn
    go_enter Tryz.func69,Tryz.ntmps69
    go_wp2
    go_ret
    exact ⟨ret_bool (by simp [HS.out]),0,rfl⟩
def IrssAt (R:List (List Ir)) (ao:Option Addr) (W:World):Prop :=
  ∀ (i:Nat) (l:List Ir),R[i]?=some l→∃ b off v,ao=some ⟨b,off,none⟩∧b<W.heap.size∧W.cell? ⟨b,off+i,none⟩=some v∧SlL l v W
theorem IrssAt.next {R:List (List Ir)} {ao:Option Addr} {W W':World} (h:IrssAt R ao W) (hb:Below W.heap.size W W'):IrssAt R ao W':=fun i r hr=>by
  obtain ⟨b,off,v,h0,h1,h2,h3⟩:=h i r hr
  exact ⟨b,off,v,h0,Nat.lt_of_lt_of_le h1 hb.size,(hb.cell (p:=⟨b,off+i,none⟩) h1).trans h2,h3.next hb⟩
theorem IrssAt.at {R:List (List Ir)} {ao:Option Addr} {w W:World} (h:IrssAt R ao w) (hb:Below w.heap.size w W) {j:Nat} (hj:j<R.length) :
    ∃ b off v,ao=some ⟨b,off,none⟩∧b<W.heap.size∧W.cell? ⟨b,off+j,none⟩=some v∧SlL R[j] v W:=h.next hb j R[j] (by simp [hj])
def SlLL (R:List (List Ir)) (v:Value) (W:World):Prop :=
  ∃ ao cap,v=.slice ao R.length cap∧IrssAt R ao W∧(ao=none→cap=0)∧R.length≤cap
theorem SlLL.next {R:List (List Ir)} {v:Value} {W W':World} (h:SlLL R v W) (hb:Below W.heap.size W W'):SlLL R v W':=by
  obtain ⟨ao,cap,h0,h1,h2⟩:=h
  exact ⟨ao,cap,h0,h1.next hb,h2⟩
theorem SlLL.nil (W:World):SlLL [] (.slice none 0 0) W:=⟨none,0,rfl,fun i l h=>by simp at h,fun _=>rfl,Nat.le_refl _⟩
def findI (A:List (List Ir)) (l:List Ir):Nat:=A.findIdx fun x=>decide (x=l)
theorem findI_at {A:List (List Ir)} {l:List Ir} {j:Nat} (h0:∀ k (hk:k<A.length),k<j→A[k]≠l) (hj:j<A.length) (h1:A[j]=l):findI A l=j:=by
  unfold findI
  rw [List.findIdx_eq hj]
  exact ⟨by simp [h1],fun k hk=>by simpa using h0 k (by omega) hk⟩
theorem findI_none {A:List (List Ir)} {l:List Ir} (h0:∀ k (hk:k<A.length),A[k]≠l):findI A l=A.length:=by
  unfold findI
  rw [List.findIdx_eq_length]
  intro x hx
  obtain ⟨k,hk,rfl⟩:=List.getElem_of_mem hx
  simpa using h0 k hk
theorem findI_eq_len {A:List (List Ir)} {l:List Ir}:findI A l=A.length↔l ∉ A:=by
  unfold findI
  rw [List.findIdx_eq_length]
  constructor
  · intro h hl; have:=h l hl; simp at this
  · intro h x hx; simp; rintro rfl; exact h hx
theorem findI_le (A:List (List Ir)) (l:List Ir):findI A l≤A.length:=List.findIdx_le_length
set_option maxRecDepth 100000 in
set_option maxHeartbeats 1000000 in
theorem rfind_any (R:List (List Ir)) (l:List Ir) (u v:Value) (w:World) (hc:SlLL R u w) (hd:SlL l v w) (hl:R.length≤1000000) (hR:∀ x∈R,x.length≤100000000) (hll:l.length≤100000000) :
    Calls Tryz.prog 36 #[u,v] w fun e w'=>e=.returned (.int .i64 (findI R l))∧Below w.heap.size w w':=by
  obtain ⟨ao,cap,rfl,hc,_⟩:=hc
  have hv:∃ a n c,v=.slice a n c:=by obtain ⟨a,c,h,_⟩:=hd; exact ⟨_,_,_,h⟩
  obtain ⟨va,vn,vc,rfl⟩:=hv
  have HV:Hid (∀ W,Below w.heap.size w W→SlL l (.slice va vn vc) W):=fun W hb=>hd.next hb
  have HC:Hid (∀ W,Below w.heap.size w W→IrssAt R ao W):=fun W hb=>hc.next hb
  have HR:Hid (∀ x∈R,x.length≤100000000):=hR
  clear hd hc hR
  go_enter Tryz.func36,Tryz.ntmps36
  go_wp2_with fail
  go_loopw [5] (fun i wr=>∃ (j:Nat),i=.int .i64 j∧j≤R.length∧(∀ k (hk:k<R.length),k<j→R[k]≠l)∧Below w.heap.size w wr) (fun i _=>R.length - (intOf i).toNat)
  case atStart=>exact ⟨0,rfl,Nat.zero_le _,by simp,Below.refl _ _⟩
  case round =>
    obtain ⟨j,rfl,hj,hrel,B1⟩:=hrel
    have HJ:Hid (∀ k (hk:k<R.length),k<j→R[k]≠l):=hrel
    clear hrel
    by_cases hlt:j<R.length
    · obtain ⟨b,off,x,rfl,_,c0,hx⟩:=(HC.out _ B1).at (Below.refl _ _) hlt
      have hxl:=HR.out _ (List.getElem_mem hlt)
      have hS:=rsame_any R[j] l x _ wr hx (HV.out _ B1) hxl hll
      have hx':∃ a n c,x=.slice a n c:=by obtain ⟨a,c,h,_⟩:=hx; exact ⟨_,_,_,h⟩
      obtain ⟨xa,xn,xc,rfl⟩:=hx'
      by_cases he:R[j]=l
      · have HF:Hid (findI R l=j):=findI_at HJ.out hlt he
        rw [decide_eq_true he] at hS
        have HS:Hid (Calls Tryz.prog 69 #[.slice xa xn xc,.slice va vn vc] wr fun e w'=>e=.returned (.bool true)∧∃ m,w'=wr.drewN m):=hS
        clear hS hx HJ he
        go_wp2_with fail
        refine HS.out.mono ?_
        rintro e w2 ⟨rfl,m,rfl⟩
        go_wp2_with fail
        go_ret
        exact ⟨ret_int (by rw [HF.out]),below_drewN B1 _⟩
      · have HJ2:Hid (∀ k (hk:k<R.length),k<j+1→R[k]≠l):=fun k hk h=>by
          by_cases e:k=j
          · subst e; exact he
          · exact HJ.out k hk (by omega)
        rw [decide_eq_false he] at hS
        have HS:Hid (Calls Tryz.prog 69 #[.slice xa xn xc,.slice va vn vc] wr fun e w'=>e=.returned (.bool false)∧∃ m,w'=wr.drewN m):=hS
        clear hS hx HJ he
        go_wp2_with fail
        refine HS.out.mono ?_
        rintro e w2 ⟨rfl,m,rfl⟩
        go_wp2_with fail
        exact ⟨⟨j+1,by go_num,by omega,HJ2.out,below_drewN B1 _⟩,by simp [intOf]; omega⟩
    · obtain rfl:j=R.length:=by omega
      have HF:Hid (findI R l=R.length):=findI_none (fun k hk=>HJ.out k hk hk)
      clear HJ
      go_wp2_with fail
      go_ret
      exact ⟨ret_int (by rw [HF.out]),B1⟩
def QRow (D:Nat→Prop) (size:Nat) (v:Value) (n:Nat) (xs:List Value) (W:World):Prop :=
  ∃ ao b off cap,v=.slice ao n cap∧Came W size ao b off n cap xs∧(0<cap→D b)
theorem QRow.nil (D:Nat→Prop) (size:Nat) (W:World):QRow D size (.slice none 0 0) 0 [] W :=
  ⟨none,0,0,0,rfl,⟨Nat.le_refl _,fun h=>by omega,fun h=>by omega,by simp,by simp,fun j h=>by simp at h⟩,fun h=>by omega⟩
theorem QRow.of_own {D:Nat→Prop} {W:World} {B n size:Nat} {e:TypeId} {v:Value} {xs:List Value} (h:W.ownsRow B e size v n xs) (hD:∀ k,B≤k→D k):QRow D size v n xs W:=by
  have h0:=h
  obtain ⟨h1,h2⟩:=h
  rcases h2 with ⟨rfl,hn⟩ | ⟨g,cap,cur,rfl,hB,hg,hcap,hm,hsz,hx⟩
  · subst hn
    obtain rfl:xs=[]:=List.eq_nil_of_length_eq_zero (by simpa using h1)
    exact QRow.nil _ _ _
  · refine ⟨_,g,0,cap,rfl,⟨hcap,fun _=>rfl,fun _=>(Array.getElem?_eq_some_iff.1 hg).1,h1,fun j u hj=>?_,fun j hj=>?_⟩,fun _=>hD g hB⟩
    · have:=World.ownsRow.cells h0 (g:=g) rfl j u hj
      rwa [add_plain] at this
    · have hlt:n * size+j<cur.size:=by rw [hsz]; rw [Nat.sub_mul] at hj; omega
      refine ⟨?_,World.ownsRow.frozenAt h0 _⟩
      simp [World.cell?,hg,hlt]
theorem QRow.but {D E:Nat→Prop} {W W':World} {n size:Nat} {v:Value} {xs:List Value} (h:QRow D size v n xs W) (hb:But E W W') (hE:∀ k,D k→¬ E k):QRow D size v n xs W':=by
  obtain ⟨ao,b,off,cap,h0,h1,h2⟩:=h
  rcases Nat.eq_zero_or_pos cap with hz | hz
  · subst hz
    have hn:n=0:=Nat.le_zero.1 h1.le
    subst hn
    obtain rfl:xs=[]:=List.eq_nil_of_length_eq_zero (by simpa using h1.oldsLen)
    exact ⟨ao,b,off,0,h0,⟨Nat.le_refl _,fun h=>by omega,fun h=>by omega,by simp,by simp,fun j h=>by simp at h⟩,fun h=>by omega⟩
  · have hbl:=h1.lt hz
    have hE':=hE b (h2 hz)
    refine ⟨ao,b,off,cap,h0,⟨h1.le,h1.addr,fun _=>Nat.lt_of_lt_of_le hbl hb.size,h1.oldsLen,fun j u hj=>?_,fun j hj=>?_⟩,h2⟩
    · exact (hb.cell (p:=⟨b,off+j,none⟩) hbl hE').trans (h1.olds j u hj)
    · have:=h1.spare j hj
      rw [hb.cell (p:=⟨b,off+n * size+j,none⟩) hbl hE',hb.frozen (p:=⟨b,off+n * size+j,none⟩) hbl hE']
      exact this
theorem QRow.next {D:Nat→Prop} {W W':World} {n size:Nat} {v:Value} {xs:List Value} (h:QRow D size v n xs W) (hb:Below W.heap.size W W'):QRow D size v n xs W' :=
  h.but (E:=fun _=>False) (But.of_next hb) (fun _ _ h=>h)
theorem QRow.mono {D E:Nat→Prop} {W:World} {n size:Nat} {v:Value} {xs:List Value} (h:QRow D size v n xs W) (hd:∀ k,k<W.heap.size→D k→E k):QRow E size v n xs W:=by
  obtain ⟨ao,b,off,cap,h0,h1,h2⟩:=h
  exact ⟨ao,b,off,cap,h0,h1,fun h=>hd b (h1.lt h) (h2 h)⟩
theorem QRow.cut {D:Nat→Prop} {W:World} {n size:Nat} {b off cap:Nat} {xs ys:List Value} (h:QRow D size (.slice (some ⟨b,off,none⟩) (n+1) cap) (n+1) (xs++ys) W) (hx:xs.length=size) :
    (1<cap→QRow D size (.slice (some ⟨b,off+size,none⟩) n (cap - 1)) n ys W)∧(cap=1→n=0∧QRow D size (.slice (some ⟨b,off,none⟩) 0 0) n ys W):=by
  obtain ⟨ao,b',off',cap',h0,h1,h2⟩:=h
  cases h0
  have hle:=h1.le
  have hb:=h1.addr (by omega)
  cases hb
  have hl:=h1.oldsLen
  rw [List.length_append,hx,Nat.add_mul,Nat.one_mul] at hl
  refine ⟨fun hc=>⟨_,b,off+size,cap - 1,rfl,⟨by omega,fun _=>rfl,fun _=>h1.lt (by omega),by omega,fun j u hj=>?_,fun j hj=>?_⟩,fun _=>h2 (by omega)⟩,fun hc=>?_⟩
  · have:=h1.olds (size+j) u (by rw [List.getElem?_append_right (by omega),hx,Nat.add_sub_cancel_left]; exact hj)
    rwa [← Nat.add_assoc] at this
  · have:=h1.spare j (by rw [show cap - (n+1)=cap - 1 - n by omega]; exact hj)
    rw [Nat.add_mul,Nat.one_mul,show off+(n * size+size)+j=off+size+n * size+j by omega] at this
    exact this
  · have hn:n=0:=by omega
    subst hn
    obtain rfl:ys=[]:=List.eq_nil_of_length_eq_zero (by omega)
    exact ⟨rfl,_,0,0,0,rfl,⟨Nat.le_refl _,fun h=>by omega,fun h=>by omega,by simp,by simp,fun j h=>by simp at h⟩,fun h=>by omega⟩
theorem tape_setCells (b:Nat):∀ (vs:List Value) (o:Nat) (w:World),(w.setCells b o vs).tape=w.tape
  | [],_,_=>rfl
  | v :: r,o,w=>by rw [World.setCells,tape_setCells b r]; rfl
theorem But.setCells {D:Nat→Prop} (w:World) (b o:Nat) (vs:List Value) (hD:D b):But D w (w.setCells b o vs):=by
  refine ⟨World.os_setCells w b o vs,tape_setCells b vs o w,World.output_setCells w b o vs,?_,fun k hk hd=>World.heap_setCells_other w b o vs hk (fun e=>hd (e ▸ hD))⟩
  have:=(World.keptBut_setCells b (may:=fun _=>True) vs o w (fun _ _=>trivial)).size
  exact this
theorem run_append_q {P:Program} {w:World} {D:Nat→Prop} {n:Nat} {v:Value} {xs:List Value} (t ty e:TypeId) (i:TypeInfo) (z:Value) (size bytes:Nat) (ht:P.underlying t=some (.slice e)) (hi:P.info? e=some i) (hz:i.zero=some z) (hsize:i.size=size) (hby:i.bytes=bytes) (hzs:z.cells.size=size) (hsz:0<size)
    (h:QRow D size v n xs w) (hD:∀ k,w.heap.size≤k→D k) (ad:Addr) (c:Nat) (news:List Value) (hl:news.length=size) (hnews:∀ j u,news[j]?=some u→w.cell? (ad.add j)=some u) (h1:∀ u∈news,u.oneCell'=true)
    (h63:n+1≤maxLen) (hbytes:(n+1) * bytes≤140737488355328) :
    ∃ v' w',(Builtin.append_ #[t,t] ty #[v,.slice (some ad) 1 c]).run P w=.ok v' w'∧QRow D size v' (n+1) (xs++news) w'∧But D w w':=by
  obtain ⟨ao,b,off,cap,rfl,hc,hb⟩:=h
  have hgrow:∀ {w':World},w.grownBy w' none→But D w w':=fun hg=>⟨hg.os,hg.tape,hg.output,hg.size,fun k hk _=>hg.block k hk (by simp)⟩
  by_cases hroom:n+1≤cap
  · have hcap:0<cap:=by omega
    have hao:=hc.addr hcap
    subst hao
    have hfit:size≤(cap - n) * size:=Nat.le_mul_of_pos_left _ (by omega)
    have hrun:=run_append_room_cells (P:=P) w t ty e i ht hi b off n cap ad 1 c news (by rw [hl,hsize,Nat.one_mul]) hnews h1 hroom
      (fun j hj=>by rw [hsize]; exact (hc.spare j (by omega)).1) (fun j hj=>by rw [hsize]; exact (hc.spare j (by omega)).2)
    rw [hsize] at hrun
    have hsome:∀ j,j<news.length→(w.cell? ⟨b,off+n * size+j,none⟩).isSome=true:=fun j hj=>(hc.spare j (by omega)).1
    have hB:But D w (w.setCells b (off+n * size) news):=But.setCells w b _ news (hb hcap)
    have hol:=hc.oldsLen
    refine ⟨_,_,hrun,⟨_,b,off,cap,rfl,⟨hroom,fun _=>rfl,fun _=>Nat.lt_of_lt_of_le (hc.lt hcap) hB.size,by rw [List.length_append,hol,hl,Nat.add_mul,Nat.one_mul],fun j u hj=>?_,fun j hj=>?_⟩,fun _=>hb hcap⟩,hB⟩
    · by_cases hjl:j<xs.length
      · rw [List.getElem?_append_left hjl] at hj
        rw [World.cell?_setCells_out b _ _ _ _ (fun _ _=>Or.inl (by show off+j<_; omega))]
        exact hc.olds j u hj
      · rw [List.getElem?_append_right (by omega)] at hj
        have hlt:=(List.getElem?_eq_some_iff.1 hj).1
        have:=World.cell?_setCells_in b news (off+n * size) w hsome (j - xs.length) hlt
        rw [show off+n * size+(j - xs.length)=off+j by omega] at this
        rw [this,← hj,List.getElem?_eq_getElem hlt]
    · rw [Nat.add_mul,Nat.one_mul,World.frozen?_setCells,World.cell?_setCells_out b _ _ _ _ (fun _ _=>Or.inr (by show _≤off+(n * size+size)+j; omega))]
      have hj':size+j<(cap - n) * size:=by
        have:(cap - n) * size=(cap - (n+1)) * size+size:=by rw [show cap - n=cap - (n+1)+1 by omega,Nat.add_mul,Nat.one_mul]
        omega
      have:=hc.spare (size+j) hj'
      rwa [show off+n * size+(size+j)=off+(n * size+size)+j by omega] at this
  · cases ao with
    | none =>
      have hcap:cap=0:=by
        rcases Nat.eq_zero_or_pos cap with h0 | h0
        · exact h0
        · have:=hc.addr h0; cases this
      subst hcap
      have hn:n=0:=Nat.le_zero.1 hc.le
      subst hn
      obtain rfl:xs=[]:=List.eq_nil_of_length_eq_zero (by simpa using hc.oldsLen)
      obtain ⟨v',w',hrun,r1,r2,_⟩:=run_append_own (P:=P) w w.heap.size t ty e i z size bytes ht hi hz hsize hby hzs hsz (.slice none 0 0) 0 [] (World.ownsRow_nil w _ e size) ad 1 c news (by rw [hl,Nat.one_mul]) hnews h1 h63 hbytes (Nat.le_refl _)
      exact ⟨v',w',hrun,QRow.of_own r1 hD,hgrow r2⟩
    | some a' =>
      have holds:∀ j u,xs[j]?=some u→w.cell? (a'.add j)=some u:=fun j u hj=>by
        rcases Nat.eq_zero_or_pos cap with h0 | h0
        · subst h0
          have hn:n=0:=Nat.le_zero.1 hc.le
          subst hn
          obtain rfl:xs=[]:=List.eq_nil_of_length_eq_zero (by simpa using hc.oldsLen)
          simp at hj
        · have:=hc.addr h0
          cases this
          rw [add_plain]
          exact hc.olds j u hj
      obtain ⟨v',w',hrun,r1,r2⟩:=run_append_arg_grows (P:=P) w t ty e i z size bytes ht hi hz hsize hby hzs hsz a' n cap xs hc.oldsLen holds ad 1 c news (by rw [hl,Nat.one_mul]) hnews (by omega) h63 hbytes
      exact ⟨v',w',hrun,QRow.of_own r1 hD,hgrow r2⟩
theorem wp_append_q {P:Program} {w:World} {o:Oper} {a:Act} {K:Act→World→Prop} {Q:Exit→Act→World→Prop} (s x:Operand) (t:TypeId)
    (ho:o.op=.call { callee:=.builtin .append,args:=#[s,x],argTypes:=#[t,t] }) {D:Nat→Prop} {n:Nat} {v:Value} {xs:List Value} (e:TypeId) (i:TypeInfo) (z:Value) (size bytes:Nat) (ht:P.underlying t=some (.slice e)) (hi:P.info? e=some i) (hz:i.zero=some z) (hsize:i.size=size) (hby:i.bytes=bytes) (hzs:z.cells.size=size) (hsz:0<size)
    (hs:a.eval s=v) (h:QRow D size v n xs w) (hD:∀ k,w.heap.size≤k→D k) (ad:Addr) (c:Nat) (news:List Value) (hx:a.eval x=.slice (some ad) 1 c) (hl:news.length=size) (hnews:∀ j u,news[j]?=some u→w.cell? (ad.add j)=some u) (h1:∀ u∈news,u.oneCell'=true)
    (h63:n+1≤maxLen) (hbytes:(n+1) * bytes≤140737488355328)
    (hK:∀ v' w',QRow D size v' (n+1) (xs++news) w'→But D w w'→K (a.put o.dst v') w'):o.wp P a w K Q:=by
  obtain ⟨v',w',hrun,k1,k2⟩:=run_append_q (P:=P) (w:=w) t o.type e i z size bytes ht hi hz hsize hby hzs hsz h hD ad c news hl hnews h1 h63 hbytes
  unfold Oper.wp
  simp [execOp,ho,resolve,invoke,builtin,hs,hx,hrun,Result.andThen]
  exact hK v' w' k1 k2
theorem wpList_append_q {P:Program} {w:World} {ops:Array Oper} {rest:List Oper} {o:Oper} {a:Act} {Q:Exit→Act→World→Prop} (hgd:o.guard=none) (s x:Operand) (t:TypeId)
    (ho:o.op=.call { callee:=.builtin .append,args:=#[s,x],argTypes:=#[t,t] }) {D:Nat→Prop} {n:Nat} {v:Value} {xs:List Value} (e:TypeId) (i:TypeInfo) (z:Value) (size bytes:Nat) (ht:P.underlying t=some (.slice e)) (hi:P.info? e=some i) (hz:i.zero=some z) (hsize:i.size=size) (hby:i.bytes=bytes) (hzs:z.cells.size=size) (hsz:0<size)
    (hs:a.eval s=v) (h:QRow D size v n xs w) (hD:∀ k,w.heap.size≤k→D k) (ad:Addr) (c:Nat) (news:List Value) (hx:a.eval x=.slice (some ad) 1 c) (hl:news.length=size) (hnews:∀ j u,news[j]?=some u→w.cell? (ad.add j)=some u) (h1:∀ u∈news,u.oneCell'=true)
    (h63:n+1≤maxLen) (hbytes:(n+1) * bytes≤140737488355328)
    (hK:∀ v' w',QRow D size v' (n+1) (xs++news) w'→But D w w'→wpList P ops Q rest (a.put o.dst v') w'):wpList P ops Q (o :: rest) a w:=by
  obtain ⟨v',w',hrun,k1,k2⟩:=run_append_q (P:=P) (w:=w) t o.type e i z size bytes ht hi hz hsize hby hzs hsz h hD ad c news hl hnews h1 h63 hbytes
  refine wpList_plain hgd fun _ hK'=>?_
  unfold Oper.wp
  simp [execOp,ho,resolve,invoke,builtin,hs,hx,hrun,Result.andThen]
  exact hK' _ _ (hK v' w' k1 k2)
theorem wpList_cut_q {w:World} {ops:Array Oper} {rest:List Oper} {o:Oper} {a:Act} {Q:Exit→Act→World→Prop} (hgd:o.guard=none) (s:Operand)
    (ho:o.op=.slice 64 s (some (.const (.int .i64 1))) none none) {D:Nat→Prop} {n b off cap:Nat} {xs ys:List Value}
    (hs:a.eval s=.slice (some ⟨b,off,none⟩) (n+1) cap) (h:QRow D 3 (.slice (some ⟨b,off,none⟩) (n+1) cap) (n+1) (xs++ys) w) (hx:xs.length=3)
    (hK:∀ v',QRow D 3 v' n ys w→wpList Tryz.prog ops Q rest (a.put o.dst v') w):wpList Tryz.prog ops Q (o :: rest) a w:=by
  obtain ⟨h1,h2⟩:=h.cut hx
  have hle:n+1≤cap:=by obtain ⟨_,_,_,_,e,hc,_⟩:=h; cases e; exact hc.le
  refine wpList_plain hgd fun _ hK'=>?_
  rcases Nat.lt_or_ge 1 cap with hc | hc
  · have hk:=hK' _ _ (hK _ (h1 hc))
    unfold Oper.wp
    have hcz:(1:Int)≤(n:Int)+1:=by omega
    simp only [execOp,ho,hs]
    simp [go_sem,Instr.slice,hcz]
    rw [if_neg (by omega)]
    exact hk
  · have hc1:cap=1:=by omega
    subst hc1
    obtain ⟨rfl,h3⟩:=h2 rfl
    have hk:=hK' _ _ (hK _ h3)
    unfold Oper.wp
    simp only [execOp,ho,hs]
    simp [go_sem,Instr.slice]
    exact hk
theorem QRow.shape {D:Nat→Prop} {W:World} {n size:Nat} {v:Value} {xs:List Value} (h:QRow D size v n xs W):∃ ao cap,v=.slice ao n cap:=by
  obtain ⟨ao,b,off,cap,h0,_⟩:=h; exact ⟨ao,cap,h0⟩
theorem QRow.irs {D:Nat→Prop} {W:World} {v:Value} {l:List Ir} (h:QRow D 3 v l.length (l.flatMap encR) W) (hok:∀ x∈l,okR x):SlL l v W:=by
  obtain ⟨ao,b,off,cap,h0,h1,h2⟩:=h
  refine ⟨ao,cap,h0,fun i x hi=>?_,fun e=>?_,h1.le⟩
  · have hil:=(List.getElem?_eq_some_iff.1 hi).1
    have hcap:0<cap:=by have:=h1.le; omega
    refine ⟨b,off,h1.addr hcap,h1.lt hcap,?_,?_,?_,hok x (List.mem_of_getElem? hi)⟩
    · have:=h1.olds (i * 3+0) (.int .i64 x.1) (by rw [flatR_get hi (by omega)]; rfl)
      simpa using this
    · have:=h1.olds (i * 3+1) (.int .i64 x.2.1) (by rw [flatR_get hi (by omega)]; rfl)
      simpa [Nat.add_assoc] using this
    · have:=h1.olds (i * 3+2) (.int .i64 x.2.2) (by rw [flatR_get hi (by omega)]; rfl)
      simpa [Nat.add_assoc] using this
  · rcases Nat.eq_zero_or_pos cap with hz | hz
    · exact hz
    · have:=h1.addr hz; rw [e] at this; cases this
theorem SlI.but {D:Nat→Prop} {W W':World} {l:List Int} {v:Value} (h:SlI l v W) (hb:But D W W') (hd:∀ ad n c,v=.slice (some ad) n c→l≠[]→¬ D ad.block):SlI l v W':=by
  obtain ⟨ao,cap,h0,h1,h2⟩:=h
  refine ⟨ao,cap,h0,fun i x hi=>?_,h2⟩
  obtain ⟨b,off,e,hbl,hc⟩:=h1 i x hi
  subst e
  have hnd:=hd _ _ _ h0 (fun e=>by subst e; simp at hi)
  exact ⟨b,off,rfl,Nat.lt_of_lt_of_le hbl hb.size,(hb.cell (p:=⟨b,off+i,none⟩) hbl hnd).trans hc⟩
theorem SlL.but {D:Nat→Prop} {W W':World} {l:List Ir} {v:Value} (h:SlL l v W) (hb:But D W W') (hd:∀ ad n c,v=.slice (some ad) n c→l≠[]→¬ D ad.block):SlL l v W':=by
  obtain ⟨ao,cap,h0,h1,h2⟩:=h
  refine ⟨ao,cap,h0,fun i x hi=>?_,h2⟩
  obtain ⟨b,off,e,hbl,c0,c1,c2,hok⟩:=h1 i x hi
  subst e
  have hnd:=hd _ _ _ h0 (fun e=>by subst e; simp at hi)
  exact ⟨b,off,rfl,Nat.lt_of_lt_of_le hbl hb.size,(hb.cell (p:=⟨b,off+i * 3,none⟩) hbl hnd).trans c0,(hb.cell (p:=⟨b,off+i * 3+1,none⟩) hbl hnd).trans c1,(hb.cell (p:=⟨b,off+i * 3+2,none⟩) hbl hnd).trans c2,hok⟩
open Classical in
noncomputable def closF (f:Fl) (S:List Ir):List Ir:=if h:∃ L,ClosI f (fun x=>x∈S) L then h.choose else []
theorem closF_eq {f:Fl} {S L:List Ir} (h:ClosI f (fun x=>x∈S) L):closF f S=L:=by
  unfold closF
  have hx:∃ L,ClosI f (fun x=>x∈S) L:=⟨L,h⟩
  rw [dif_pos hx]
  exact closI_unique hx.choose_spec h
theorem closF_len {f:Fl} (hp:FitP f) (S:List Ir):(closF f S).length≤maxI:=by
  unfold closF
  split
  · rename_i h; exact h.choose_spec.len hp
  · simp
noncomputable def gotoF (f:Fl) (l:List Ir) (s:Int):List Ir:=closF f (movedL f l s)
open Classical in
noncomputable def addA (A:List (List Ir)) (g:List Ir):List (List Ir):=if g≠[]∧g ∉ A then A++[g] else A
noncomputable def rowA (f:Fl) (l:List Ir):Nat→Nat→List (List Ir)→Option (List (List Ir))
  | _,0,A=>some A
  | s,k+1,A=>if (addA A (gotoF f l s)).length > 600 then none else rowA f l (s+1) k (addA A (gotoF f l s))
noncomputable def runA (f:Fl):Nat→Nat→List (List Ir)→Option (List (List Ir))
  | 0,_,A=>some A
  | k+1,i,A=>match A[i]? with
    | none=>some A
    | some l=>match rowA f l 0 f.n A with
      | none=>none
      | some A'=>runA f k (i+1) A'
noncomputable def allF (f:Fl):Option (List (List Ir)):=runA f 601 0 [closF f (begL f)]
noncomputable def restA (f:Fl) (l:List Ir) (i s:Nat) (A:List (List Ir)):Option (List (List Ir)) :=
  match rowA f l s (f.n - s) A with
  | none=>none
  | some A'=>runA f (600 - i) (i+1) A'
theorem runA_end {f:Fl} {i:Nat} {A:List (List Ir)} (hi:i=A.length) (h:i≤600):runA f (601 - i) i A=some A:=by
  rw [show 601 - i=(600 - i)+1 by omega,runA]
  rw [List.getElem?_eq_none (by omega)]
theorem runA_at {f:Fl} {i:Nat} {A:List (List Ir)} {l:List Ir} (hl:A[i]?=some l) (h:i≤600):runA f (601 - i) i A=restA f l i 0 A:=by
  rw [show 601 - i=(600 - i)+1 by omega,runA,hl]
  rfl
theorem restA_end {f:Fl} {l:List Ir} {i s:Nat} {A:List (List Ir)} (hs:f.n≤s):restA f l i s A=runA f (600 - i) (i+1) A:=by
  unfold restA
  rw [show f.n - s=0 by omega,rowA]
theorem restA_many {f:Fl} {l:List Ir} {i s:Nat} {A:List (List Ir)} (hs:s<f.n) (h:(addA A (gotoF f l s)).length > 600):restA f l i s A=none:=by
  unfold restA
  rw [show f.n - s=(f.n - (s+1))+1 by omega,rowA,if_pos h]
theorem restA_next {f:Fl} {l:List Ir} {i s:Nat} {A:List (List Ir)} (hs:s<f.n) (h:¬ (addA A (gotoF f l s)).length > 600):restA f l i s A=restA f l i (s+1) (addA A (gotoF f l s)):=by
  unfold restA
  rw [show f.n - s=(f.n - (s+1))+1 by omega,rowA,if_neg h]
theorem addA_new {A:List (List Ir)} {g:List Ir} (h:g≠[]) (k:g ∉ A):addA A g=A++[g]:=by unfold addA; rw [if_pos ⟨h,k⟩]
theorem addA_nil (A:List (List Ir)):addA A []=A:=by unfold addA; simp
theorem addA_old {A:List (List Ir)} {g:List Ir} (k:g∈A):addA A g=A:=by unfold addA; rw [if_neg (fun h=>h.2 k)]
def inB (v:Value) (k:Nat):Prop:=∃ off n c,v=.slice (some ⟨k,off,none⟩) n c∧0<c
theorem inB.of {ad:Addr} {n c:Nat} {k:Nat} (h:inB (.slice (some ad) n c) k):ad.block=k:=by
  obtain ⟨_,_,_,e,_⟩:=h
  cases e; rfl
theorem QRow.exact {D:Nat→Prop} {W:World} {n size:Nat} {v:Value} {xs:List Value} (h:QRow D size v n xs W):QRow (fun k=>D k∧inB v k∧k<W.heap.size) size v n xs W:=by
  obtain ⟨ao,b,off,cap,h0,h1,h2⟩:=h
  exact ⟨ao,b,off,cap,h0,h1,fun hc=>⟨h2 hc,⟨off,n,cap,by rw [h0,h1.addr hc],hc⟩,h1.lt hc⟩⟩
def OwnLL (B:Nat) (R:List (List Ir)) (v:Value) (W:World):Prop :=
  ∃ hv:List Value,hv.length=R.length∧QRow (fun k=>B≤k∧inB v k) 1 v R.length hv W ∧
    ∀ (i:Nat) (l:List Ir) (u:Value),R[i]?=some l→hv[i]?=some u→SlL l u W∧∀ ad n c,u=.slice (some ad) n c→l≠[]→¬ inB v ad.block
theorem SlL.lt {l:List Ir} {ad:Addr} {n c:Nat} {W:World} (h:SlL l (.slice (some ad) n c) W) (hl:l≠[]):ad.block<W.heap.size:=by
  obtain ⟨ao,cap,h0,h1,_⟩:=h
  cases h0
  obtain ⟨x,l',rfl⟩:=List.exists_cons_of_ne_nil hl
  obtain ⟨b,off,e,hb,_⟩:=h1 0 x rfl
  cases e; exact hb
theorem OwnLL.next {B:Nat} {R:List (List Ir)} {v:Value} {W W':World} (h:OwnLL B R v W) (hb:Below W.heap.size W W'):OwnLL B R v W':=by
  obtain ⟨hv,h0,h1,h2⟩:=h
  exact ⟨hv,h0,h1.next hb,fun i l u hl hu=>⟨(h2 i l u hl hu).1.next hb,(h2 i l u hl hu).2⟩⟩
theorem OwnLL.shape {B:Nat} {R:List (List Ir)} {v:Value} {W:World} (h:OwnLL B R v W):∃ ao cap,v=.slice ao R.length cap:=by
  obtain ⟨hv,h0,h1,h2⟩:=h
  exact h1.shape
theorem OwnLL.sl {B:Nat} {R:List (List Ir)} {v:Value} {W:World} (h:OwnLL B R v W):SlLL R v W:=by
  obtain ⟨hv,h0,⟨ao,b,off,cap,rfl,hc,_⟩,h2⟩:=h
  refine ⟨ao,cap,rfl,fun i l hl=>?_,fun hn=>?_,hc.le⟩
  · have hi:i<R.length:=(List.getElem?_eq_some_iff.1 hl).1
    have hcp:0<cap:=by have:=hc.le; omega
    have hu:hv[i]?=some hv[i]:=by simp [h0,hi]
    exact ⟨b,off,hv[i],hc.addr hcp,hc.lt hcp,hc.olds i _ hu,(h2 i l _ hl hu).1⟩
  · rcases Nat.eq_zero_or_pos cap with h | h
    · exact h
    · rw [hn] at hc; have:=hc.addr h; cases this
theorem OwnLL.lt {B:Nat} {R:List (List Ir)} {v:Value} {W:World} {ad:Addr} {n c:Nat} (h:OwnLL B R v W) (hv:v=.slice (some ad) n c) (hc:0<c):ad.block<W.heap.size:=by
  obtain ⟨hw,h0,⟨ao,b,off,cap,e,hc',_⟩,h2⟩:=h
  rw [hv] at e; cases e
  have h3:=hc'.addr hc
  cases h3
  exact hc'.lt hc
theorem OwnLL.inLt {B:Nat} {R:List (List Ir)} {v:Value} {W:World} {k:Nat} (h:OwnLL B R v W) (hk:inB v k):k<W.heap.size:=by
  obtain ⟨off,n,c,e,hc⟩:=hk
  exact h.lt e hc
theorem OwnLL.grow {B:Nat} {R:List (List Ir)} {v lv:Value} {l:List Ir} {W:World} (h:OwnLL B R v W) (hB:B≤W.heap.size) (hl:SlL l lv W) (ha:∀ ad n c,lv=.slice (some ad) n c→l≠[]→¬ inB v ad.block) :
    ∃ (hv:List Value) (D:Nat→Prop),QRow D 1 v R.length hv W∧(∀ k,W.heap.size≤k→D k)∧∀ v' W',QRow D 1 v' (R.length+1) (hv++[lv]) W'→But D W W'→OwnLL B (R++[l]) v' W'∧Below B W W':=by
  obtain ⟨hv,h0,h1,h2⟩:=h
  refine ⟨hv,fun k=>(B≤k∧inB v k)∨W.heap.size≤k,h1.mono (fun k _ hk=>.inl hk),fun k hk=>.inr hk,fun v' W' hq hb=>⟨⟨hv++[lv],by simp [h0],?_,?_⟩,hb.below hB (fun k hk=>?_)⟩⟩
  · have:=hq.exact.mono (E:=fun k=>B≤k∧inB v' k) (fun k _ hk=>⟨?_,hk.2.1⟩)
    · simpa using this
    · rcases hk.1 with h | h
      · exact h.1
      · exact Nat.le_trans hB h
  · have hnew:∀ k,inB v' k→(B≤k∧inB v k)∨W.heap.size≤k:=by
      intro k hk
      obtain ⟨ao,b,off,cap,e,hc,hD⟩:=hq
      obtain ⟨off',n',c',e',_⟩:=hk
      have hcp:0<cap:=by have:=hc.le; omega
      rw [e,hc.addr hcp] at e'
      cases e'
      exact hD hcp
    intro i l' u hl' hu
    have key:SlL l' u W∧∀ ad n c,u=.slice (some ad) n c→l'≠[]→¬ inB v ad.block:=by
      rcases Nat.lt_or_ge i R.length with hi | hi
      · rw [List.getElem?_append_left hi] at hl'
        rw [List.getElem?_append_left (by omega)] at hu
        exact h2 i l' u hl' hu
      · rw [List.getElem?_append_right hi] at hl'
        rw [List.getElem?_append_right (by omega),h0] at hu
        rcases hj:i - R.length with _ | j
        · rw [hj] at hl' hu; simp at hl' hu; subst hl' hu; exact ⟨hl,ha⟩
        · rw [hj] at hl'; simp at hl'
    have kd:∀ ad n c,u=.slice (some ad) n c→l'≠[]→¬ ((B≤ad.block∧inB v ad.block)∨W.heap.size≤ad.block):=fun ad n c e hne hd=>by
      rcases hd with hd | hd
      · exact key.2 ad n c e hne hd.2
      · have:=(e ▸ key.1:SlL l' (.slice (some ad) n c) W).lt hne; omega
    exact ⟨key.1.but hb kd,fun ad n c e hne hin=>kd ad n c e hne (hnew _ hin)⟩
  · rcases hk with h | h
    · exact h.1
    · exact Nat.le_trans hB h
theorem OwnLL.one {B:Nat} {lv:Value} {l:List Ir} {W:World} {ty:TypeId} (hB:B≤W.heap.size) (hl:SlL l lv W):OwnLL B [l] (.slice (some ⟨W.heap.size,0,none⟩) 1 1) (W.alloc (Obj.cells #[lv] ty)):=by
  have hb:Below W.heap.size W (W.alloc (Obj.cells #[lv] ty)):=(Below.refl _ _).alloc (Nat.le_refl _) _
  have h0:(W.alloc (Obj.cells #[lv] ty)).cell? ⟨W.heap.size,0,none⟩=some lv:=by simp
  refine ⟨[lv],rfl,⟨_,W.heap.size,0,1,rfl,⟨Nat.le_refl _,fun _=>rfl,fun _=>by simp,rfl,fun j u hj=>?_,fun j hj=>by simp at hj⟩,fun _=>⟨hB,0,1,1,rfl,by omega⟩⟩,fun i l' u hl' hu=>?_⟩
  · rcases j with _ | j
    · simp at hj; subst hj; exact h0
    · simp at hj
  · rcases i with _ | i
    · simp at hl' hu; subst hl' hu
      refine ⟨hl.next hb,fun ad n c e hne hin=>?_⟩
      subst e
      have:=hl.lt hne
      have:=inB.of hin
      simp only at this
      omega
    · simp at hl'
def symsN (N:Nat) (l:List It):List Nat:=(l.filter fun x=>decide (0≤x.sym∧x.sym<(N:Int))).map fun x=>x.sym.toNat
theorem symsN_cons_no {N:Nat} {x:It} {l:List It} (h:x.sym<0∨(N:Int)≤x.sym):symsN N (x :: l)=symsN N l:=by
  unfold symsN; rw [List.filter_cons_of_neg (by simp; omega)]
theorem symsN_cons_yes {N:Nat} {x:It} {l:List It} (h:¬ (x.sym<0∨(N:Int)≤x.sym)):symsN N (x :: l)=x.sym.toNat :: symsN N l:=by
  unfold symsN; rw [List.filter_cons_of_pos (by simp; omega)]; rfl
theorem rowAt_gives {P:Nat→Int→Prop} {n:Nat} {R:List (List Int)} (h:GivesR P n R) {s:Nat} (hs:s<n) {t:Int}:t∈rowAt R s↔P s t:=by
  rw [← inR_row (by rw [h.1]; exact hs)]; exact h.2.2 s hs t
theorem onb_gives {base:Nat→Prop} {g:Gr} {n:Nat} {L:List Bool} (h:GivesB base g n L) {s:Nat} (hs:s<n):onb L s=true↔Der base g s:=by
  rw [onb_iff]; exact h.2 s hs
theorem row_le_gives {P:Nat→Int→Prop} {n m:Nat} {R:List (List Int)} (h:GivesR P n R) (hb:∀ s t,P s t→0≤t∧t<m) (s:Nat):(rowAt R s).length≤m:=by
  by_cases hs:s<R.length
  · have hr:Rising (rowAt R s):=by rw [rowAt_get hs]; exact h.2.1 _ (List.getElem_mem hs)
    exact rising_length hr (fun t ht=>hb s t ((rowAt_gives h (by rw [← h.1]; exact hs)).1 ht))
  · have:rowAt R s=[]:=by unfold rowAt; rw [List.getD_eq_getElem?_getD,List.getElem?_eq_none (by omega)]; rfl
    rw [this]; simp
theorem first_row_le {f:Fl} {R:List (List Int)} (hn:f.n≤600) (h:GivesR (FstP f) f.n R) (s:Nat):(rowAt R s).length≤601:=by
  have ht:f.terms.length≤f.n:=by unfold Fl.n; omega
  exact row_le_gives (m:=601) h (fun s t h=>by have h1:=fst_lt h; omega) s
end Go.Proofs.YtbilbgjojdlobaaGreatDoor
namespace Go.Proofs.YtbilbgjojdlobaaGreatDoor
def lookF (R:List (List Int)) (Le:List Bool):List Nat→List Int→List Int × Bool
  | [],A=>(A,true)
  | s :: r,A=>if onb Le s=true then lookF R Le r (unionL A (rowAt R s)) else (unionL A (rowAt R s),false)
def looksL (R:List (List Int)) (Le:List Bool) (sy:List Nat) (k:Int):List Int :=
  if (lookF R Le sy []).2=true then unionL (lookF R Le sy []).1 [k] else (lookF R Le sy []).1
theorem lookF_rise {R Le}:∀ {sy:List Nat} {A:List Int},Rising A→Rising (lookF R Le sy A).1
  | [],_,h=>h
  | s :: r,A,h=>by
    rw [lookF]; split
    · exact lookF_rise (rising_unionL h)
    · exact rising_unionL h
theorem lookF_mem {R:List (List Int)} {Le:List Bool} {N:Nat} {emp:Nat→Prop} {fst:Nat→Int→Prop} (hR:∀ s,s<N→∀ t,t∈rowAt R s↔fst s t) (hL:∀ s,s<N→(onb Le s=true↔emp s)) :
    ∀ {sy:List Nat} {A:List Int} {t:Int},(∀ s∈sy,s<N)→(t∈(lookF R Le sy A).1↔t∈A∨Beg emp fst (fun _=>False) sy t)
  | [],A,t,_=>by
    rw [lookF]
    constructor
    · exact .inl
    · rintro (h | h)
      · exact h
      · cases h with | behind h=>exact h.elim
  | s :: r,A,t,hs=>by
    have hsn:=hs s (by simp)
    rw [lookF]; split
    · rename_i ho
      rw [lookF_mem hR hL (fun x hx=>hs x (by simp [hx])),mem_unionL,hR _ hsn]
      constructor
      · rintro ((h | h) | h)
        · exact .inl h
        · exact .inr (.here h)
        · exact .inr (.next ((hL _ hsn).1 ho) h)
      · rintro (h | h)
        · exact .inl (.inl h)
        · cases h with
          | here h=>exact .inl (.inr h)
          | next _ h=>exact .inr h
    · rename_i ho
      rw [mem_unionL,hR _ hsn]
      constructor
      · rintro (h | h)
        · exact .inl h
        · exact .inr (.here h)
      · rintro (h | h)
        · exact .inl h
        · cases h with
          | here h=>exact .inr h
          | next h _=>exact absurd ((hL _ hsn).2 h) ho
theorem lookF_all {R:List (List Int)} {Le:List Bool} {N:Nat} {emp:Nat→Prop} (hL:∀ s,s<N→(onb Le s=true↔emp s)) :
    ∀ {sy:List Nat} {A:List Int},(∀ s∈sy,s<N)→((lookF R Le sy A).2=true↔∀ s∈sy,emp s)
  | [],A,_=>by rw [lookF]; simp
  | s :: r,A,hs=>by
    have hsn:=hs s (by simp)
    rw [lookF]; split
    · rename_i ho
      rw [lookF_all hL (fun x hx=>hs x (by simp [hx]))]
      simp [(hL _ hsn).1 ho]
    · rename_i ho
      simp only [Bool.false_eq_true,List.mem_cons,forall_eq_or_imp,false_iff,not_and]
      intro h; exact absurd ((hL _ hsn).2 h) ho
theorem looksL_mem {R:List (List Int)} {Le:List Bool} {N:Nat} {emp:Nat→Prop} {fst:Nat→Int→Prop} (hR:∀ s,s<N→∀ t,t∈rowAt R s↔fst s t) (hL:∀ s,s<N→(onb Le s=true↔emp s)) {sy:List Nat} {k t:Int} (hs:∀ s∈sy,s<N) :
    t∈looksL R Le sy k↔Beg emp fst (fun t=>t=k) sy t:=by
  rw [beg_iff]
  unfold looksL
  have h1:=lookF_mem hR hL (A:=[]) (t:=t) hs
  have h2:=lookF_all (R:=R) hL (A:=[]) hs
  simp at h1
  split
  · rename_i h
    rw [mem_unionL,h1]
    simp only [List.mem_singleton]
    exact ⟨fun h'=>h'.imp id (fun e=>⟨h2.1 h,e⟩),fun h'=>h'.imp id (fun e=>e.2)⟩
  · rename_i h
    rw [h1]
    constructor
    · exact .inl
    · rintro (h' | h')
      · exact h'
      · exact absurd (h2.2 h'.1) h
theorem looksL_rise {R Le sy k}:Rising (looksL R Le sy k):=by
  unfold looksL
  have:=lookF_rise (R:=R) (Le:=Le) (sy:=sy) (A:=[]) List.Pairwise.nil
  split
  · exact rising_unionL this
  · exact this
structure FE (f:Fl) (R:List (List Int)) (Le:List Bool):Prop where
  r:GivesR (FstP f) f.n R
  e:GivesB (fun _=>False) f.gr f.n Le
theorem FE.looks {f:Fl} {R:List (List Int)} {Le:List Bool} (h:FE f R Le) (hp:FitP f) {x:Ir} {t:Int}:t∈looksL R Le (behI f x) x.2.2↔LookP f x t :=
  looksL_mem (emp:=EmpP f) (fst:=FstP f) (fun _ hs _=>rowAt_gives h.r hs) (fun _ hs=>onb_gives h.e hs) (behI_lt hp)
theorem rising_le {l:List Int} {m:Nat} (h:Rising l) (hb:∀ x∈l,0≤x∧x<m):l.length≤m:=rising_length h hb
theorem FE.looks_len {f:Fl} {R:List (List Int)} {Le:List Bool} (h:FE f R Le) (hp:FitP f) {x:Ir} (hx:fitI f x=true):(looksL R Le (behI f x) x.2.2).length≤601:=by
  refine rising_le looksL_rise (fun t ht=>?_)
  have:=look_le hx ((h.looks hp).1 ht)
  have:=hp.size
  omega
def addsL (f:Fl) (R:List (List Int)) (Le:List Bool) (x:Ir):List Ir :=
  match nextI f x with
  | some s=>(ofA f s).flatMap fun q=>(looksL R Le (behI f x) x.2.2).map fun t=>(q,0,t)
  | none=>[]
theorem adds_iff {f:Fl} {R:List (List Int)} {Le:List Bool} (h:FE f R Le) (hp:FitP f) {x y:Ir}:y∈addsL f R Le x↔∃ (s t:Int) (q:Nat) (p:Pr),y=((q:Int),(0:Int),t)∧nextI f x=some s∧f.prods[q]?=some p∧p.left=s∧LookP f x t:=by
  unfold addsL
  cases hn:nextI f x with
  | none=>simp
  | some s =>
    simp only [List.mem_flatMap,List.mem_map]
    constructor
    · rintro ⟨q',hq',t,ht,rfl⟩
      obtain ⟨q,p,rfl,h1,h2⟩:=mem_ofA.1 hq'
      exact ⟨s,t,q,p,rfl,rfl,h1,h2,(h.looks hp).1 ht⟩
    · rintro ⟨s',t,q,p,rfl,e,h1,h2,h3⟩
      cases e
      exact ⟨q,mem_ofA.2 ⟨q,p,rfl,h1,h2⟩,t,(h.looks hp).2 h3,rfl⟩
theorem flatMap_const_len {α β:Type} (g:α→List β) {k:Nat}:∀ {l:List α},(∀ x∈l,(g x).length≤k)→(l.flatMap g).length≤l.length * k
  | [],_=>by simp
  | x :: l,h=>by
    rw [List.flatMap_cons,List.length_append,List.length_cons,Nat.add_mul,Nat.one_mul]
    have h1:=h x (by simp)
    have h2:=flatMap_const_len g (l:=l) (fun y hy=>h y (by simp [hy]))
    omega
theorem ofA_len {f:Fl} (hp:FitP f) (s:Int):(ofA f s).length≤400:=Nat.le_trans (ofL_len _ _ _) hp.prods
theorem adds_len {f:Fl} {R:List (List Int)} {Le:List Bool} (h:FE f R Le) (hp:FitP f) {x:Ir}:(addsL f R Le x).length≤240400:=by
  unfold addsL
  cases hn:nextI f x with
  | none=>simp
  | some s =>
    have h1:=flatMap_const_len (fun q:Int=>(looksL R Le (behI f x) x.2.2).map fun t=>((q,0,t):Ir)) (k:=601) (l:=ofA f s) (fun q _=>by rw [List.length_map]; exact h.looks_len hp (nextI_fit hn))
    have h2:=ofA_len hp s
    simp only
    have h3:(ofA f s).length * 601≤400 * 601:=Nat.mul_le_mul_right _ h2
    omega
structure CW (f:Fl) (S:Ir→Prop) (set todo:List Ir):Prop where
  rise:RisingI set
  sound:∀ x∈set,Cl f S x
  tsound:∀ x∈todo,fitI f x=true→Cl f S x
  base:∀ x,S x→fitI f x=true→x∈set∨x∈todo
  closed:∀ x∈set,∀ (s t:Int) (q:Nat) (p:Pr),nextI f x=some s→f.prods[q]?=some p→p.left=s→LookP f x t→((q:Int),(0:Int),t)∈set∨((q:Int),(0:Int),t)∈todo
theorem CW.start (f:Fl) (l:List Ir):CW f (fun x=>x∈l) [] l :=
  ⟨List.Pairwise.nil,by simp,fun x hx hf=>.base hx hf,fun x hx _=>.inr hx,by simp⟩
theorem CW.skip {f:Fl} {S:Ir→Prop} {set rest:List Ir} {x:Ir} (h:CW f S set (x :: rest)) (hx:fitI f x=false∨x∈set):CW f S set rest:=by
  have key:∀ y,fitI f y=true→y∈set∨y∈x :: rest→y∈set∨y∈rest:=fun y hy h'=>by
    rcases h' with h' | h'
    · exact .inl h'
    · rcases List.mem_cons.1 h' with rfl | h'
      · rcases hx with hx | hx
        · rw [hx] at hy; cases hy
        · exact .inl hx
      · exact .inr h'
  refine ⟨h.rise,h.sound,fun y hy=>h.tsound y (by simp [hy]),fun y hy hf=>key y hf (h.base y hy hf),fun y hy s t q p hn hq hl hk=>key _ ?_ (h.closed y hy s t q p hn hq hl hk)⟩
  exact fit_zero hq (look_le (nextI_fit hn) hk)
theorem CW.new {f:Fl} {S:Ir→Prop} {set rest adds:List Ir} {x:Ir} (h:CW f S set (x :: rest)) (hx:fitI f x=true) (hA:∀ y,y∈adds↔∃ (s t:Int) (q:Nat) (p:Pr),y=((q:Int),(0:Int),t)∧nextI f x=some s∧f.prods[q]?=some p∧p.left=s∧LookP f x t):CW f S (putI x set) (rest++adds):=by
  have hcx:=h.tsound x (by simp) hx
  have key:∀ y,y∈set∨y∈x :: rest→y∈putI x set∨y∈rest++adds:=fun y h'=>by
    rcases h' with h' | h'
    · exact .inl (mem_putI.2 (.inr h'))
    · rcases List.mem_cons.1 h' with rfl | h'
      · exact .inl (mem_putI.2 (.inl rfl))
      · exact .inr (List.mem_append.2 (.inl h'))
  refine ⟨rising_putI h.rise,fun y hy=>?_,fun y hy hf=>?_,fun y hy hf=>key y (h.base y hy hf),fun y hy s t q p hn hq hl hk=>?_⟩
  · rcases mem_putI.1 hy with rfl | hy
    · exact hcx
    · exact h.sound y hy
  · rcases List.mem_append.1 hy with hy | hy
    · exact h.tsound y (by simp [hy]) hf
    · obtain ⟨s,t,q,p,rfl,k1,k2,k3,k4⟩:=(hA y).1 hy
      exact .step hcx k1 k2 k3 k4
  · rcases mem_putI.1 hy with rfl | hy
    · exact .inr (List.mem_append.2 (.inr ((hA _).2 ⟨s,t,q,p,rfl,hn,hq,hl,hk⟩)))
    · exact key _ (h.closed y hy s t q p hn hq hl hk)
theorem CW.done {f:Fl} {S:Ir→Prop} {set:List Ir} (h:CW f S set []):ClosI f S set :=
  ⟨h.rise,fun x=>⟨h.sound x,fun hx=>cl_least (A:=fun x=>x∈set) (fun y hy hf=>by rcases h.base y hy hf with h' | h'; exact h'; cases h') (fun y s t q p hy hn hq hl hk=>by rcases h.closed y hy s t q p hn hq hl hk with h' | h'; exact h'; cases h') hx⟩⟩
theorem CW.len {f:Fl} {S:Ir→Prop} {set todo:List Ir} (hp:FitP f) (h:CW f S set todo):set.length≤maxI:=items_le hp h.rise.nodup (fun x hx=>cl_fit (h.sound x hx))
theorem no_adds {f:Fl} (hp:FitP f) {x:Ir} (hs:∀ s,nextI f x=some s→s<f.terms.length):∀ y,y∈([]:List Ir)↔∃ (s t:Int) (q:Nat) (p:Pr),y=((q:Int),(0:Int),t)∧nextI f x=some s∧f.prods[q]?=some p∧p.left=s∧LookP f x t:=by
  intro y
  simp only [List.not_mem_nil,false_iff]
  rintro ⟨s,t,q,p,_,hn,hq,hl,_⟩
  have h1:=hs s hn
  have h2:=hp.left p (List.mem_of_getElem? hq)
  omega
end Go.Proofs.YtbilbgjojdlobaaGreatDoor
namespace Go.Proofs.YtbilbgjojdlobaaGreatDoor
open Classical in
theorem closI_exists {f:Fl} (hp:FitP f) (S:Ir→Prop):∃ L,ClosI f S L:=by
  let cands:List Ir:=(List.range 401).flatMap fun (p:Nat)=>(List.range 65).flatMap fun (d:Nat)=>(List.range 601).map fun (t:Nat)=>(((p:Int) - 1,(d:Int),(t:Int)):Ir)
  have hc:∀ x:Ir,fitI f x=true→x∈cands:=by
    intro x hx
    have h1:=fitI_iff.1 hx
    have h2:=rightI_le hp x.1
    have h3:=hp.prods
    have h4:f.terms.length+f.nons.length≤600:=hp.size
    refine List.mem_flatMap.2 ⟨(x.1+1).toNat,List.mem_range.2 (by omega),List.mem_flatMap.2 ⟨x.2.1.toNat,List.mem_range.2 (by omega),List.mem_map.2 ⟨x.2.2.toNat,List.mem_range.2 (by omega),?_⟩⟩⟩
    exact ir_ext (by simp only; omega) (by simp only; omega) (by simp only; omega)
  clear_value cands
  have key:∀ l:List Ir,RisingI (l.foldr putI [])∧∀ x,x∈l.foldr putI []↔x∈l:=by
    intro l
    induction l with
    | nil=>exact ⟨by simp [RisingI],by simp⟩
    | cons a l ih=>exact ⟨rising_putI ih.1,fun x=>by rw [List.foldr_cons,mem_putI,ih.2,List.mem_cons]⟩
  obtain ⟨k1,k2⟩:=key (cands.filter fun x=>decide (Cl f S x))
  refine ⟨_,k1,fun x=>(k2 x).trans ?_⟩
  rw [List.mem_filter,decide_eq_true_eq]
  exact ⟨fun h=>h.2,fun h=>⟨hc x (cl_fit h),h⟩⟩
theorem closF_spec {f:Fl} (hp:FitP f) (S:List Ir):ClosI f (fun x=>x∈S) (closF f S):=by
  obtain ⟨L,hL⟩:=closI_exists hp (fun x=>x∈S)
  rw [closF_eq hL]; exact hL
structure Kern (f:Fl) (K:List Ir):Prop where
  ne:K≠[]
  rise:RisingI K
  fit:∀ x∈K,fitI f x=true
  dot:∀ x∈K,0<x.2.1
theorem movedL_rise {f:Fl} {l:List Ir} {s:Int} (h:RisingI l):RisingI (movedL f l s):=by
  unfold movedL RisingI at *
  rw [List.pairwise_map]
  refine (h.filter _).imp (fun {a b} hab=>?_)
  unfold ltI at *
  simp only
  omega
theorem mem_movedL {f:Fl} {l:List Ir} {s:Int} {x:Ir}:x∈movedL f l s↔∃ y∈l,nextI f y=some s∧x=(y.1,y.2.1+1,y.2.2):=by
  unfold movedL
  simp only [List.mem_map,List.mem_filter,decide_eq_true_eq]
  constructor
  · rintro ⟨y,⟨h1,h2⟩,rfl⟩; exact ⟨y,h1,h2,rfl⟩
  · rintro ⟨y,h1,h2,rfl⟩; exact ⟨y,⟨h1,h2⟩,rfl⟩
theorem movedL_kern {f:Fl} {l:List Ir} {s:Int} (h:RisingI l) (hne:movedL f l s≠[]):Kern f (movedL f l s) :=
  ⟨hne,movedL_rise h,movedL_fit,fun x hx=>by
    obtain ⟨y,_,hn,rfl⟩:=mem_movedL.1 hx
    have:=fitI_iff.1 (nextI_fit hn)
    simp only
    omega⟩
theorem Kern.mem {f:Fl} (hp:FitP f) {K:List Ir} (h:Kern f K) (x:Ir):x∈K↔x∈closF f K∧0<x.2.1:=by
  rw [(closF_spec hp K).2 x]
  constructor
  · intro hx; exact ⟨.base hx (h.fit x hx),h.dot x hx⟩
  · rintro ⟨hc,hd⟩
    rcases cl_dot hc with h | h
    · exact h
    · omega
theorem Kern.inj {f:Fl} (hp:FitP f) {K M:List Ir} (h:Kern f K) (k:Kern f M) (e:closF f K=closF f M):K=M :=
  risingI_ext h.rise k.rise (fun x=>by rw [h.mem hp,k.mem hp,e])
theorem closF_ne {f:Fl} (hp:FitP f) {K:List Ir} (h:Kern f K):closF f K≠[]:=by
  obtain ⟨x,l,rfl⟩:=List.exists_cons_of_ne_nil h.ne
  intro e
  have:=((h.mem hp x).1 (by simp)).1
  rw [e] at this; cases this
theorem closF_nil {f:Fl} (hp:FitP f):closF f []=[]:=by
  have h:=closF_spec hp ([]:List Ir)
  refine List.eq_nil_iff_forall_not_mem.2 (fun x hx=>?_)
  have:=(h.2 x).1 hx
  exact (cl_least (A:=fun _=>False) (fun x h _=>by cases h) (fun _ _ _ _ _ h _ _ _ _=>h) this)
theorem Kern.beg {f:Fl} (hp:FitP f) {K:List Ir} (h:Kern f K):closF f K≠closF f (begL f):=by
  obtain ⟨x,l,rfl⟩:=List.exists_cons_of_ne_nil h.ne
  intro e
  have h1:=(h.mem hp x).1 (by simp)
  rw [e,(closF_spec hp _).2 x] at h1
  rcases cl_dot h1.1 with h2 | h2
  · simp [begL] at h2; subst h2; exact absurd h1.2 (by simp)
  · omega
def kernsFrom (f:Fl) (l:List Ir) (s k:Nat):List (List Ir):=((List.range' s k).map fun (s:Nat)=>movedL f l (s:Int)).filter fun K=>!K.isEmpty
def kernsL (f:Fl) (l:List Ir):List (List Ir):=kernsFrom f l 0 f.n
def rowK:List (List Ir)→List (List Ir)→Option (List (List Ir))
  | [],T=>some T
  | K :: Ks,T=>if K∈T then rowK Ks T else if T.length+1=600 then none else rowK Ks (T++[K])
theorem rowK_append:∀ (a b T:List (List Ir)),rowK (a++b) T=(rowK a T).bind (rowK b)
  | [],b,T=>rfl
  | K :: a,b,T=>by
    simp only [List.cons_append,rowK]
    split
    · exact rowK_append a b T
    · split
      · rfl
      · exact rowK_append a b _
theorem kernsFrom_succ (f:Fl) (l:List Ir) (s k:Nat):kernsFrom f l s (k+1)=(if movedL f l (s:Int)=[] then [] else [movedL f l (s:Int)])++kernsFrom f l (s+1) k:=by
  unfold kernsFrom
  rw [List.range'_succ,List.map_cons,List.filter_cons]
  by_cases h:movedL f l (s:Int)=[]
  · rw [if_pos h,h]; simp
  · rw [if_neg h,if_pos (by simp [h])]; rfl
theorem kernsL_kern {f:Fl} {l:List Ir} (h:RisingI l):∀ K∈kernsL f l,Kern f K:=by
  intro K hK
  unfold kernsL kernsFrom at hK
  obtain ⟨h1,h2⟩:=List.mem_filter.1 hK
  obtain ⟨s,_,rfl⟩:=List.mem_map.1 h1
  exact movedL_kern h (by simpa using h2)
def Met (f:Fl) (T:List (List Ir)):Prop:=∀ K∈T,Kern f K
noncomputable def setsOf (f:Fl) (T:List (List Ir)):List (List Ir):=closF f (begL f) :: T.map (closF f)
theorem mem_setsOf {f:Fl} (hp:FitP f) {T:List (List Ir)} (hT:Met f T) {K:List Ir} (hK:Kern f K):closF f K∈setsOf f T↔K∈T:=by
  unfold setsOf
  rw [List.mem_cons,List.mem_map]
  constructor
  · rintro (h | ⟨M,hM,e⟩)
    · exact absurd h (hK.beg hp)
    · rw [← (hT M hM).inj hp hK e]; exact hM
  · intro h; exact .inr ⟨K,h,rfl⟩
theorem rowA_rowK {f:Fl} (hp:FitP f) {l:List Ir} (hl:RisingI l):∀ (k s:Nat) (T:List (List Ir)),Met f T→T.length+1≤600 →
    rowA f l s k (setsOf f T)=(rowK (kernsFrom f l s k) T).map (setsOf f)
  | 0,s,T,_,_=>by simp [rowA,kernsFrom,rowK]
  | k+1,s,T,hT,hlen=>by
    rw [rowA,kernsFrom_succ]
    have hsl:(setsOf f T).length=T.length+1:=by simp [setsOf]
    unfold gotoF
    by_cases h:movedL f l (s:Int)=[]
    · rw [if_pos h,h,closF_nil hp,addA_nil,if_neg (by omega),List.nil_append]
      exact rowA_rowK hp hl k (s+1) T hT hlen
    · have hK:=movedL_kern hl h
      rw [if_neg h,List.singleton_append,rowK]
      by_cases hin:movedL f l (s:Int)∈T
      · rw [if_pos hin,addA_old ((mem_setsOf hp hT hK).2 hin),if_neg (by omega)]
        exact rowA_rowK hp hl k (s+1) T hT hlen
      · rw [if_neg hin,addA_new (closF_ne hp hK) (fun h=>hin ((mem_setsOf hp hT hK).1 h))]
        by_cases h6:T.length+1=600
        · rw [if_pos h6,if_pos (by simp [hsl,h6])]; rfl
        · rw [if_neg h6,if_neg (by simp [hsl]; omega)]
          have e:setsOf f T++[closF f (movedL f l (s:Int))]=setsOf f (T++[movedL f l (s:Int)]):=by simp [setsOf]
          rw [e]
          refine rowA_rowK hp hl k (s+1) _ (fun K hK'=>?_) (by simp; omega)
          rcases List.mem_append.1 hK' with h' | h'
          · exact hT K h'
          · simp at h'; subst h'; exact hK
theorem rowK_met {f:Fl}:∀ (Ks T T':List (List Ir)),(∀ K∈Ks,Kern f K)→Met f T→T.Nodup→T.length+1≤600→rowK Ks T=some T'→Met f T'∧T'.Nodup∧T'.length+1≤600∧T <+: T'
  | [],T,T',_,hT,hn,hl,h=>by
    simp only [rowK,Option.some.injEq] at h
    subst h; exact ⟨hT,hn,hl,List.prefix_refl _⟩
  | K :: Ks,T,T',hK,hT,hn,hl,h=>by
    rw [rowK] at h
    split at h
    · exact rowK_met Ks T T' (fun K hk=>hK K (by simp [hk])) hT hn hl h
    · split at h
      · cases h
      · rename_i h1 h2
        obtain ⟨k1,k2,k3,k4⟩:=rowK_met Ks (T++[K]) T' (fun K hk=>hK K (by simp [hk])) (fun M hM=>by
          rcases List.mem_append.1 hM with h' | h'
          · exact hT M h'
          · simp at h'; subst h'; exact hK M (by simp)) (by
          rw [List.nodup_append]
          refine ⟨hn,by simp,fun a ha b hb=>?_⟩
          simp at hb; subst hb
          rintro rfl; exact h1 ha) (by simp; omega) h
        exact ⟨k1,k2,k3,(List.prefix_append _ _).trans k4⟩
theorem setsOf_get {f:Fl} {T:List (List Ir)} {i:Nat} {K:List Ir} (h:(begL f :: T)[i]?=some K):(setsOf f T)[i]?=some (closF f K):=by
  have e:setsOf f T=(begL f :: T).map (closF f):=by simp [setsOf]
  rw [e,List.getElem?_map,h]; rfl
theorem run_step {f:Fl} (hp:FitP f) {T:List (List Ir)} {i:Nat} {K:List Ir} (hT:Met f T) (hl:T.length+1≤600) (hi:i≤600) (h:(begL f :: T)[i]?=some K) :
    runA f (601 - i) i (setsOf f T)=(rowK (kernsL f (closF f K)) T).bind fun T'=>runA f (600 - i) (i+1) (setsOf f T'):=by
  rw [show 601 - i=(600 - i)+1 by omega,runA,setsOf_get h]
  simp only
  rw [rowA_rowK hp (closF_spec hp K).1 f.n 0 T hT hl]
  unfold kernsL
  cases rowK (kernsFrom f (closF f K) 0 f.n) T <;> rfl
theorem run_start (f:Fl):allF f=runA f (601 - 0) 0 (setsOf f []):=rfl
theorem run_end {f:Fl} {T:List (List Ir)} {i:Nat} (hi:i=T.length+1) (h:i≤600):runA f (601 - i) i (setsOf f T)=some (setsOf f T):=runA_end (by simp [setsOf,hi]) h
end Go.Proofs.YtbilbgjojdlobaaGreatDoor
namespace Go.Proofs.YtbilbgjojdlobaaGreatDoor
theorem addA_prefix (A:List (List Ir)) (g:List Ir):A <+: addA A g:=by
  unfold addA
  split
  · exact List.prefix_append _ _
  · exact List.prefix_refl _
theorem addA_nodup {A:List (List Ir)} {g:List Ir} (h:A.Nodup):(addA A g).Nodup:=by
  unfold addA
  split
  · rename_i hg
    rw [List.nodup_append]
    refine ⟨h,by simp,fun a ha b hb=>?_⟩
    simp at hb; subst hb
    rintro rfl; exact hg.2 ha
  · exact h
theorem addA_mem {A:List (List Ir)} {g:List Ir} (h:g≠[]):g∈addA A g:=by
  unfold addA
  split
  · simp
  · rename_i hg
    exact Classical.byContradiction fun hn=>hg ⟨h,hn⟩
theorem rowA_facts {f:Fl} {l:List Ir}:∀ (k s:Nat) (A A':List (List Ir)),rowA f l s k A=some A'→A.length≤600→A.Nodup→A <+: A'∧A'.Nodup∧A'.length≤600∧∀ s':Nat,s≤s'→s'<s+k→gotoF f l s'≠[]→gotoF f l s'∈A'
  | 0,s,A,A',h,hl,hn=>by
    simp only [rowA,Option.some.injEq] at h
    subst h
    exact ⟨List.prefix_refl _,hn,hl,fun s' h1 h2=>by omega⟩
  | k+1,s,A,A',h,hl,hn=>by
    rw [rowA] at h
    split at h
    · cases h
    · rename_i hle
      obtain ⟨h1,h2,h3,h4⟩:=rowA_facts k (s+1) _ A' h (by omega) (addA_nodup hn)
      refine ⟨(addA_prefix A _).trans h1,h2,h3,fun s' k1 k2 hne=>?_⟩
      rcases Nat.eq_or_lt_of_le k1 with e | e
      · subst e
        exact h1.subset (addA_mem hne)
      · exact h4 s' e (by omega) hne
theorem runA_facts {f:Fl}:∀ (k i:Nat) (A A':List (List Ir)),runA f k i A=some A'→k+i=601→A.length≤600→A.Nodup→(∀ (j:Nat) (l:List Ir),j<i→A[j]?=some l→∀ s:Nat,s<f.n→gotoF f l s≠[]→gotoF f l s∈A) →
    A <+: A'∧A'.Nodup∧A'.length≤600∧∀ (j:Nat) (l:List Ir),A'[j]?=some l→∀ s:Nat,s<f.n→gotoF f l s≠[]→gotoF f l s∈A'
  | 0,i,A,A',h,hi,hl,hn,hc=>by
    simp only [runA,Option.some.injEq] at h
    subst h
    exact ⟨List.prefix_refl _,hn,hl,fun j l hj=>hc j l (by have:=(List.getElem?_eq_some_iff.1 hj).1; omega) hj⟩
  | k+1,i,A,A',h,hi,hl,hn,hc=>by
    rw [runA] at h
    cases hA:A[i]? with
    | none =>
      rw [hA] at h
      simp only [Option.some.injEq] at h
      subst h
      have:=List.getElem?_eq_none_iff.1 hA
      exact ⟨List.prefix_refl _,hn,hl,fun j l hj=>hc j l (by have:=(List.getElem?_eq_some_iff.1 hj).1; omega) hj⟩
    | some l =>
      rw [hA] at h
      simp only at h
      cases hr:rowA f l 0 f.n A with
      | none=>rw [hr] at h; cases h
      | some A2 =>
        rw [hr] at h
        simp only at h
        obtain ⟨h1,h2,h3,h4⟩:=rowA_facts f.n 0 A A2 hr hl hn
        obtain ⟨k1,k2,k3,k4⟩:=runA_facts k (i+1) A2 A' h (by omega) h3 h2 (fun j l' hj hl' s hs hne=>by
          have hli:=(List.getElem?_eq_some_iff.1 hA).1
          obtain ⟨r,rfl⟩:=h1
          rw [List.getElem?_append_left (by omega)] at hl'
          rcases Nat.lt_or_ge j i with e | e
          · exact List.mem_append_left _ (hc j l' e hl' s hs hne)
          · obtain rfl:j=i:=by omega
            rw [hA] at hl'; cases hl'
            exact h4 s (by omega) (by omega) hne)
        exact ⟨h1.trans k1,k2,k3,k4⟩
theorem all_facts {f:Fl} {A:List (List Ir)} (h:allF f=some A):A[0]?=some (closF f (begL f))∧A.Nodup∧∀ (j:Nat) (l:List Ir),A[j]?=some l→∀ s:Nat,s<f.n→gotoF f l s≠[]→gotoF f l s∈A:=by
  obtain ⟨h1,h2,h3,h4⟩:=runA_facts 601 0 [closF f (begL f)] A h rfl (by simp) (by simp) (fun j l hj=>by omega)
  refine ⟨?_,h2,h4⟩
  obtain ⟨r,rfl⟩:=h1
  rfl
theorem findI_nodup {A:List (List Ir)} (hn:A.Nodup) {i:Nat} (hi:i<A.length):findI A A[i]=i :=
  findI_at (fun k hk hki e=>by
    have:=(List.pairwise_iff_getElem.1 hn) k i hk hi hki
    exact this e) hi rfl
end Go.Proofs.YtbilbgjojdlobaaGreatDoor
namespace Go.Proofs.YtbilbgjojdlobaaGreatDoor
def redL (f:Fl) (l:List Ir) (t:Int):List Int:=(l.filter fun x=>decide (nextI f x=none∧x.2.2=t∧0≤x.1)).map (·.1)
def accL (f:Fl) (l:List Ir) (t:Int):Bool:=l.any fun x=>decide (nextI f x=none∧x.2.2=t∧x.1<0)
def endL (f:Fl) (l:List Ir) (t:Int):Bool:=l.any fun x=>decide (nextI f x=none∧x.2.2=t)
noncomputable def toF (f:Fl) (R:List (List Ir)) (l:List Ir) (s:Nat):Option Int:=if movedL f l (s:Int)=[] then none else some (findI R (gotoF f l s):Int)
noncomputable def goRow (f:Fl) (R:List (List Ir)) (l:List Ir):List (Int × Int):=(List.range f.n).filterMap fun s=>(toF f R l s).map fun (t:Int)=>((s:Int),t)
noncomputable def actAt (f:Fl) (R:List (List Ir)) (l:List Ir) (t:Nat):Ac:=⟨t,if t<f.terms.length then (toF f R l t).getD (-1) else -1,redL f l t,accL f l t⟩
def someA (a:Ac):Bool:=decide (0≤a.to∨a.acc=true∨a.red≠[])
noncomputable def actRow (f:Fl) (R:List (List Ir)) (l:List Ir):List Ac:=((List.range (f.terms.length+1)).map (actAt f R l)).filter someA
noncomputable def rowT (f:Fl) (R:List (List Ir)) (l:List Ir):Rw:=⟨actRow f R l,goRow f R l⟩
noncomputable def tabF (f:Fl):Option (List Rw):=(allF f).map fun R=>R.map (rowT f R)
theorem redL_append (f:Fl) (l m:List Ir) (t:Int):redL f (l++m) t=redL f l t++redL f m t:=by simp [redL]
theorem accL_append (f:Fl) (l m:List Ir) (t:Int):accL f (l++m) t=(accL f l t || accL f m t):=by simp [accL]
theorem endL_append (f:Fl) (l m:List Ir) (t:Int):endL f (l++m) t=(endL f l t || endL f m t):=by simp [endL]
theorem movedL_append (f:Fl) (l m:List Ir) (s:Int):movedL f (l++m) s=movedL f l s++movedL f m s:=by simp [movedL]
theorem endL_iff (f:Fl) (l:List Ir) (t:Int):endL f l t=true↔redL f l t≠[]∨accL f l t=true:=by
  simp only [endL,accL,redL,List.any_eq_true,decide_eq_true_eq,ne_eq,List.map_eq_nil_iff,List.filter_eq_nil_iff,Classical.not_forall]
  constructor
  · rintro ⟨x,hx,h1,h2⟩
    rcases (by omega:x.1<0∨0≤x.1) with h | h
    · exact .inr ⟨x,hx,h1,h2,h⟩
    · exact .inl ⟨x,hx,fun hn=>hn ⟨h1,h2,h⟩⟩
  · rintro (⟨x,hx,h⟩ | ⟨x,hx,h1,h2,_⟩)
    · simp only [Classical.not_not] at h
      exact ⟨x,hx,h.1,h.2.1⟩
    · exact ⟨x,hx,h1,h2⟩
theorem endL_look {f:Fl} {l:List Ir} (hl:∀ x∈l,fitI f x=true) {t:Int} (h:endL f l t=true):0≤t∧t≤f.terms.length:=by
  simp only [endL,List.any_eq_true,decide_eq_true_eq] at h
  obtain ⟨x,hx,_,rfl⟩:=h
  have:=fitI_iff.1 (hl x hx)
  omega
def enc2 (n:Int):List UInt8:=[UInt8.ofNat ((n / 256) % 256).toNat,UInt8.ofNat (n % 256).toNat]
def encN (l:List Int):List UInt8:=l.flatMap enc2
def badN (l:List Int):Bool:=l.any fun n=>decide (n<0∨n > 65535)
def encT (x:Ir):List UInt8:=encN [x.1+1,x.2.1,x.2.2]
def keyT (K:List Ir):List UInt8:=K.flatMap encT
theorem encT_len (x:Ir):(encT x).length=6:=rfl
theorem keyT_len:∀ K:List Ir,(keyT K).length=6 * K.length
  | []=>rfl
  | x :: K=>by
    have:=keyT_len K
    unfold keyT at this ⊢
    rw [List.flatMap_cons,List.length_append,this,encT_len,List.length_cons]
    omega
theorem keyT_nil {K:List Ir}:keyT K=[]↔K=[]:=by
  constructor
  · intro h
    have:=keyT_len K
    rw [h] at this
    exact List.length_eq_zero_iff.1 (by simp at this; omega)
  · rintro rfl; rfl
theorem keyT_append (K M:List Ir):keyT (K++M)=keyT K++keyT M:=by simp [keyT]
theorem enc2_inj {a b:Int} (ha:0≤a∧a≤65535) (hb:0≤b∧b≤65535) (h:enc2 a=enc2 b):a=b:=by
  simp only [enc2,List.cons.injEq,and_true] at h
  obtain ⟨h1,h2⟩:=h
  have e1:=congrArg UInt8.toNat h1
  have e2:=congrArg UInt8.toNat h2
  simp only [UInt8.toNat_ofNat'] at e1 e2
  omega
def FitT (x:Ir):Prop:=0≤x.1+1∧x.1+1≤65535∧0≤x.2.1∧x.2.1≤65535∧0≤x.2.2∧x.2.2≤65535
theorem encT_inj {x y:Ir} (hx:FitT x) (hy:FitT y) (h:encT x=encT y):x=y:=by
  unfold FitT at hx hy
  unfold encT encN at h
  simp only [List.flatMap_cons,List.flatMap_nil,List.append_nil] at h
  have l2:∀ n:Int,(enc2 n).length=2:=fun _=>rfl
  obtain ⟨h1,h'⟩:=List.append_inj h (by rw [l2,l2])
  obtain ⟨h2,h3⟩:=List.append_inj h' (by rw [l2,l2])
  have e1:=enc2_inj ⟨hx.1,hx.2.1⟩ ⟨hy.1,hy.2.1⟩ h1
  have e2:=enc2_inj ⟨hx.2.2.1,hx.2.2.2.1⟩ ⟨hy.2.2.1,hy.2.2.2.1⟩ h2
  have e3:=enc2_inj ⟨hx.2.2.2.2.1,hx.2.2.2.2.2⟩ ⟨hy.2.2.2.2.1,hy.2.2.2.2.2⟩ h3
  exact ir_ext (by omega) e2 e3
theorem keyT_inj:∀ {K M:List Ir},(∀ x∈K,FitT x)→(∀ x∈M,FitT x)→keyT K=keyT M→K=M
  | [],M,_,_,h=>(keyT_nil.1 h.symm).symm
  | x :: K,[],_,_,h=>keyT_nil.1 h
  | x :: K,y :: M,hK,hM,h=>by
    unfold keyT at h
    rw [List.flatMap_cons,List.flatMap_cons] at h
    obtain ⟨h1,h2⟩:=List.append_inj h (by rw [encT_len,encT_len])
    rw [encT_inj (hK x (by simp)) (hM y (by simp)) h1,keyT_inj (fun z hz=>hK z (by simp [hz])) (fun z hz=>hM z (by simp [hz])) h2]
theorem fitT_of {f:Fl} (hp:FitP f) {x:Ir} (h:fitI f x=true):FitT x:=by
  have h1:=fitI_iff.1 h
  have h2:=rightI_le hp x.1
  have h3:=hp.prods
  have h4:f.terms.length+f.nons.length≤600:=hp.size
  unfold FitT
  omega
def dotL (l:List Ir):List Ir:=l.filter fun x=>decide (0<x.2.1)
theorem dotL_append (l m:List Ir):dotL (l++m)=dotL l++dotL m:=by simp [dotL]
theorem dotL_kern {f:Fl} (hp:FitP f) {K:List Ir} (h:Kern f K):dotL (closF f K)=K:=by
  refine risingI_ext ?_ h.rise (fun x=>?_)
  · exact List.Pairwise.filter _ (closF_spec hp K).1
  · rw [h.mem hp x]
    simp [dotL]
theorem dotL_beg {f:Fl} (hp:FitP f):dotL (closF f (begL f))=[]:=by
  refine List.eq_nil_iff_forall_not_mem.2 (fun x hx=>?_)
  simp only [dotL,List.mem_filter,decide_eq_true_eq] at hx
  rw [(closF_spec hp _).2 x] at hx
  rcases cl_dot hx.1 with h2 | h2
  · simp [begL] at h2; subst h2; exact absurd hx.2 (by simp)
  · omega
theorem sets_of_run {f:Fl} (hp:FitP f):∀ (m i:Nat) (T R:List (List Ir)),m=601 - i→Met f T→T.Nodup→T.length+1≤600→i≤T.length+1→runA f (601 - i) i (setsOf f T)=some R→∃ T',R=setsOf f T'∧Met f T'∧T'.Nodup∧T'.length+1≤600
  | 0,i,T,R,hm,_,_,hl,hi,_=>by omega
  | m+1,i,T,R,hm,hT,hn,hl,hi,h=>by
    by_cases he:i=T.length+1
    · rw [run_end he (by omega)] at h
      exact ⟨T,(Option.some.inj h).symm,hT,hn,hl⟩
    · have hlt:i<(begL f :: T).length:=by rw [List.length_cons]; omega
      have hK:(begL f :: T)[i]?=some (begL f :: T)[i]:=List.getElem?_eq_getElem hlt
      rw [run_step hp hT hl (by omega) hK] at h
      cases hr:rowK (kernsL f (closF f (begL f :: T)[i])) T with
      | none=>rw [hr] at h; cases h
      | some T' =>
        rw [hr] at h
        obtain ⟨k1,k2,k3,k4⟩:=rowK_met _ T T' (kernsL_kern (closF_spec hp _).1) hT hn hl hr
        have:=k4.length_le
        exact sets_of_run hp m (i+1) T' R (by omega) k1 k2 k3 (by omega) (by rw [show 601 - (i+1)=600 - i by omega]; exact h)
theorem all_sets {f:Fl} (hp:FitP f) {R:List (List Ir)} (h:allF f=some R):∃ T,R=setsOf f T∧Met f T∧T.Nodup∧T.length+1≤600 :=
  sets_of_run hp 601 0 [] R rfl (fun K hK=>by cases hK) List.nodup_nil (by simp) (by simp) (by rw [← run_start]; exact h)
theorem goto_place {f:Fl} (hp:FitP f) {R:List (List Ir)} (h:allF f=some R) {i:Nat} {l:List Ir} (hl:R[i]?=some l) {s:Nat} (hs:s<f.n) (hne:movedL f l (s:Int)≠[]) :
    ∃ j,∃ hj:j<R.length,dotL R[j]=movedL f l (s:Int)∧findI R (gotoF f l s)=j:=by
  obtain ⟨T,rfl,hT,hn,hlen⟩:=all_sets hp h
  obtain ⟨h0,hnd,hcl⟩:=all_facts h
  have hrise:RisingI l:=by
    have hm:=List.mem_of_getElem? hl
    unfold setsOf at hm
    rcases List.mem_cons.1 hm with rfl | hm
    · exact (closF_spec hp _).1
    · obtain ⟨K,_,rfl⟩:=List.mem_map.1 hm
      exact (closF_spec hp _).1
  have hK:=movedL_kern hrise hne
  have hg:gotoF f l s=closF f (movedL f l (s:Int)):=rfl
  have hm:=hcl i l hl s hs (by rw [hg]; exact closF_ne hp hK)
  obtain ⟨j,hj,e⟩:=List.getElem_of_mem hm
  refine ⟨j,hj,?_,by rw [← e]; exact findI_nodup hnd hj⟩
  rw [e,hg]; exact dotL_kern hp hK
theorem keys_apart {f:Fl} (hp:FitP f) {R:List (List Ir)} (h:allF f=some R) {i j:Nat} (hi:i<R.length) (hj:j<R.length) (e:keyT (dotL R[i])=keyT (dotL R[j])):i=j:=by
  obtain ⟨T,rfl,hT,hn,hlen⟩:=all_sets hp h
  have hd:∀ (i:Nat) (hi:i<(setsOf f T).length),(i=0∧dotL (setsOf f T)[i]=[])∨∃ k,∃ hk:k<T.length,i=k+1∧dotL (setsOf f T)[i]=T[k]:=fun i hi=>by
    rcases i with _ | k
    · exact .inl ⟨rfl,dotL_beg hp⟩
    · have hk:k<T.length:=by simp [setsOf] at hi; omega
      exact .inr ⟨k,hk,rfl,by simp only [setsOf,List.getElem_cons_succ,List.getElem_map]; exact dotL_kern hp (hT _ (List.getElem_mem hk))⟩
  have hf:∀ (k:Nat) (hk:k<T.length),∀ x∈T[k],FitT x:=fun k hk x hx=>fitT_of hp ((hT _ (List.getElem_mem hk)).fit x hx)
  rcases hd i hi with ⟨rfl,ei⟩ | ⟨a,ha,rfl,ei⟩
  · rcases hd j hj with ⟨rfl,_⟩ | ⟨b,hb,rfl,ej⟩
    · rfl
    · rw [ei,ej] at e
      exact absurd (keyT_nil.1 e.symm) (hT _ (List.getElem_mem hb)).ne
  · rcases hd j hj with ⟨rfl,ej⟩ | ⟨b,hb,rfl,ej⟩
    · rw [ei,ej] at e
      exact absurd (keyT_nil.1 e) (hT _ (List.getElem_mem ha)).ne
    · rw [ei,ej] at e
      have:=keyT_inj (hf a ha) (hf b hb) e
      rw [(List.getElem_inj hn).1 this]
theorem sets_fit {f:Fl} (hp:FitP f) {R:List (List Ir)} (h:allF f=some R) {l:List Ir} (hl:l∈R):RisingI l∧∀ x∈l,fitI f x=true:=by
  obtain ⟨T,rfl,hT,hn,hlen⟩:=all_sets hp h
  unfold setsOf at hl
  rcases List.mem_cons.1 hl with rfl | hm
  · exact ⟨(closF_spec hp _).1,fun x hx=>cl_fit (((closF_spec hp _).2 x).1 hx)⟩
  · obtain ⟨K,_,rfl⟩:=List.mem_map.1 hm
    exact ⟨(closF_spec hp _).1,fun x hx=>cl_fit (((closF_spec hp _).2 x).1 hx)⟩
end Go.Proofs.YtbilbgjojdlobaaGreatDoor
namespace Go.Proofs.YtbilbgjojdlobaaGreatDoor
open Go.RowKit
theorem encN_take {l:List Int} {j:Nat} (h:j<l.length):encN (l.take (j+1))=encN (l.take j)++enc2 l[j]:=by
  unfold encN
  rw [List.take_succ_eq_append_getElem h,List.flatMap_append]
  simp
theorem badN_take {l:List Int} {j:Nat} (h:j<l.length):badN (l.take (j+1))=(badN (l.take j) || decide (l[j]<0∨l[j] > 65535)):=by
  unfold badN
  rw [List.take_succ_eq_append_getElem h,List.any_append]
  simp
theorem encN_len:∀ (l:List Int),(encN l).length=2 * l.length
  | []=>rfl
  | x :: l=>by
    have:=encN_len l
    unfold encN at this ⊢
    rw [List.flatMap_cons,List.length_append,this,List.length_cons]
    show 2+_=_
    omega
theorem u8_wrap {q:Int}:IntKind.u8.wrap q=((UInt8.ofNat (q % 256).toNat).toNat:Int):=by
  simp [IntKind.wrap,IntKind.bits,IntKind.signed]
  omega
set_option maxRecDepth 100000 in
set_option maxHeartbeats 2000000 in
theorem numbers_any {B g i:Nat} {L:List Wr} {x:Wr} (l:List Int) (v:Value) (w:World) (hl:SlI l v w) (h:WsAt B g L w) (hx:L[i]?=some x) (hap:∀ ad n c,v=.slice (some ad) n c→l≠[]→¬ inW g w ad.block) (hll:l.length≤1000000) (hbl:x.bs.length≤100000000) (hBw:B≤w.heap.size) :
    Calls Tryz.prog 85 #[.pointer (some ⟨g,i * 3,none⟩),v] w fun e w'=>e=.returned (.tuple #[])∧WsAt B g (L.set i ⟨x.bs++encN l,x.bad || badN l⟩) w'∧Wrote g w w':=by
  have HB:Hid (∀ (u:UInt8) (L':List Wr) (y:Wr) W,WsAt B g L' W→L'[i]?=some y→y.bs.length≤1000000000→B≤W.heap.size→Calls Tryz.prog 117 #[.pointer (some ⟨g,i * 3,none⟩),.int .u8 u.toNat] W fun e w'=>e=.returned .nilIface∧WsAt B g (L'.set i ⟨y.bs++[u],y.bad⟩) w'∧Wrote g W w'):=fun u L' y W h1 h2 h3 h4=>byte_any u W h1 h2 h3 h4
  have hlt0:i<L.length:=(List.getElem?_eq_some_iff.1 hx).1
  have HL:Hid (∀ W,Wrote g w W→SlI l v W):=fun W hW=>by
    obtain ⟨la,lc,rfl,hr,h1,h2,h3⟩:=hl
    refine ⟨la,lc,rfl,fun k y hk=>?_,h1,h2,h3⟩
    obtain ⟨b,off,e0,hb,hc⟩:=hr k y hk
    refine ⟨b,off,e0,Nat.lt_of_lt_of_le hb hW.1.size,?_⟩
    rw [← hc]
    exact hW.1.cell (p:=⟨b,off+k,none⟩) hb (hap ⟨b,off,none⟩ _ _ (by rw [e0]) (by rintro rfl; simp at hk))
  obtain ⟨la,lc,rfl,_⟩:=hl
  obtain ⟨o,ho⟩:∃ o,i * 3=o:=⟨_,rfl⟩
  have HW0:Hid (WsAt B g (L.set i ⟨x.bs++encN (l.take 0),x.bad || badN (l.take 0)⟩) w):=by
    show WsAt _ _ _ _
    have e:L.set i ⟨x.bs++encN (l.take 0),x.bad || badN (l.take 0)⟩=L:=by
      have:(⟨x.bs++encN (l.take 0),x.bad || badN (l.take 0)⟩:Wr)=x:=by simp [encN,badN]
      rw [this]
      obtain ⟨hi',e⟩:=List.getElem?_eq_some_iff.1 hx
      rw [← e]; exact List.set_getElem_self _
    rw [e]; exact h
  clear h hap
  rw [ho] at HB ⊢
  go_enter Tryz.func85,Tryz.ntmps85
  go_wp2_with fail
  go_loopw [8] (fun iv wr=>∃ (j:Nat),iv=.int .i64 j∧j≤l.length∧WsAt B g (L.set i ⟨x.bs++encN (l.take j),x.bad || badN (l.take j)⟩) wr∧Wrote g w wr) (fun i _=>l.length - (intOf i).toNat)
  case atStart=>exact ⟨0,rfl,Nat.zero_le _,HW0.out,Wrote.refl _ _⟩
  case round =>
  clear HW0
  obtain ⟨j,rfl,hj,hW,hw⟩:=hrel
  by_cases hlt:j<l.length
  case neg =>
    obtain rfl:j=l.length:=by omega
    rw [List.take_of_length_le (Nat.le_refl _)] at hW
    have HR:Hid (WsAt B g (L.set i ⟨x.bs++encN l,x.bad || badN l⟩) wr∧Wrote g w wr):=⟨hW,hw⟩
    clear hW hw HL HB
    go_wp2_with fail
    go_end0
    exact ⟨rfl,HR.out⟩
  obtain ⟨_,_,e0,hrl,_⟩:=HL.out _ hw
  cases e0
  obtain ⟨b2,o2,rfl,hb2,p0⟩:=hrl.at (Below.refl _ _) hlt
  unfold encI at p0
  have hek:=encN_take hlt
  have hbk:=badN_take hlt
  have hel:(encN (l.take j)).length≤2000000:=by rw [encN_len,List.length_take]; omega
  have hsz:=hw.1.size
  generalize l[j]=p at *
  generalize encN (l.take j)=E at *
  generalize badN (l.take j)=Bd at *
  have HEK:Hid (encN (l.take (j+1))=E++enc2 p):=hek
  have HBK:Hid (badN (l.take (j+1))=(Bd || decide (p<0∨p > 65535))):=hbk
  have HW:Hid (WsAt B g (L.set i ⟨x.bs++E,x.bad || Bd⟩) wr∧Wrote g w wr):=⟨hW,hw⟩
  have hset:∀ y,(L.set i y)[i]?=some y:=fun y=>by rw [List.getElem?_set_self hlt0]
  have HST:Hid (∀ y,(L.set i y)[i]?=some y):=hset
  obtain ⟨cs,hc,hs⟩:=hW.blk
  have hf2:wr.frozen? ⟨g,o+2,none⟩=false:=Lib.frozen_of_heap hc _
  have hcb:=hW.bad i _ (hset _)
  rw [ho] at hcb
  obtain ⟨u1,hu1⟩:∃ u,UInt8.ofNat ((p / 256) % 256).toNat=u:=⟨_,rfl⟩
  obtain ⟨u2,hu2⟩:∃ u,UInt8.ofNat (p % 256).toNat=u:=⟨_,rfl⟩
  have hwb1:IntKind.u8.wrap (p / 256)=(u1.toNat:Int):=by rw [← hu1]; exact u8_wrap
  have hwb2:IntKind.u8.wrap p=(u2.toNat:Int):=by rw [← hu2]; exact u8_wrap
  have HU:Hid (enc2 p=[u1,u2]):=by show _=_; rw [← hu1,← hu2]; rfl
  clear hu1 hu2
  by_cases hbad:p<0∨p > 65535
  · obtain ⟨BD,hBD⟩:∃ BD:Bool,true=BD:=⟨_,rfl⟩
    have HBD:Hid (((x.bad || Bd) || decide (p<0∨p > 65535))=BD):=by show _=_; rw [decide_eq_true hbad,← hBD]; simp
    have HS:=hW.setBad true (hset _)
    rw [ho] at HS
    have HW1:Hid (WsAt B g (L.set i ⟨x.bs++E,BD⟩) (wr.setCell ⟨g,o+2,none⟩ (.bool true))∧Wrote g w (wr.setCell ⟨g,o+2,none⟩ (.bool true))):=by
      refine ⟨?_,hw.trans HS.2⟩
      have:=HS.1
      rw [List.set_set] at this
      rw [← hBD]
      exact this
    clear HS hW hw HW hc hs hset hBD hek hbk hrl
    by_cases hneg:p<0
    · have hd1:decide (p<0)=true:=decide_eq_true hneg
      go_upto_region 5 with fail
      generalize wr.setCell ⟨g,o+2,none⟩ (.bool true)=W1 at *
      obtain ⟨hW1,hw1⟩:=HW1.out
      have hsz1:=hw1.1.size
      have HC1:Hid (Calls Tryz.prog 117 #[.pointer (some ⟨g,o,none⟩),.int .u8 u1.toNat] W1 fun e w'=>e=.returned .nilIface∧WsAt B g ((L.set i ⟨x.bs++E,BD⟩).set i ⟨x.bs++E++[u1],BD⟩) w'∧Wrote g W1 w'):=HB.out _ _ ⟨x.bs++E,BD⟩ W1 hW1 (HST.out _) (by simp; omega) (Nat.le_trans hBw hsz1)
      have HW9:Hid (Wrote g w W1):=hw1
      clear hW1 HW1 hw1 hf2 hcb
      go_wp2_with fail
      refine HC1.out.mono ?_
      rintro e w2 ⟨rfl,hW2,hw2⟩
      rw [List.set_set] at hW2
      have hsz2:=hw2.1.size
      have HC2:Hid (Calls Tryz.prog 117 #[.pointer (some ⟨g,o,none⟩),.int .u8 u2.toNat] w2 fun e w'=>e=.returned .nilIface∧WsAt B g ((L.set i ⟨x.bs++E++[u1],BD⟩).set i ⟨x.bs++E++[u1]++[u2],BD⟩) w'∧Wrote g w2 w'):=HB.out _ _ ⟨x.bs++E++[u1],BD⟩ w2 hW2 (HST.out _) (by simp; omega) (Nat.le_trans hBw (Nat.le_trans hsz1 hsz2))
      have HW8:Hid (Wrote g w w2):=HW9.out.trans hw2
      clear hW2 hw2 HC1 HW9
      go_wp2_with fail
      refine HC2.out.mono ?_
      rintro e w3 ⟨rfl,hW3,hw3⟩
      rw [List.set_set] at hW3
      have HF:Hid (WsAt B g (L.set i ⟨x.bs++encN (l.take (j+1)),x.bad || badN (l.take (j+1))⟩) w3∧Wrote g w w3):=by
        refine ⟨?_,HW8.out.trans hw3⟩
        rw [HEK.out,HBK.out]
        have e1:(⟨x.bs++(E++enc2 p),x.bad || (Bd || decide (p<0∨p > 65535))⟩:Wr)=⟨x.bs++E++[u1]++[u2],BD⟩:=by
          rw [← HBD.out,← Bool.or_assoc]
          rw [HU.out]; simp
        rw [e1]; exact hW3
      clear hW3 hw3 HC2 HW8 HEK HBK HB HL hwb1 hwb2
      go_wp2_with fail
      exact ⟨⟨j+1,by go_num,by omega,HF.out⟩,by simp [intOf]; omega⟩
    · have hd1:decide (p<0)=false:=decide_eq_false hneg
      have hgt:p > 65535:=hbad.resolve_left hneg
      have hd2:decide (p > 65535)=true:=decide_eq_true hgt
      go_upto_region 5 with fail
      generalize wr.setCell ⟨g,o+2,none⟩ (.bool true)=W1 at *
      obtain ⟨hW1,hw1⟩:=HW1.out
      have hsz1:=hw1.1.size
      have HC1:Hid (Calls Tryz.prog 117 #[.pointer (some ⟨g,o,none⟩),.int .u8 u1.toNat] W1 fun e w'=>e=.returned .nilIface∧WsAt B g ((L.set i ⟨x.bs++E,BD⟩).set i ⟨x.bs++E++[u1],BD⟩) w'∧Wrote g W1 w'):=HB.out _ _ ⟨x.bs++E,BD⟩ W1 hW1 (HST.out _) (by simp; omega) (Nat.le_trans hBw hsz1)
      have HW9:Hid (Wrote g w W1):=hw1
      clear hW1 HW1 hw1 hf2 hcb
      go_wp2_with fail
      refine HC1.out.mono ?_
      rintro e w2 ⟨rfl,hW2,hw2⟩
      rw [List.set_set] at hW2
      have hsz2:=hw2.1.size
      have HC2:Hid (Calls Tryz.prog 117 #[.pointer (some ⟨g,o,none⟩),.int .u8 u2.toNat] w2 fun e w'=>e=.returned .nilIface∧WsAt B g ((L.set i ⟨x.bs++E++[u1],BD⟩).set i ⟨x.bs++E++[u1]++[u2],BD⟩) w'∧Wrote g w2 w'):=HB.out _ _ ⟨x.bs++E++[u1],BD⟩ w2 hW2 (HST.out _) (by simp; omega) (Nat.le_trans hBw (Nat.le_trans hsz1 hsz2))
      have HW8:Hid (Wrote g w w2):=HW9.out.trans hw2
      clear hW2 hw2 HC1 HW9
      go_wp2_with fail
      refine HC2.out.mono ?_
      rintro e w3 ⟨rfl,hW3,hw3⟩
      rw [List.set_set] at hW3
      have HF:Hid (WsAt B g (L.set i ⟨x.bs++encN (l.take (j+1)),x.bad || badN (l.take (j+1))⟩) w3∧Wrote g w w3):=by
        refine ⟨?_,HW8.out.trans hw3⟩
        rw [HEK.out,HBK.out]
        have e1:(⟨x.bs++(E++enc2 p),x.bad || (Bd || decide (p<0∨p > 65535))⟩:Wr)=⟨x.bs++E++[u1]++[u2],BD⟩:=by
          rw [← HBD.out,← Bool.or_assoc]
          rw [HU.out]; simp
        rw [e1]; exact hW3
      clear hW3 hw3 HC2 HW8 HEK HBK HB HL hwb1 hwb2
      go_wp2_with fail
      exact ⟨⟨j+1,by go_num,by omega,HF.out⟩,by simp [intOf]; omega⟩
  · have hneg:¬ p<0:=fun h=>hbad (.inl h)
    have hgt:¬ p > 65535:=fun h=>hbad (.inr h)
    have hd1:decide (p<0)=false:=decide_eq_false hneg
    have hd2:decide (p > 65535)=false:=decide_eq_false hgt
    obtain ⟨BD,hBD⟩:∃ BD:Bool,(x.bad || Bd)=BD:=⟨_,rfl⟩
    have HBD:Hid (((x.bad || Bd) || decide (p<0∨p > 65535))=BD):=by show _=_; rw [decide_eq_false hbad,← hBD]; simp
    have HW1:Hid (WsAt B g (L.set i ⟨x.bs++E,BD⟩) wr∧Wrote g w wr):=by rw [hBD] at HW; exact HW.out
    clear hW hw HW hc hs hset hBD hek hbk hrl
    go_upto_region 5 with fail
    generalize hWR:wr=W1 at *
    clear hWR
    obtain ⟨hW1,hw1⟩:=HW1.out
    have hsz1:=hw1.1.size
    have HC1:Hid (Calls Tryz.prog 117 #[.pointer (some ⟨g,o,none⟩),.int .u8 u1.toNat] W1 fun e w'=>e=.returned .nilIface∧WsAt B g ((L.set i ⟨x.bs++E,BD⟩).set i ⟨x.bs++E++[u1],BD⟩) w'∧Wrote g W1 w'):=HB.out _ _ ⟨x.bs++E,BD⟩ W1 hW1 (HST.out _) (by simp; omega) (Nat.le_trans hBw hsz1)
    have HW9:Hid (Wrote g w W1):=hw1
    clear hW1 HW1 hw1 hf2 hcb
    go_wp2_with fail
    refine HC1.out.mono ?_
    rintro e w2 ⟨rfl,hW2,hw2⟩
    rw [List.set_set] at hW2
    have hsz2:=hw2.1.size
    have HC2:Hid (Calls Tryz.prog 117 #[.pointer (some ⟨g,o,none⟩),.int .u8 u2.toNat] w2 fun e w'=>e=.returned .nilIface∧WsAt B g ((L.set i ⟨x.bs++E++[u1],BD⟩).set i ⟨x.bs++E++[u1]++[u2],BD⟩) w'∧Wrote g w2 w'):=HB.out _ _ ⟨x.bs++E++[u1],BD⟩ w2 hW2 (HST.out _) (by simp; omega) (Nat.le_trans hBw (Nat.le_trans hsz1 hsz2))
    have HW8:Hid (Wrote g w w2):=HW9.out.trans hw2
    clear hW2 hw2 HC1 HW9
    go_wp2_with fail
    refine HC2.out.mono ?_
    rintro e w3 ⟨rfl,hW3,hw3⟩
    rw [List.set_set] at hW3
    have HF:Hid (WsAt B g (L.set i ⟨x.bs++encN (l.take (j+1)),x.bad || badN (l.take (j+1))⟩) w3∧Wrote g w w3):=by
      refine ⟨?_,HW8.out.trans hw3⟩
      rw [HEK.out,HBK.out]
      have e1:(⟨x.bs++(E++enc2 p),x.bad || (Bd || decide (p<0∨p > 65535))⟩:Wr)=⟨x.bs++E++[u1]++[u2],BD⟩:=by
        rw [← HBD.out,← Bool.or_assoc]
        rw [HU.out]; simp
      rw [e1]; exact hW3
    clear hW3 hw3 HC2 HW8 HEK HBK HB HL hwb1 hwb2
    go_wp2_with fail
    exact ⟨⟨j+1,by go_num,by omega,HF.out⟩,by simp [intOf]; omega⟩
theorem ptrU8:Tryz.prog.underlying 145=some (.pointer 5):=by kernel_rfl
theorem cellsU8:Tryz.prog.cellsOf 5=1:=by kernel_rfl
theorem but_freeze {D:Nat→Prop} (w:World) (p:Addr) (n:Nat) (h:D p.block):But D w (w.freeze p n):=by
  unfold World.freeze
  split
  · exact But.refl _ _
  · exact ⟨rfl,rfl,rfl,by simp,fun k hk hd=>by
      have:p.block≠k:=fun e=>hd (e ▸ h)
      simp [Array.getElem?_modify,this]⟩
set_option maxHeartbeats 2000000 in
set_option maxRecDepth 100000 in
theorem string_any (B g o:Nat) (l:List UInt8) (v:Value) (w:World) (hv:w.cell? ⟨g,o+1,none⟩=some v) (hown:OwnB B l v w) (hnil:l=[]→v=.slice none 0 0) (hl:l.length≤1000000000) :
    Calls Tryz.prog 53 #[.pointer (some ⟨g,o,none⟩)] w fun e w'=>e=.returned (.string ⟨l.toArray⟩)∧But (fun k=>v.ownBlock=some k) w w':=by
  by_cases hn:l=[]
  · obtain rfl:=hnil hn
    subst hn
    have c1:w.drew.cell? ⟨g,o+1,none⟩=some (.slice none 0 0):=hv
    have hSD:(Builtin.unsafeSliceData_ #[98] 145 #[.slice none 0 0]).run Tryz.prog w.drew=.ok (.pointer none) w.drew:=rfl
    have hUS:=Lib.run_unsafeString_none (P:=Tryz.prog) w.drew 145 3 9 none
    clear hown hnil hl
    have mixed:Tryz.prog.follows Departure.mixedOrders=true:=by kernel_rfl
    go_enter Tryz.func53,Tryz.ntmps53
    go_wp2
    go_region_o
    all_goals (go_wp2; go_ret; exact ⟨rfl,(But.refl _ w).drew⟩)
  · have hlp:0<l.length:=List.length_pos_iff.2 hn
    rcases hown.2 with ⟨rfl,h0⟩ | ⟨b,cap,cur,rfl,hB,hg,hle,hmx,hcs,htk⟩
    · omega
    have hlen:(l.map encU8).length=l.length:=by simp
    have c1:w.drew.cell? ⟨g,o+1,none⟩=some (.slice (some ⟨b,0,none⟩) l.length cap):=hv
    have hg':w.drew.heap[b]?=some (.cells cur 5 (0,0)):=hg
    have hSD:(Builtin.unsafeSliceData_ #[98] 145 #[.slice (some ⟨b,0,none⟩) l.length cap]).run Tryz.prog w.drew=.ok (.pointer (some ⟨b,0,none⟩)) w.drew :=
      Lib.run_unsafeSliceData_row _ _ _ _ _ _ (by omega)
    have hUS:(Builtin.unsafeString_ #[145,3] 9 #[.pointer (some ⟨b,0,none⟩),.int .i64 l.length]).run Tryz.prog w.drew=.ok (.string ⟨l.toArray⟩) (w.drew.freeze ⟨b,0,none⟩ l.length) :=
      Lib.run_unsafeString_row w.drew _ _ _ 5 ptrU8 cellsU8 b cur.size (by simp [World.shape?,hg']) l hn (by omega) (by omega) (fun j x hx=>by
        rw [add_plain,Nat.zero_add,Lib.cell_of_heap hg']
        have hj:j<l.length:=(List.getElem?_eq_some_iff.1 hx).1
        have e1:(cur.toList.take (l.length * 1))[j]?=some (encU8 x):=by rw [htk,List.getElem?_map,hx]; rfl
        rw [List.getElem?_take,if_pos (by omega)] at e1
        rw [← Array.getElem?_toList]; exact e1)
    have BF:But (fun k=>(Value.slice (some ⟨b,0,none⟩) l.length cap).ownBlock=some k) w (w.drew.freeze ⟨b,0,none⟩ l.length):=(But.refl _ w).drew.trans (but_freeze w.drew ⟨b,0,none⟩ l.length rfl)
    generalize w.drew.freeze ⟨b,0,none⟩ l.length=wz at *
    clear hown hnil hg hg' hcs htk hn
    generalize l.length=n at *
    have mixed:Tryz.prog.follows Departure.mixedOrders=true:=by kernel_rfl
    go_enter Tryz.func53,Tryz.ntmps53
    go_wp2
    go_region_o
    all_goals (go_wp2; go_ret; exact ⟨rfl,BF⟩)
set_option maxRecDepth 100000 in
theorem len_any (g o n c:Nat) (a:Option Addr) (w:World) (hv:w.cell? ⟨g,o+1,none⟩=some (.slice a n c)) :
    Calls Tryz.prog 64 #[.pointer (some ⟨g,o,none⟩)] w fun e w'=>e=.returned (.int .i64 n)∧w'=w:=by
  go_enter Tryz.func64,Tryz.ntmps64
  go_wp2_with fail
  go_ret
  exact ⟨rfl,rfl⟩
end Go.Proofs.YtbilbgjojdlobaaGreatDoor
