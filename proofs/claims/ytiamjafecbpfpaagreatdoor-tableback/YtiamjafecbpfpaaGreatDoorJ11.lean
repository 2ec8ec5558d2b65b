import Derived.Test.YtiamjafecbpfpaaGreatDoorJ01
import Derived.Test.YtiamjafecbpfpaaGreatDoorJ07
import Derived.Test.YtiamjafecbpfpaaGreatDoorJ10

namespace Go.Proofs.YtiamjafecbpfpaaGreatDoor
open Go.RowKit
def encRv (p:Rw × (Value × Value)):List Value:=[p.2.1,p.2.2]
structure OwnR (B L:Nat) (P:List (Rw × (Value × Value))) (v:Value) (W:World):Prop where
  own:W.ownsRow B 38 2 v P.length (P.flatMap encRv)
  rows:∀ (i:Nat) (p:Rw × (Value × Value)),P[i]?=some p→∃ lo hi,KeepR lo hi p.1 p.2.1 p.2.2 W∧L≤lo∧hi≤W.heap.size∧∀ k,v.ownBlock=some k→k<lo∨hi≤k
theorem OwnR.nil (B L:Nat) (W:World):OwnR B L [] (.slice none 0 0) W:=⟨World.ownsRow_nil _ _ _ _,fun i p h=>by simp at h⟩
theorem OwnR.keep {B L:Nat} {P:List (Rw × (Value × Value))} {v:Value} {W W':World} {D:Nat→Prop} (h:OwnR B L P v W) (hb:But D W W') (hd:∀ k,D k→k<L) (hv:∀ k,v.ownBlock=some k→¬ D k):OwnR B L P v W' :=
  ⟨ownsRow_keep h.own hb hv,fun i p hp=>by
    obtain ⟨lo,hi,h1,h2,h3,h4⟩:=h.rows i p hp
    exact ⟨lo,hi,h1.keep hb (fun k hk=>.inl (Nat.lt_of_lt_of_le (hd k hk) h2)),h2,Nat.le_trans h3 hb.size,h4⟩⟩
theorem OwnR.next {B L:Nat} {P:List (Rw × (Value × Value))} {v:Value} {W W':World} (h:OwnR B L P v W) (hb:Below W.heap.size W W'):OwnR B L P v W' :=
  h.keep (D:=fun _=>False) (But.of_next hb) (fun _ h=>h.elim) (fun _ _ h=>h)
theorem OwnR.more {B L:Nat} {P:List (Rw × (Value × Value))} {v v':Value} {p:Rw × (Value × Value)} {lo hi:Nat} {W W1:World} (h:OwnR B L P v W) (hk:KeepR lo hi p.1 p.2.1 p.2.2 W) (hL:L≤lo) (hh:hi≤W.heap.size) (hvl:∀ k,v.ownBlock=some k→k<lo) (hg:W.grownBy W1 v.ownBlock)
    (ho:W1.ownsRow B 38 2 v' (P.length+1) (P.flatMap encRv++encRv p)) (hat:v'.ownBlock=v.ownBlock∨v'.ownBlock=some W.heap.size):OwnR B L (P++[p]) v' W1:=by
  have hb:But (fun k=>v.ownBlock=some k) W W1:=⟨hg.os,hg.tape,hg.output,hg.size,fun k hk hd=>hg.block k hk (fun e=>hd e.symm)⟩
  refine ⟨by rw [List.length_append,List.flatMap_append]; simpa using ho,fun i u hu=>?_⟩
  by_cases hi':i<P.length
  · rw [List.getElem?_append_left hi'] at hu
    obtain ⟨lo',hi'',h1,h2,h3,h4⟩:=h.rows i u hu
    refine ⟨lo',hi'',h1.keep hb h4,h2,Nat.le_trans h3 hb.size,fun k hk=>?_⟩
    rcases hat with e | e
    · rw [e] at hk; exact h4 k hk
    · rw [e] at hk; cases hk; exact .inr h3
  · have e1:i=P.length:=by
      have:=(List.getElem?_eq_some_iff.1 hu).1
      simp at this; omega
    subst e1
    rw [List.getElem?_append_right (Nat.le_refl _)] at hu
    simp at hu
    subst hu
    refine ⟨lo,hi,hk.keep hb (fun k hk=>.inl (hvl k hk)),hL,Nat.le_trans hh hb.size,fun k hk=>?_⟩
    rcases hat with e | e
    · rw [e] at hk; exact .inl (hvl k hk)
    · rw [e] at hk; cases hk; exact .inr hh
theorem OwnR.sl {B L:Nat} {P:List (Rw × (Value × Value))} {v:Value} {W:World} (h:OwnR B L P v W) (hl:P.length≤140737488351232):SlW (P.map Prod.fst) v W:=by
  rcases Nat.eq_zero_or_pos P.length with h0 | h0
  · have h1:P=[]:=List.eq_nil_of_length_eq_zero h0
    subst h1
    rcases h.own.2 with ⟨rfl,_⟩ | ⟨g,cap,cur,rfl,_⟩
    · exact SlW.nil _
    · exact ⟨_,_,rfl,fun i x hx=>(by simp at hx),fun e=>(by cases e),Nat.zero_le _,Nat.zero_le _⟩
  · obtain ⟨g,cap,rfl,hg,hle,hcell⟩:=own_cells (enc:=encRv) (c:=2) (fun _=>rfl) h.own h0
    refine ⟨some ⟨g,0,none⟩,cap,by rw [List.length_map],fun i x hx=>?_,fun e=>(by cases e),by rw [List.length_map]; exact hle,by rw [List.length_map]; exact hl⟩
    rw [List.getElem?_map] at hx
    obtain ⟨p,hp,rfl⟩:=Option.map_eq_some_iff.1 hx
    obtain ⟨lo,hi',h1,_⟩:=h.rows i p hp
    have k1:=h1 W (fun _=>False) (But.refl _ _) (fun _ h=>h.elim)
    refine ⟨g,0,p.2.1,p.2.2,rfl,hg,?_,?_,k1.1,k1.2⟩
    · have:=hcell i 0 p _ hp (by omega) rfl; simpa using this
    · have:=hcell i 1 p _ hp (by omega) rfl; simpa using this
def OwnGs (B:Nat) (P:List (Int × Int)) (v:Value) (W:World):Prop:=OwnP 65 B P v W∧∀ x∈P,okP x
theorem OwnGs.nil (B:Nat) (W:World):OwnGs B [] (.slice none 0 0) W:=⟨OwnP.nil _ _ _,fun _ h=>by cases h⟩
theorem OwnA.keepRw {B B' L L':Nat} {P:List (Ac × Value)} {gs:List (Int × Int)} {va vg:Value} {W:World} (h:OwnA B L P va W) (hg:OwnP 65 B' gs vg W) (hl:P.length≤65535) (hgl:gs.length≤65535) (hok:∀ x∈gs,okP x) (h1:L'≤B) (h2:L'≤B') (h3:L'≤L):KeepR L' W.heap.size ⟨P.map Prod.fst,gs⟩ va vg W:=fun W' D hb hd=>by
  have hb':But (fun k=>D k∧k<W.heap.size) W W':=hb.mono (fun k hk h=>⟨h,hk⟩)
  have hD:∀ k,L'≤k→¬ (D k∧k<W.heap.size):=fun k hk e=>by rcases hd k e.1 with e' | e' <;> omega
  refine ⟨?_,OwnP.sl (ownsRow_keep hg hb' (fun k hk=>hD k (Nat.le_trans h2 (World.ownsRow.lt hg k hk).1))) hok (by show gs.length≤_; omega)⟩
  refine OwnA.sl (B:=B) (L:=L') ⟨ownsRow_keep h.own hb' (fun k hk=>hD k (Nat.le_trans h1 (World.ownsRow.lt h.own k hk).1)),fun i p hp=>?_⟩ (by omega)
  obtain ⟨k0,lo,hi,k1,k2,k3,k4⟩:=h.rows i p hp
  exact ⟨k0,lo,hi,k1.keep hb' (fun k e=>by rcases hd k e.1 with e' | e' <;> omega),by omega,Nat.le_trans k3 hb'.size,k4⟩
set_option maxRecDepth 100000 in
set_option maxHeartbeats 2000000 in
theorem listG_any (g:Nat) (l:List UInt8) (w:World) (h:RdB g l w) :
    Calls Tryz.prog 48 #[.pointer (some ⟨g,0,none⟩),.func (.func 49) #[.pointer (some ⟨g,0,none⟩)] #[]] w fun e w'=>Tells g valGs (rdL rdG l) w e w':=by
  obtain ⟨i0,hi0,hz0,hz1,hz2⟩:=info_parts infoGo12
  have HN:=number_any g l w h
  have H1:Hid (∀ (l:List UInt8) W,RdB g l W→Calls Tryz.prog 49 #[.pointer (some ⟨g,0,none⟩)] W fun e w'=>Tells g valG (rdG l) W e w'):=fun l W h=>goes_any g l W h
  have hgw:=h.lt
  have HGW:Hid (g<w.heap.size):=hgw
  clear h
  go_enter Tryz.func48,Tryz.ntmps48
  go_wp2_with fail
  refine HN.mono ?_
  rintro e w1 (⟨n,l1,v,h1,rfl,rfl,h4,h5⟩ | ⟨c,h1,rfl,h5⟩)
  case inr=>exact ⟨rfl,.inr ⟨c,by unfold rdL; rw [h1],rfl,h5⟩⟩
  obtain ⟨hn0,hn1,_⟩:=rdN_lt h1
  obtain ⟨n,rfl⟩:=Int.eq_ofNat_of_zero_le hn0
  have HL:Hid (rdL rdG l=rdK rdG n l1):=by show _=_; unfold rdL; rw [h1]; rfl
  clear HN h1
  go_wp2_with fail
  go_loopw [5,8] (fun sv iv wr=>∃ (i:Nat) (P:List (Int × Int)) (r:List UInt8),iv=.int .i64 i∧i≤n∧rdK rdG i l1=.ok (P,r)∧OwnGs w.heap.size P sv wr∧RdB g r wr∧Only g w wr) (fun _ i _=>n - (intOf i).toNat)
  case atStart=>exact ⟨0,[],l1,rfl,Nat.zero_le _,rfl,OwnGs.nil _ _,h4,h5⟩
  case round =>
  clear h4 h5
  obtain ⟨i,P,r,rfl,hi,hk,hO,hr,hw⟩:=hrel
  obtain ⟨va,vc,rfl⟩:=slice_of_ownK hO.1
  have hPl:P.length=i:=by exact rdK_len hk
  have hPl1:P.length≤i:=by omega
  have hsz:=hw.size
  by_cases hlt:i<n
  case neg =>
    obtain rfl:i=n:=by omega
    have HR:Hid (Tells g valGs (rdL rdG l) w (.returned (.slice va P.length vc)) wr):=.inl ⟨_,r,_,by rw [HL.out]; exact hk,rfl,⟨hO.1,hO.2,by omega⟩,hr,hw⟩
    clear hO hr hw hk H1 HL hPl hPl1
    go_wp2_with fail
    go_ret
    exact HR.out
  have hC:=H1.out r wr hr
  have HOO:Hid (OwnGs w.heap.size P (.slice va P.length vc) wr∧Only g w wr∧RdB g r wr):=⟨hO,hw,hr⟩
  have HK:Hid (∀ _:Nat,rdK rdG i l1=.ok (P,r)):=fun _=>hk
  have HPL:Hid (P.length=i):=hPl
  clear hO hr hw hk hPl
  go_wp2_with fail
  refine hC.mono ?_
  rintro e w2 (⟨x,r2,v,k1,rfl,k2,k3,k4⟩ | ⟨c,k1,rfl,k4⟩)
  case inr =>
    refine ⟨rfl,.inr ⟨c,?_,rfl,HOO.out.2.1.trans k4⟩⟩
    rw [HL.out]
    refine rdK_err (n:=i+1) (by omega) ?_
    rw [rdK_snoc,HK.out 0]
    simp only [k1]
  have HK2:Hid (rdK rdG (i+1) l1=.ok (P++[x],r2)):=by
    show _=_
    rw [rdK_snoc,HK.out 0]
    simp only [k1]
  obtain ⟨rfl,kok⟩:=k2
  have ba:Below w2.heap.size w2 (w2.alloc (Obj.cells #[.int .i64 x.1,.int .i64 x.2] 65)):=(Below.refl _ _).alloc (Nat.le_refl _) _
  have hO2:OwnGs w.heap.size P (.slice va P.length vc) w2:=⟨own_only HOO.out.1.1 k4 hgw,HOO.out.1.2⟩
  have HOa:Hid (OwnGs w.heap.size P (.slice va P.length vc) (w2.alloc (Obj.cells #[.int .i64 x.1,.int .i64 x.2] 65))):=⟨ownsRow_below4 hO2.1 ba,hO2.2⟩
  have HON:Hid ((w2.alloc (Obj.cells #[.int .i64 x.1,.int .i64 x.2] 65)).ownsRow w.heap.size 65 2 (.slice va P.length vc) P.length (P.flatMap encP)):=HOa.out.1
  have HB:Hid (Only g w (w2.alloc (Obj.cells #[.int .i64 x.1,.int .i64 x.2] 65))∧RdB g r2 (w2.alloc (Obj.cells #[.int .i64 x.1,.int .i64 x.2] 65))):=⟨(HOO.out.2.1.trans k4).trans (Only.next ba),k3.next ba⟩
  have HNW:∀ (i:Nat) (u:Value),[.int .i64 x.1,.int .i64 x.2][i]?=some u→(w2.alloc (Obj.cells #[.int .i64 x.1,.int .i64 x.2] 65)).cell? ((⟨w2.heap.size,0,none⟩:Addr).add i)=some u:=fun i u hi=>by
    rw [add_plain,Nat.zero_add]
    rcases i with _ | _ | i <;> simp at hi <;> subst hi <;> simp
  have hszn:w.heap.size≤(w2.alloc (Obj.cells #[.int .i64 x.1,.int .i64 x.2] 65)).heap.size:=HB.out.1.size
  clear hC H1 k1 k3 k4 hO2 hgw
  go_wp2_with (at_builtin; refine wpList_append_own_at _ rfl (.tmp 10) (.tmp 13) 36 rfl w.heap.size 65 i0 _ 2 16 Tryz.underlying36 hi0 hz0 hz1 hz2 rfl (by omega) _ _ _ rfl HON.out _ 1 1 [.int .i64 x.1,.int .i64 x.2] rfl rfl HNW (by simp [Value.oneCell']) (by unfold maxLen; omega) (by omega) hszn ?_)
  intro v' w8 hown' hgrow _ hat
  have hlow:∀ k,(Value.slice va P.length vc).ownBlock=some k→w.heap.size≤k:=fun k hk=>(World.ownsRow.lt HON.out k hk).1
  have HG:Hid (g<w.heap.size):=HGW.out
  have HF:Hid (OwnGs w.heap.size (P++[x]) v' w8∧RdB g r2 w8∧Only g w w8):=⟨⟨by simpa [OwnP,encP] using hown',fun y hy=>by
    rcases List.mem_append.1 hy with hy | hy
    · exact HOa.out.2 y hy
    · rw [List.mem_singleton.1 hy]; exact kok⟩,HB.out.2.grown hgrow (fun k hk e=>by have:=hlow k hk; have:=HG.out; omega),HB.out.1.grown hgrow hlow⟩
  obtain ⟨va',vc',rfl⟩:=slice_of_ownK hown'
  clear hown' hgrow hat HON HOa HB HNW hlow HOO HK HG
  go_wp2_with fail
  exact ⟨⟨i+1,P++[x],r2,by go_num,by omega,HK2.out,HF.out⟩,by simp [intOf]; omega⟩
set_option maxRecDepth 100000 in
set_option maxHeartbeats 2000000 in
theorem listA_any (g:Nat) (l:List UInt8) (w:World) (h:RdB g l w) :
    Calls Tryz.prog 46 #[.pointer (some ⟨g,0,none⟩),.func (.func 47) #[.pointer (some ⟨g,0,none⟩)] #[]] w fun e w'=>Tells g valAs (rdL rdA l) w e w':=by
  obtain ⟨i0,hi0,hz0,hz1,hz2⟩:=info_parts infoAct
  have HN:=number_any g l w h
  have H1:Hid (∀ (l:List UInt8) W,RdB g l W→Calls Tryz.prog 47 #[.pointer (some ⟨g,0,none⟩)] W fun e w'=>Tells g valA (rdA l) W e w'):=fun l W h=>act_any g l W h
  have hgw:=h.lt
  have HGW:Hid (g<w.heap.size):=hgw
  clear h
  go_enter Tryz.func46,Tryz.ntmps46
  go_wp2_with fail
  refine HN.mono ?_
  rintro e w1 (⟨n,l1,v,h1,rfl,rfl,h4,h5⟩ | ⟨c,h1,rfl,h5⟩)
  case inr=>exact ⟨rfl,.inr ⟨c,by unfold rdL; rw [h1],rfl,h5⟩⟩
  obtain ⟨hn0,hn1,_⟩:=rdN_lt h1
  obtain ⟨n,rfl⟩:=Int.eq_ofNat_of_zero_le hn0
  have HL:Hid (rdL rdA l=rdK rdA n l1):=by show _=_; unfold rdL; rw [h1]; rfl
  clear HN h1
  go_wp2_with fail
  go_loopw [5,8] (fun sv iv wr=>∃ (i:Nat) (P:List (Ac × Value)) (r:List UInt8),iv=.int .i64 i∧i≤n∧rdK rdA i l1=.ok ((P.map Prod.fst),r)∧OwnA w.heap.size w.heap.size P sv wr∧RdB g r wr∧Only g w wr) (fun _ i _=>n - (intOf i).toNat)
  case atStart=>exact ⟨0,[],l1,rfl,Nat.zero_le _,rfl,OwnA.nil _ _ _,h4,h5⟩
  case round =>
  clear h4 h5
  obtain ⟨i,P,r,rfl,hi,hk,hO,hr,hw⟩:=hrel
  obtain ⟨va,vc,rfl⟩:=slice_of_ownK hO.own
  have hPl:P.length=i:=by have:=rdK_len hk; simpa using this
  have hPl1:P.length≤i:=by omega
  have hsz:=hw.size
  by_cases hlt:i<n
  case neg =>
    obtain rfl:i=n:=by omega
    have HR:Hid (Tells g valAs (rdL rdA l) w (.returned (.slice va P.length vc)) wr):=.inl ⟨_,r,_,by rw [HL.out]; exact hk,rfl,⟨P,rfl,hO,by omega⟩,hr,hw⟩
    clear hO hr hw hk H1 HL hPl hPl1
    go_wp2_with fail
    go_ret
    exact HR.out
  have hC:=H1.out r wr hr
  have HOO:Hid (OwnA w.heap.size w.heap.size P (.slice va P.length vc) wr∧Only g w wr∧RdB g r wr):=⟨hO,hw,hr⟩
  have HK:Hid (∀ _:Nat,rdK rdA i l1=.ok ((P.map Prod.fst),r)):=fun _=>hk
  have HPL:Hid (P.length=i):=hPl
  clear hO hr hw hk hPl
  go_wp2_with fail
  refine hC.mono ?_
  rintro e w2 (⟨x,r2,v,k1,rfl,k2,k3,k4⟩ | ⟨c,k1,rfl,k4⟩)
  case inr =>
    refine ⟨rfl,.inr ⟨c,?_,rfl,HOO.out.2.1.trans k4⟩⟩
    rw [HL.out]
    refine rdK_err (n:=i+1) (by omega) ?_
    rw [rdK_snoc,HK.out 0]
    simp only [k1]
  have HK2:Hid (rdK rdA (i+1) l1=.ok ((P.map Prod.fst)++[x],r2)):=by
    show _=_
    rw [rdK_snoc,HK.out 0]
    simp only [k1]
  obtain ⟨ua,rn,uc,rfl,kU,kok⟩:=k2
  have ba:Below w2.heap.size w2 (w2.alloc (Obj.cells #[.int .i64 x.look,.int .i64 x.to,.slice ua rn uc,.bool x.acc] 41)):=(Below.refl _ _).alloc (Nat.le_refl _) _
  have hO2:OwnA w.heap.size w.heap.size P (.slice va P.length vc) w2:=HOO.out.1.keep (D:=fun k=>k=g) k4 (fun k (e:k=g)=>by omega) (fun k hk (e:k=g)=>by have:=(World.ownsRow.lt HOO.out.1.own k hk).1; omega)
  have HOa:Hid (OwnA w.heap.size w.heap.size P (.slice va P.length vc) (w2.alloc (Obj.cells #[.int .i64 x.look,.int .i64 x.to,.slice ua rn uc,.bool x.acc] 41))):=hO2.next ba
  have HON:Hid ((w2.alloc (Obj.cells #[.int .i64 x.look,.int .i64 x.to,.slice ua rn uc,.bool x.acc] 41)).ownsRow w.heap.size 41 4 (.slice va P.length vc) P.length (P.flatMap encAu)):=HOa.out.own
  have HB:Hid (Only g w (w2.alloc (Obj.cells #[.int .i64 x.look,.int .i64 x.to,.slice ua rn uc,.bool x.acc] 41))∧RdB g r2 (w2.alloc (Obj.cells #[.int .i64 x.look,.int .i64 x.to,.slice ua rn uc,.bool x.acc] 41))):=⟨(HOO.out.2.1.trans k4).trans (Only.next ba),k3.next ba⟩
  have HNW:∀ (i:Nat) (u:Value),[.int .i64 x.look,.int .i64 x.to,.slice ua rn uc,.bool x.acc][i]?=some u→(w2.alloc (Obj.cells #[.int .i64 x.look,.int .i64 x.to,.slice ua rn uc,.bool x.acc] 41)).cell? ((⟨w2.heap.size,0,none⟩:Addr).add i)=some u:=fun i u hi=>by
    rw [add_plain,Nat.zero_add]
    rcases i with _ | _ | _ | _ | i <;> simp at hi <;> subst hi <;> simp
  have hszn:w.heap.size≤(w2.alloc (Obj.cells #[.int .i64 x.look,.int .i64 x.to,.slice ua rn uc,.bool x.acc] 41)).heap.size:=HB.out.1.size
  have HKU:Hid (KeepU wr.heap.size w2.heap.size x.red (.slice ua rn uc) (w2.alloc (Obj.cells #[.int .i64 x.look,.int .i64 x.to,.slice ua rn uc,.bool x.acc] 41))):=kU.keep (D:=fun _=>False) (But.of_next ba) (fun _ h=>h.elim)
  have HVL:Hid (∀ k,(Value.slice va P.length vc).ownBlock=some k→k<wr.heap.size):=fun k hk=>(World.ownsRow.lt HOO.out.1.own k hk).2
  clear kU
  clear hC H1 k1 k3 k4 hO2 hgw
  go_wp2_with (at_builtin; refine wpList_append_own_at _ rfl (.tmp 10) (.tmp 13) 35 rfl w.heap.size 41 i0 _ 4 48 Tryz.underlying35 hi0 hz0 hz1 hz2 rfl (by omega) _ _ _ rfl HON.out _ 1 1 [.int .i64 x.look,.int .i64 x.to,.slice ua rn uc,.bool x.acc] rfl rfl HNW (by simp [Value.oneCell']) (by unfold maxLen; omega) (by omega) hszn ?_)
  intro v' w8 hown' hgrow _ hat
  have hlow:∀ k,(Value.slice va P.length vc).ownBlock=some k→w.heap.size≤k:=fun k hk=>(World.ownsRow.lt HON.out k hk).1
  have HG:Hid (g<w.heap.size):=HGW.out
  have HF:Hid (OwnA w.heap.size w.heap.size (P++[(x,.slice ua rn uc)]) v' w8∧RdB g r2 w8∧Only g w w8):=⟨HOa.out.more (p:=(x,.slice ua rn uc)) HKU.out kok hsz (by simp) HVL.out hgrow (by unfold encAu; exact hown') (by simpa using hat),HB.out.2.grown hgrow (fun k hk e=>by have:=hlow k hk; have:=HG.out; omega),HB.out.1.grown hgrow hlow⟩
  obtain ⟨va',vc',rfl⟩:=slice_of_ownK hown'
  clear hown' hgrow hat HON HOa HB HNW hlow HOO HK HG
  go_wp2_with fail
  exact ⟨⟨i+1,P++[(x,.slice ua rn uc)],r2,by go_num,by omega,by rw [List.map_append]; exact HK2.out,HF.out⟩,by simp [intOf]; omega⟩
abbrev St:=Except Int (List UInt8)
def nV:St→Int
  | .ok r=>match rdN r with
    | .ok (n,_)=>n
    | .error _=>0
  | .error _=>0
def rS {α:Type} (one:Rd α):St→St
  | .ok r=>match one r with
    | .ok (_,s)=>.ok s
    | .error e=>.error e
  | .error e=>.error e
def okS (l:List UInt8) (p:Nat) (err:Int):St→Prop
  | .ok r=>err=0∧p≤l.length∧l.drop p=r
  | .error e=>err=e∧e≠0∧p≤l.length
def RS (g:Nat) (l:List UInt8) (st:St) (W:World):Prop :=
  ∃ (p:Nat) (err:Int),W.heap[g]?=some (.cells #[.string ⟨l.toArray⟩,.int .i64 p,.int .i64 err] 61 (0,0))∧okS l p err st
theorem RS.lt {g:Nat} {l:List UInt8} {st:St} {W:World} (h:RS g l st W):g<W.heap.size:=by
  obtain ⟨p,err,h1,_⟩:=h
  exact blk_lt h1
theorem RS.next {g:Nat} {l:List UInt8} {st:St} {W W':World} (h:RS g l st W) (hb:Below W.heap.size W W'):RS g l st W':=by
  obtain ⟨p,err,h1,h2⟩:=h
  exact ⟨p,err,(hb.block g (blk_lt h1)).trans h1,h2⟩
theorem RS.only {g j:Nat} {l:List UInt8} {st:St} {W W':World} (h:RS g l st W) (hb:Only j W W') (hn:g≠j):RS g l st W':=by
  obtain ⟨p,err,h1,h2⟩:=h
  exact ⟨p,err,(hb.block g (blk_lt h1) hn).trans h1,h2⟩
theorem RS.set {g j o:Nat} {l:List UInt8} {st:St} {W:World} (h:RS g l st W) (v:Value) (hn:g≠j):RS g l st (W.setCell ⟨j,o,none⟩ v):=by
  obtain ⟨p,err,h1,h2⟩:=h
  exact ⟨p,err,set_blk h1 hn,h2⟩
set_option maxRecDepth 100000 in
set_option maxHeartbeats 2000000 in
theorem rnum_any (g:Nat) (l:List UInt8) (st:St) (w:World) (h:RS g l st w) (hl:l.length≤140737488355328) :
    Calls Tryz.prog 18 #[.pointer (some ⟨g,0,none⟩)] w fun e w'=>e=.returned (.int .i64 (nV st))∧RS g l (rS rdN st) w'∧Only g w w':=by
  obtain ⟨p,err,hb,hs⟩:=h
  have c0:w.cell? ⟨g,0,none⟩=some (.string ⟨l.toArray⟩):=by rw [Lib.cell_of_heap hb]; rfl
  have c1:w.cell? ⟨g,1,none⟩=some (.int .i64 p):=by rw [Lib.cell_of_heap hb]; rfl
  have c2:w.cell? ⟨g,2,none⟩=some (.int .i64 err):=by rw [Lib.cell_of_heap hb]; rfl
  have f1:w.frozen? ⟨g,1,none⟩=false:=Lib.frozen_of_heap hb _
  have f2:w.frozen? ⟨g,2,none⟩=false:=Lib.frozen_of_heap hb _
  obtain ⟨s,hss⟩:∃ s:ByteArray,(⟨l.toArray⟩:ByteArray)=s:=⟨_,rfl⟩
  have hz:s.size=l.length:=by rw [← hss]; simp [ByteArray.size]
  rw [hss] at c0
  cases st with
  | error e =>
    obtain ⟨rfl,he,hp⟩:=hs
    have he1:(err == 0)=false:=beq_eq_false_iff_ne.2 he
    have he2:(err != 0)=true:=by simp [he]
    have HR:Hid (RS g l (rS rdN (.error err)) w):=⟨p,err,hb,rfl,he,hp⟩
    clear hb f1 f2 hz
    go_enter Tryz.func18,Tryz.ntmps18
    go_wp2_with fail
    go_big_quiet (fail)
    go_wp2_with fail
    go_ret
    exact ⟨rfl,HR.out,(Only.refl _ w).drewN _⟩
  | ok r =>
    obtain ⟨rfl,hp,hr⟩:=hs
    have hsub:IntKind.i64.wrap ((s.size:Int) - p)=(s.size:Int) - p:=by rw [IntKind.wrap_i64]; omega
    have hsub2:wrap64 ((s.size:Int) - p)=(s.size:Int) - p:=by unfold wrap64; omega
    have hrl:r.length=l.length - p:=by rw [← hr]; simp
    by_cases h2:(s.size:Int) - p<2
    · have hd2:decide ((s.size:Int) - p<2)=true:=decide_eq_true h2
      have hE:rdN r=.error 11:=by
        match r,hrl with
        | [],_=>rfl
        | [_],_=>rfl
        | _ :: _ :: _,h=>simp at h; omega
      have HR:Hid (nV (.ok r)=0∧∀ n,RS g l (rS rdN (.ok r)) ((w.drewN n).setCell ⟨g,2,none⟩ (.int .i64 11))):=by
        refine ⟨by simp only [nV,hE],fun n=>⟨p,11,?_,?_⟩⟩
        · have:=blk_set (W:=w.drewN n) (o:=2) hb (.int .i64 11)
          simpa using this
        · simp only [rS,hE]
          exact ⟨rfl,by omega,hp⟩
      clear hb f1 hE
      rw [hz] at h2 hd2 hsub hsub2
      go_enter Tryz.func18,Tryz.ntmps18
      go_wp2_with fail
      go_big_quiet (fail)
      go_wp2_with fail
      go_ret
      exact ⟨by rw [HR.out.1]; rfl,HR.out.2 _,But.setCell ((But.refl _ w).drewN _) _ _ (.inr rfl)⟩
    · have hd2:decide ((s.size:Int) - p<2)=false:=decide_eq_false h2
      obtain ⟨a,b,t,rfl⟩:∃ a b t,r=a :: b :: t:=by
        match r,hrl with
        | [],h=>simp at h; omega
        | [_],h=>simp at h; omega
        | a :: b :: t,_=>exact ⟨a,b,t,rfl⟩
      have ha:l[p]?=some a:=by
        have:=congrArg (fun x=>x[0]?) hr
        simpa using this
      have hb1:l[p+1]?=some b:=by
        have:=congrArg (fun x=>x[1]?) hr
        simpa using this
      have ht:l.drop (p+2)=t:=by
        have:=congrArg (List.drop 2) hr
        rw [List.drop_drop] at this
        simpa using this
      have i0:∀ W,(Instr.index 9 (.string s) (.int .i64 (p:Int))).run Tryz.prog W=.ok (.int .u8 a.toNat) W:=fun W=>by
        rw [run_index_string W _ _ _ _ Tryz.underlying9,dif_pos ⟨by omega,by omega⟩]
        subst hss
        obtain ⟨h1,h2⟩:=List.getElem?_eq_some_iff.1 ha
        subst h2; rfl
      have i1:∀ W,(Instr.index 9 (.string s) (.int .i64 ((p:Int)+1))).run Tryz.prog W=.ok (.int .u8 b.toNat) W:=fun W=>by
        rw [run_index_string W _ _ _ _ Tryz.underlying9,dif_pos ⟨by omega,by omega⟩]
        subst hss
        obtain ⟨h1,h2⟩:=List.getElem?_eq_some_iff.1 hb1
        subst h2; rfl
      have ha2:=a.toNat_lt
      have hb2:=b.toNat_lt
      have HR:Hid (nV (.ok (a :: b :: t))=(a.toNat:Int) * 256+b.toNat∧∀ n,RS g l (rS rdN (.ok (a :: b :: t))) ((w.drewN n).setCell ⟨g,1,none⟩ (.int .i64 ((p:Int)+2)))):=by
        refine ⟨rfl,fun n=>⟨p+2,0,?_,?_⟩⟩
        · have:=blk_set (W:=w.drewN n) (o:=1) hb (.int .i64 ((p:Int)+2))
          simpa using this
        · exact ⟨rfl,by simp at hrl; omega,ht⟩
      clear hb f2 ha hb1 ht hr
      rw [hz] at h2 hd2 hsub hsub2
      go_enter Tryz.func18,Tryz.ntmps18
      go_wp2_with fail
      go_big_quiet (fail)
      go_wp2_with fail
      go_big_quiet (fail)
      go_wp2_with fail
      go_ret
      exact ⟨by rw [HR.out.1]; rfl,HR.out.2 _,But.setCell ((But.refl _ w).drewN _) _ _ (.inr rfl)⟩
theorem ex_cases {α:Type} (o:Except Int α):(∃ e,o=.error e)∨∃ p,o=.ok p:=by
  cases o with
  | error e=>exact .inl ⟨e,rfl⟩
  | ok p=>exact .inr ⟨p,rfl⟩
theorem nV_lt (st:St):0≤nV st∧nV st≤65535:=by
  rcases ex_cases st with ⟨e,rfl⟩ | ⟨r,rfl⟩
  · simp [nV]
  · rcases ex_cases (rdN r) with ⟨e,h⟩ | ⟨⟨n,s⟩,h⟩
    · simp [nV,h]
    · have:=rdN_lt h
      simp only [nV,h]
      exact ⟨this.1,this.2.1⟩
def rK {α:Type} (one:Rd α) (n:Nat):St→Except Int (List α × List UInt8)
  | .ok r=>rdK one n r
  | .error e=>.error e
def stOf {α:Type}:Except Int (α × List UInt8)→St
  | .ok (_,s)=>.ok s
  | .error e=>.error e
theorem rS_eq {α:Type} (one:Rd α) (r:List UInt8):rS one (.ok r)=stOf (one r):=by
  rcases ex_cases (one r) with ⟨e,h⟩ | ⟨⟨n,s⟩,h⟩ <;> simp only [rS,stOf,h]
theorem rK_end {α:Type} (one:Rd α) {i n:Nat} (st:St) (hi:i≤n) (h:i=n∨∃ e,stOf (rK one i st)=.error e):stOf (rK one n st)=stOf (rK one i st)∧∀ xs r,rK one n st=.ok (xs,r)→rK one i st=.ok (xs,r):=by
  rcases h with rfl | ⟨e,h⟩
  · exact ⟨rfl,fun _ _ h=>h⟩
  · have h1:rK one i st=.error e:=by
      revert h
      cases rK one i st with
      | error e'=>intro h; simp only [stOf,Except.error.injEq] at h; rw [h]
      | ok p=>obtain ⟨x,s⟩:=p; intro h; simp [stOf] at h
    have h2:rK one n st=.error e:=by
      cases st with
      | error e'=>exact h1
      | ok r=>exact rdK_err hi h1
    rw [h1,h2]
    exact ⟨rfl,fun _ _ h=>h⟩
theorem rK_snoc {α:Type} (one:Rd α) (i:Nat) (st:St) {xs:List α} {r:List UInt8} (h:rK one i st=.ok (xs,r)):stOf (rK one (i+1) st)=stOf (one r)∧∀ ys s,rK one (i+1) st=.ok (ys,s)→∃ x,one r=.ok (x,s)∧ys=xs++[x]:=by
  cases st with
  | error e=>cases h
  | ok q =>
    have h':rdK one i q=.ok (xs,r):=h
    show stOf (rdK one (i+1) q)=_∧∀ ys s,rdK one (i+1) q=.ok (ys,s)→_
    rw [rdK_snoc,h']
    simp only
    cases one r with
    | error e=>exact ⟨rfl,fun _ _ h=>by cases h⟩
    | ok p =>
      obtain ⟨x,s⟩:=p
      refine ⟨rfl,fun ys s' h=>⟨x,?_,?_⟩⟩
      · simp only [Except.ok.injEq,Prod.mk.injEq] at h
        rw [h.2]
      · simp only [Except.ok.injEq,Prod.mk.injEq] at h
        exact h.1.symm
theorem stOf_ok {α:Type} {o:Except Int (α × List UInt8)} {r:List UInt8} (h:stOf o=.ok r):∃ x,o=.ok (x,r):=by
  cases o with
  | error e=>cases h
  | ok p=>obtain ⟨x,s⟩:=p; simp only [stOf,Except.ok.injEq] at h; rw [h]; exact ⟨x,rfl⟩
def actO (look tv:Int) (P:List Int) (x:Int):St→Except Int (Ac × List UInt8)
  | .ok r'=>if x > 1 then .error 10 else .ok (⟨look,tv - 1,P,decide (x=1)⟩,r')
  | .error e=>.error e
theorem act_math (r:List UInt8) (P:List Int) (s1 s2 s3:St) (R4:Except Int (List Int × List UInt8)) (h1:rS rdN (.ok r)=s1) (h3:rS rdN s1=s2) (h5:rS rdN s2=s3) (h6:rK rdN (nV s2).toNat s3=R4) (hP:∀ xs r,R4=.ok (xs,r)→P=xs) :
    rdA r=actO (nV (.ok r)) (nV s1) P (nV (stOf R4)) (rS rdN (stOf R4)):=by
  subst h1 h3 h5 h6
  unfold rdA rdL rdB actO
  rcases ex_cases (rdN r) with ⟨e,e1⟩ | ⟨⟨look,r1⟩,e1⟩
  · simp only [rS,e1,rK,stOf]
  · simp only [rS,e1,nV] at hP ⊢
    rcases ex_cases (rdN r1) with ⟨e,e2⟩ | ⟨⟨tv,r2⟩,e2⟩
    · simp only [e2,rK,stOf]
    · simp only [e2] at hP ⊢
      rcases ex_cases (rdN r2) with ⟨e,e3⟩ | ⟨⟨n,r3⟩,e3⟩
      · simp only [e3,rK,stOf]
      · simp only [e3,rK] at hP ⊢
        rcases ex_cases (rdK rdN n.toNat r3) with ⟨e,e4⟩ | ⟨⟨xs,r4⟩,e4⟩
        · simp only [e4,stOf]
        · simp only [e4,stOf]
          have:=hP xs r4 e4
          subst this
          rcases ex_cases (rdN r4) with ⟨e,e5⟩ | ⟨⟨x,r5⟩,e5⟩
          · simp only [e5]
          · simp only [e5]
            by_cases hx:x > 1
            · simp only [if_pos hx]
            · simp only [if_neg hx]
set_option maxRecDepth 100000 in
set_option maxHeartbeats 4000000 in
theorem rract_any (g:Nat) (l r:List UInt8) (w:World) (h:RS g l (.ok r) w) (hl:l.length≤140737488355328) :
    Calls Tryz.prog 19 #[.pointer (some ⟨g,0,none⟩)] w fun e w'=>∃ a v,e=.returned v∧valA a v w w'∧RS g l (stOf (rdA r)) w'∧Only g w w'∧(∀ a' r',rdA r=.ok (a',r')→a'=a):=by
  obtain ⟨ii,hii,hi0,hi1,hi2⟩:=info_parts infoInt1
  have HN:Hid (∀ (st:St) W,RS g l st W→Calls Tryz.prog 18 #[.pointer (some ⟨g,0,none⟩)] W fun e w'=>e=.returned (.int .i64 (nV st))∧RS g l (rS rdN st) w'∧Only g W w'):=fun st W h=>rnum_any g l st W h hl
  have hg:=h.lt
  have B0:Below w.heap.size w (w.alloc (Obj.cells #[.int .i64 0,.int .i64 0,.slice none 0 0,.bool false] 41)):=(Below.refl _ _).alloc (Nat.le_refl _) _
  have b0:(w.alloc (Obj.cells #[.int .i64 0,.int .i64 0,.slice none 0 0,.bool false] 41)).heap[w.heap.size]?=some (Obj.cells #[.int .i64 0,.int .i64 0,.slice none 0 0,.bool false] 41):=heap_alloc_new _ _
  have HC:=HN.out _ _ (h.next B0)
  clear h
  go_enter Tryz.func19,Tryz.ntmps19
  go_wp2_with fail
  generalize w.alloc (Obj.cells #[.int .i64 0,.int .i64 0,.slice none 0 0,.bool false] 41)=w0 at *
  refine HC.mono ?_
  rintro e w1 ⟨rfl,k1,j1⟩
  obtain ⟨look,hlook⟩:∃ look,nV (.ok r)=look:=⟨_,rfl⟩
  have hlk:=nV_lt (.ok r)
  rw [hlook] at hlk ⊢
  obtain ⟨s1,hs1⟩:∃ s,rS rdN (.ok r)=s:=⟨_,rfl⟩
  rw [hs1] at k1
  have p0:=but_blk j1 b0 (by show ¬ _=g; omega)
  have ba:Below w1.heap.size w1 (w1.alloc (Obj.cells #[.int .i64 look,.int .i64 0,.slice none 0 0,.bool false] 41)):=(Below.refl _ _).alloc (Nat.le_refl _) _
  have pb:(w1.alloc (Obj.cells #[.int .i64 look,.int .i64 0,.slice none 0 0,.bool false] 41)).heap[w1.heap.size]?=some (Obj.cells #[.int .i64 look,.int .i64 0,.slice none 0 0,.bool false] 41):=heap_alloc_new _ _
  have p1:=(ba.block _ (blk_lt p0)).trans p0
  have h7:=((Only.next B0).trans j1).trans (Only.next ba)
  have hab:=blk_lt p0
  have HC2:=HN.out _ _ (k1.next ba)
  have HM:Hid (nV (.ok r)=look∧rS rdN (.ok r)=s1):=⟨hlook,hs1⟩
  clear HC k1 j1 b0 p0 B0 ba hlook hs1
  go_upto_region 2 with fail
  obtain ⟨ab,habe⟩:∃ ab,w1.heap.size=ab:=⟨_,rfl⟩
  rw [habe] at pb hab ⊢
  clear habe
  generalize w1.alloc (Obj.cells #[.int .i64 look,.int .i64 0,.slice none 0 0,.bool false] 41)=w2 at *
  go_wp2_with fail
  refine HC2.mono ?_
  rintro e w3 ⟨rfl,k1,j1⟩
  obtain ⟨tv,htv⟩:∃ tv,nV s1=tv:=⟨_,rfl⟩
  have htl:=nV_lt s1
  rw [htv] at htl ⊢
  obtain ⟨s2,hs2⟩:∃ s,rS rdN s1=s:=⟨_,rfl⟩
  rw [hs2] at k1
  have p0:=but_blk j1 p1 (by show ¬ _=g; omega)
  have pa:=but_blk j1 pb (by show ¬ _=g; omega)
  have hy1:IntKind.i64.wrap (tv - 1)=tv - 1:=by rw [IntKind.wrap_i64]; omega
  have hy2:wrap64 (tv - 1)=tv - 1:=by unfold wrap64; omega
  have c1:w3.cell? ⟨ab,1,none⟩=some (.int .i64 0):=by rw [Lib.cell_of_heap pa]; rfl
  have f1:w3.frozen? ⟨ab,1,none⟩=false:=Lib.frozen_of_heap pa _
  have q1:=blk_set (o:=1) pa (.int .i64 (tv - 1))
  have q0:=set_blk (o:=1) (v:=.int .i64 (tv - 1)) p0 (show w.heap.size≠ab by omega)
  have k2:=k1.set (o:=1) (j:=ab) (.int .i64 (tv - 1)) (by omega)
  have h8:=(h7.trans j1).set (o:=1) (j:=ab) (.int .i64 (tv - 1)) (by omega)
  have HC3:=HN.out _ _ k2
  have HM2:Hid (nV s1=tv∧rS rdN s1=s2):=⟨htv,hs2⟩
  clear HC2 k1 j1 p0 pa p1 pb k2 h7 htv hs2
  go_wp2_with fail
  clear c1 f1 hy1 hy2
  generalize w3.setCell ⟨ab,1,none⟩ (.int .i64 (tv - 1))=w4 at *
  refine HC3.mono ?_
  rintro e w5 ⟨rfl,k1,j1⟩
  have hnl:=nV_lt s2
  obtain ⟨n,hn⟩:∃ n:Nat,nV s2=(n:Int):=⟨(nV s2).toNat,by omega⟩
  rw [hn] at hnl ⊢
  obtain ⟨s3,hs3⟩:∃ s,rS rdN s2=s:=⟨_,rfl⟩
  rw [hs3] at k1
  have p0:=but_blk j1 q0 (by show ¬ _=g; omega)
  have pa:=but_blk j1 q1 (by show ¬ _=g; omega)
  simp at pa
  have h9:=h8.trans j1
  have hsz5:=blk_lt pa
  have HM3:Hid (nV s2=(n:Int)∧rS rdN s2=s3):=⟨hn,hs3⟩
  clear HC3 j1 q0 q1 h8 hn hs3
  go_wp2_with fail
  go_loopw [5] (fun iv wr=>∃ (i:Nat) (P:List Int) (v:Value),iv=.int .i64 i∧i≤n∧P.length=i∧wr.heap[ab]?=some (Obj.cells #[.int .i64 look,.int .i64 (tv - 1),v,.bool false] 41)∧wr.heap[w.heap.size]?=some (Obj.cells #[.int .i64 0,.int .i64 0,.slice none 0 0,.bool false] 41)∧OwnI w5.heap.size P v wr∧(∀ x∈P,0≤x∧x≤65535)∧RS g l (stOf (rK rdN i s3)) wr∧(∀ xs r,rK rdN i s3=.ok (xs,r)→P=xs)∧Only g w wr∧w5.heap.size≤wr.heap.size) (fun i _=>n - (intOf i).toNat)
  case atStart =>
    refine ⟨0,[],.slice none 0 0,rfl,Nat.zero_le _,rfl,pa,p0,World.ownsRow_nil _ _ _ _,fun x hx=>(by cases hx),?_,fun xs r hx=>?_,h9,Nat.le_refl _⟩
    · cases s3 with
      | error e=>exact k1
      | ok r=>exact k1
    · cases s3 with
      | error e=>cases hx
      | ok r=>simp only [rK,rdK,Except.ok.injEq,Prod.mk.injEq] at hx; exact hx.1
  case round =>
  clear k1 pa p0 h9
  obtain ⟨i,P,v,rfl,hi,hPl,pa,p0,hO,hok,hR,hX,hW,hwz⟩:=hrel
  obtain ⟨va,vc,rfl⟩:=slice_of_ownK hO
  have hPl1:P.length≤i:=by omega
  have c2:wr.cell? ⟨ab,2,none⟩=some (.slice va P.length vc):=by rw [Lib.cell_of_heap pa]; rfl
  obtain ⟨pp,err,hrb,hrs⟩:=id hR
  have ce:wr.cell? ⟨g,2,none⟩=some (.int .i64 err):=by rw [Lib.cell_of_heap hrb]; rfl
  by_cases hgo:i<n∧err=0
  case pos =>
    obtain ⟨hlt,rfl⟩:=hgo
    obtain ⟨r3,hr3⟩:∃ r3,stOf (rK rdN i s3)=.ok r3:=by
      cases hst:stOf (rK rdN i s3) with
      | ok r3=>exact ⟨r3,rfl⟩
      | error e=>rw [hst] at hrs; exact absurd hrs.1.symm hrs.2.1
    obtain ⟨xs,hxs⟩:=stOf_ok hr3
    have hPx:=hX xs r3 hxs
    subst hPx
    rw [hr3] at hR
    obtain ⟨m1,m2⟩:=rK_snoc rdN i s3 hxs
    have hlt':(i:Int)<n:=by omega
    have hd:decide ((i:Int)<n)=true:=decide_eq_true hlt'
    have HCd:Hid (Calls Tryz.prog 18 #[.pointer (some ⟨g,0,none⟩)] wr.drew fun e w'=>e=.returned (.int .i64 (nV (.ok r3)))∧RS g l (rS rdN (.ok r3)) w'∧Only g wr.drew w'):=HN.out (.ok r3) wr.drew hR
    have HNX:Hid (stOf (rK rdN (i+1) s3)=rS rdN (.ok r3)∧∀ ys s,rK rdN (i+1) s3=.ok (ys,s)→P++[nV (.ok r3)]=ys):=by
      refine ⟨by rw [m1,rS_eq],fun ys s hy=>?_⟩
      obtain ⟨x,e1,e2⟩:=m2 ys s hy
      rw [e2]
      simp only [nV,e1]
    have HH:Hid (OwnI w5.heap.size P (.slice va P.length vc) wr∧(∀ x∈P,0≤x∧x≤65535)∧Only g w wr∧P.length=i):=⟨hO,hok,hW,hPl⟩
    have hS0:(fun W:World=>(W.cell? ⟨ab,2,none⟩=some (.slice va P.length vc))) wr.drew:=c2
    clear hO hok hR hX hW hrs hrb m1 m2 hxs hr3 hPl
    go_upto_region 7 with fail
    clear c2 ce
    refine wp_region_L (fun W=>W.cell? ⟨ab,2,none⟩=some (.slice va P.length vc)) 7 (by kernel_rfl) 8 rfl ?_
    refine tk 0 ⟨some 28,.fieldAddr 41 (.tmp 3) 2,0, "ref.go:252",#[],none⟩ hS0 ?_;simp only [Act.put,sA,s0,sS]
    refine tk 1 ⟨some 29,.load 39 (.tmp 28),39, "ref.go:252",#[⟨0,.data⟩],none⟩ hS0 ?_;simp only [Act.put,sA,s0,sS]
    refine tk 2 ⟨some 30,.move (.tmp 0),59, "ref.go:252",#[],none⟩ hS0 ?_;simp only [Act.put,sA,s0,sS]
    refine wpAnyL_one' (i:=3) (o:=⟨some 31,.call ⟨.value (.func 18),#[.tmp 30],#[59]⟩,3, "ref.go:252",#[⟨2,.data⟩],none⟩) (by kernel_rfl) rfl rfl (fun KQ hK=>?_)
    go_simp
    refine HCd.out.mono ?_
    rintro e w7 ⟨rfl,k7,j7⟩
    have j7':Only g wr w7:=(But.refl _ wr).drew.trans j7
    obtain ⟨x,hx⟩:∃ x,nV (.ok r3)=x:=⟨_,rfl⟩
    have hxl:=nV_lt (.ok r3)
    rw [hx] at hxl HNX ⊢
    have pa7:=but_blk j7' pa (by show ¬ _=g; omega)
    have p07:=but_blk j7' p0 (by show ¬ _=g; omega)
    have hS1:w7.cell? ⟨ab,2,none⟩=some (.slice va P.length vc):=by rw [Lib.cell_of_heap pa7]; rfl
    refine hK.out _ _ (fun _=>hS1) ?_
    clear hK
    have ba:Below w7.heap.size w7 (w7.alloc (Obj.cells #[.int .i64 x] 3)):=(Below.refl _ _).alloc (Nat.le_refl _) _
    have paa:=(ba.block _ (blk_lt pa7)).trans pa7
    have p0a:=(ba.block _ (blk_lt p07)).trans p07
    have hSa:(w7.alloc (Obj.cells #[.int .i64 x] 3)).cell? ⟨ab,2,none⟩=some (.slice va P.length vc):=by rw [Lib.cell_of_heap paa]; rfl
    have hO7:OwnI w5.heap.size P (.slice va P.length vc) w7:=own_only HH.out.1 j7' (by omega)
    have HOa:Hid ((w7.alloc (Obj.cells #[.int .i64 x] 3)).ownsRow w5.heap.size 3 1 (.slice va P.length vc) P.length (P.map encI)):=ownsRow_below4 hO7 ba
    have HRa:Hid (RS g l (rS rdN (.ok r3)) (w7.alloc (Obj.cells #[.int .i64 x] 3))∧Only g w (w7.alloc (Obj.cells #[.int .i64 x] 3))):=⟨k7.next ba,(HH.out.2.2.1.trans j7').trans (Only.next ba)⟩
    have HN1:∀ (i:Nat) (u:Value),[Value.int .i64 x][i]?=some u→(w7.alloc (Obj.cells #[.int .i64 x] 3)).cell? ((⟨w7.heap.size,0,none⟩:Addr).add i)=some u:=fun i u hi=>by
      rw [add_plain,Nat.zero_add]
      rcases i with _ | i <;> simp at hi <;> subst hi <;> simp
    have hszn:w5.heap.size≤(w7.alloc (Obj.cells #[.int .i64 x] 3)).heap.size:=by have:=j7'.size; simp; omega
    refine wpAnyL_one' (i:=4) (o:=⟨some 32,.buildSlice 39 1 #[(0,.tmp 31)],39, "ref.go:252",#[⟨3,.data⟩],none⟩) (by kernel_rfl) rfl rfl (fun KQ hK=>?_)
    go_simp
    refine hK.out _ _ (fun _=>hSa) ?_
    clear hK
    refine wpAnyL_one' (i:=5) (o:=⟨some 33,.call ⟨.builtin .append,#[.tmp 29,.tmp 32],#[39,39]⟩,39, "ref.go:252",#[⟨1,.data⟩,⟨4,.data⟩,⟨3,.chain⟩],none⟩) (by kernel_rfl) rfl rfl (fun KQ hK=>?_)
    rw [if_pos (by rfl)]
    refine wp_append_ownq (.tmp 29) (.tmp 32) 39 rfl w5.heap.size 3 ii _ 1 8 Tryz.underlying39 hii hi0 hi1 hi2 rfl (by decide) _ _ _ rfl HOa.out ⟨w7.heap.size,0,none⟩ 1 [.int .i64 x] rfl rfl HN1 (by simp [Value.oneCell']) (by unfold maxLen; omega) (by omega) hszn ?_
    intro v' w8 hown' hgrow hat
    have hvb:∀ k,(Value.slice va P.length vc).ownBlock=some k→w5.heap.size≤k:=fun k hk=>(World.ownsRow.lt HOa.out k hk).1
    have pa8:w8.heap[ab]?=some (Obj.cells #[.int .i64 look,.int .i64 (tv - 1),.slice va P.length vc,.bool false] 41):=(hgrow.block _ (blk_lt paa) (fun e=>by have:=hvb ab e.symm; omega)).trans paa
    have p08:=(hgrow.block _ (blk_lt p0a) (fun e=>by have:=hvb _ e.symm; omega)).trans p0a
    have hS8:w8.cell? ⟨ab,2,none⟩=some (.slice va P.length vc):=by rw [Lib.cell_of_heap pa8]; rfl
    have hf8:w8.frozen? ⟨ab,2,none⟩=false:=Lib.frozen_of_heap pa8 _
    obtain ⟨va',vc',rfl⟩:=slice_of_ownK hown'
    have hR8:RS g l (rS rdN (.ok r3)) w8:=by
      obtain ⟨pp,err,h1,h2⟩:=HRa.out.1
      exact ⟨pp,err,(hgrow.block _ (blk_lt h1) (fun e=>by have:=hvb g e.symm; omega)).trans h1,h2⟩
    have hW8:Only g w w8:=HRa.out.2.grown hgrow (fun k hk=>by have:=hvb k hk; omega)
    have HF:Hid ((P++[x]).length=i+1∧(w8.setCell ⟨ab,2,none⟩ (.slice va' (P.length+1) vc')).heap[ab]?=some (Obj.cells #[.int .i64 look,.int .i64 (tv - 1),.slice va' (P.length+1) vc',.bool false] 41)∧(w8.setCell ⟨ab,2,none⟩ (.slice va' (P.length+1) vc')).heap[w.heap.size]?=some (Obj.cells #[.int .i64 0,.int .i64 0,.slice none 0 0,.bool false] 41)∧OwnI w5.heap.size (P++[x]) (.slice va' (P.length+1) vc') (w8.setCell ⟨ab,2,none⟩ (.slice va' (P.length+1) vc'))∧(∀ y∈P++[x],0≤y∧y≤65535)∧RS g l (stOf (rK rdN (i+1) s3)) (w8.setCell ⟨ab,2,none⟩ (.slice va' (P.length+1) vc'))∧(∀ xs r,rK rdN (i+1) s3=.ok (xs,r)→P++[x]=xs)∧Only g w (w8.setCell ⟨ab,2,none⟩ (.slice va' (P.length+1) vc'))∧w5.heap.size≤(w8.setCell ⟨ab,2,none⟩ (.slice va' (P.length+1) vc')).heap.size):=by
      have hw8:w5.heap.size≤w8.heap.size:=Nat.le_trans hszn hgrow.size
      refine ⟨by rw [List.length_append,HH.out.2.2.2]; rfl,?_,set_blk p08 (by omega),?_,fun y hy=>?_,?_,HNX.out.2,hW8.set _ (by omega),by simpa [World.setCell] using hw8⟩
      · have h1:=blk_set (o:=2) pa8 (.slice va' (P.length+1) vc')
        simpa using h1
      · have h1:OwnI w5.heap.size (P++[x]) (.slice va' (P.length+1) vc') w8:=by simpa [OwnI,encI] using hown'
        exact ownsRow_keep (D:=fun k=>k=ab) h1 ((But.refl _ w8).setCell _ _ (.inr rfl)) (fun k hk (e:k=ab)=>by have:=(World.ownsRow.lt hown' k hk).1; omega)
      · rcases List.mem_append.1 hy with hy | hy
        · exact HH.out.2.1 y hy
        · rw [List.mem_singleton.1 hy]; exact hxl
      · rw [HNX.out.1]; exact hR8.set _ (by omega)
    refine hK.out _ _ (fun _=>hS8) ?_
    clear hK hown' hgrow hat
    simp only [Act.put,sA,s0,sS]
    refine tk 6 ⟨some 34,.fieldAddr 41 (.tmp 3) 2,0, "ref.go:252",#[⟨0,.phase⟩,⟨1,.phase⟩,⟨2,.phase⟩,⟨3,.phase⟩,⟨4,.phase⟩,⟨5,.phase⟩],none⟩ hS8 ?_;simp only [Act.put,sA,s0,sS]
    refine wpAnyL_one' (i:=7) (o:=⟨none,.store 39 (.tmp 34) (.tmp 33),0, "ref.go:252",#[⟨6,.data⟩,⟨5,.data⟩,⟨5,.chain⟩,⟨0,.phase⟩,⟨1,.phase⟩,⟨2,.phase⟩,⟨3,.phase⟩,⟨4,.phase⟩,⟨5,.phase⟩],none⟩) (by kernel_rfl) rfl rfl (fun KQ hK=>?_)
    go_simp
    refine hK.out _ _ (fun h=>absurd h (by omega)) ?_
    clear hK
    refine wpAnyL_done (by kernel_rfl) ?_ _
    clear hS0 hS1 hSa hS8 hf8 HOa HRa HCd HNX HN1 HH pa7 p07 paa p0a pa8 p08 hR8 hW8 HN HM HM2 HM3
    go_wp2_with fail
    exact ⟨⟨i+1,_,_,by go_num,by omega,HF.out⟩,by simp [intOf]; omega⟩
  -- the loop is behind
  have hend:i=n∨∃ e,stOf (rK rdN i s3)=.error e:=by
    by_cases hin:i=n
    · exact .inl hin
    · right
      cases hst:stOf (rK rdN i s3) with
      | error e=>exact ⟨e,rfl⟩
      | ok r3=>rw [hst] at hrs; exact absurd ⟨by omega,hrs.1⟩ hgo
  obtain ⟨z1,z2⟩:=rK_end rdN s3 hi hend
  have HPX:Hid (∀ xs r,rK rdN n s3=.ok (xs,r)→P=xs):=fun xs r hx=>hX xs r (z2 xs r hx)
  rw [← z1] at hR
  have HC4:=HN.out _ _ hR
  have HH:Hid (OwnI w5.heap.size P (.slice va P.length vc) wr∧(∀ x∈P,0≤x∧x≤65535)):=⟨hO,hok⟩
  have hcase:(decide ((i:Int)<n)=false∧¬ (i:Int)<n)∨(decide ((i:Int)<n)=true∧(i:Int)<n∧(err == 0)=false∧¬ err=0):=by
    by_cases h1:i<n
    · have h2:¬ err=0:=fun h=>hgo ⟨h1,h⟩
      exact .inr ⟨decide_eq_true (by omega),by omega,beq_eq_false_iff_ne.2 h2,h2⟩
    · exact .inl ⟨decide_eq_false (by omega),by omega⟩
  clear hO hok hR hX hrs hrb z1 z2 hend hgo c2 hPl
  rcases hcase with ⟨g1,g2⟩ | ⟨g1,g2,g3,g4⟩
  all_goals
    go_upto_region 8 with fail
    clear ce
    (try clear g4)
    (try clear g3)
    clear g1 g2
    go_wp2_with fail
    refine HC4.mono ?_
    rintro e w6 ⟨rfl,k6,j6⟩
    obtain ⟨R4,hR4⟩:∃ R4,rK rdN n s3=R4:=⟨_,rfl⟩
    have hact:=act_math r P s1 s2 s3 R4 HM.out.2 HM2.out.2 HM3.out.2 (by rw [HM3.out.1]; exact hR4) (fun xs r hx=>HPX.out xs r (by rw [hR4]; exact hx))
    rw [HM.out.1,HM2.out.1] at hact
    rw [hR4] at k6 ⊢
    obtain ⟨x,hx⟩:∃ x,nV (stOf R4)=x:=⟨_,rfl⟩
    rw [hx] at hact ⊢
    obtain ⟨s5,hs5⟩:∃ s,rS rdN (stOf R4)=s:=⟨_,rfl⟩
    rw [hs5] at k6 hact
    have HACT:Hid (rdA r=actO look tv P x s5):=hact
    have pa6:=but_blk j6 pa (by show ¬ _=g; omega)
    have p06:=but_blk j6 p0 (by show ¬ _=g; omega)
    have hW6:=hW.trans j6
    have hO6:OwnI w5.heap.size P (.slice va P.length vc) w6:=own_only HH.out.1 j6 (by omega)
    have hok:=HH.out.2
    obtain ⟨pp6,err6,hrb6,hrs6⟩:=id k6
    have ce6:w6.cell? ⟨g,2,none⟩=some (.int .i64 err6):=by rw [Lib.cell_of_heap hrb6]; rfl
    have fe6:w6.frozen? ⟨g,2,none⟩=false:=Lib.frozen_of_heap hrb6 _
    have hz6:w5.heap.size≤w6.heap.size:=Nat.le_trans hwz j6.size
    -- whatever is left of the reader,the rest
    have HEND:Hid (∀ W,Only g w6 W→RS g l (stOf (rdA r)) W→(∀ a' r',rdA r=.ok (a',r')→a'=⟨look,tv - 1,P,decide (x=1)⟩) →
        W.heap[ab]?=some (Obj.cells #[.int .i64 look,.int .i64 (tv - 1),.slice va P.length vc,.bool false] 41)∧W.heap[w.heap.size]?=some (Obj.cells #[.int .i64 0,.int .i64 0,.slice none 0 0,.bool false] 41) ∧
        (∃ a v,Ending.returned (.agg #[.int .i64 look,.int .i64 (tv - 1),.slice va P.length vc,.bool (decide (x=1))])=.returned v∧valA a v w (((((W.setCell ⟨ab,3,none⟩ (.bool (decide (x=1)))).setCell ⟨w.heap.size,0,none⟩ (.int .i64 look)).setCell ⟨w.heap.size,1,none⟩ (.int .i64 (tv - 1))).setCell ⟨w.heap.size,2,none⟩ (.slice va P.length vc)).setCell ⟨w.heap.size,3,none⟩ (.bool (decide (x=1))))∧RS g l (stOf (rdA r)) (((((W.setCell ⟨ab,3,none⟩ (.bool (decide (x=1)))).setCell ⟨w.heap.size,0,none⟩ (.int .i64 look)).setCell ⟨w.heap.size,1,none⟩ (.int .i64 (tv - 1))).setCell ⟨w.heap.size,2,none⟩ (.slice va P.length vc)).setCell ⟨w.heap.size,3,none⟩ (.bool (decide (x=1))))∧Only g w (((((W.setCell ⟨ab,3,none⟩ (.bool (decide (x=1)))).setCell ⟨w.heap.size,0,none⟩ (.int .i64 look)).setCell ⟨w.heap.size,1,none⟩ (.int .i64 (tv - 1))).setCell ⟨w.heap.size,2,none⟩ (.slice va P.length vc)).setCell ⟨w.heap.size,3,none⟩ (.bool (decide (x=1))))∧(∀ a' r',rdA r=.ok (a',r')→a'=a))):=by
      intro W hWW hRR hAA
      have pW:=but_blk hWW pa6 (by show ¬ _=g; omega)
      have pW0:=but_blk hWW p06 (by show ¬ _=g; omega)
      refine ⟨pW,pW0,⟨look,tv - 1,P,decide (x=1)⟩,_,rfl,⟨va,P.length,vc,rfl,?_,?_⟩,((((hRR.set _ (by omega)).set _ (by omega)).set _ (by omega)).set _ (by omega)).set _ (by omega),(((((hW6.trans hWW).set _ (by omega)).set _ (by omega)).set _ (by omega)).set _ (by omega)).set _ (by omega),hAA⟩
      · have BE:But (fun k=>k=w.heap.size∨k=ab) W (((((W.setCell ⟨ab,3,none⟩ (.bool (decide (x=1)))).setCell ⟨w.heap.size,0,none⟩ (.int .i64 look)).setCell ⟨w.heap.size,1,none⟩ (.int .i64 (tv - 1))).setCell ⟨w.heap.size,2,none⟩ (.slice va P.length vc)).setCell ⟨w.heap.size,3,none⟩ (.bool (decide (x=1)))):=(((((But.refl _ W).setCell _ _ (.inr (.inr rfl))).setCell _ _ (.inr (.inl rfl))).setCell _ _ (.inr (.inl rfl))).setCell _ _ (.inr (.inl rfl))).setCell _ _ (.inr (.inl rfl))
        have hOW:OwnI w5.heap.size P (.slice va P.length vc) W:=own_only hO6 hWW (by omega)
        exact KeepU.of (ownsRow_keep hOW BE (fun k hk e=>by have:=(World.ownsRow.lt hOW k hk).1; omega)) (by omega) (Nat.le_refl _) (fun y hy=>by have:=hok y hy; unfold i64B; omega)
      · unfold okAc i64B; simp only; omega
    have HNO:Hid (∀ c,s5=.error c→err6=c∧c≠0):=fun c hc=>by subst hc; exact ⟨hrs6.1,hrs6.2.1⟩
    have HYES:Hid (∀ r',s5=.ok r'→err6=0∧pp6≤l.length∧l.drop pp6=r'):=fun r' hc=>by subst hc; exact hrs6
    have HRB:Hid (w6.heap[g]?=some (.cells #[.string ⟨l.toArray⟩,.int .i64 pp6,.int .i64 err6] 61 (0,0))∧RS g l s5 w6):=⟨hrb6,k6⟩
    clear k6 hrb6 hrs6 HC4 j6 pa p0 hW HH HPX hact hx hs5 hR4 hO6 hok hW6 pa6 p06 HN HM HM2 HM3
    by_cases h60:err6=0
    case neg =>
      have h61:(err6 == 0)=false:=beq_eq_false_iff_ne.2 h60
      have hs5:∃ c,s5=.error c:=by
        cases s5 with
        | error c=>exact ⟨c,rfl⟩
        | ok r'=>exact absurd (HYES.out r' rfl).1 h60
      obtain ⟨c,rfl⟩:=hs5
      obtain ⟨pW,pW0,HE⟩:=HEND.out w6 (Only.refl _ _) (by rw [HACT.out]; exact HRB.out.2) (fun a' r' h=>by rw [HACT.out] at h; simp only [actO] at h; cases h)
      have HEE:Hid _:=HE
      have c3:w6.cell? ⟨ab,3,none⟩=some (.bool false):=by rw [Lib.cell_of_heap pW]; rfl
      have c0:w6.cell? ⟨ab,0,none⟩=some (.int .i64 look):=by rw [Lib.cell_of_heap pW]; rfl
      have c1:w6.cell? ⟨ab,1,none⟩=some (.int .i64 (tv - 1)):=by rw [Lib.cell_of_heap pW]; rfl
      have c2:w6.cell? ⟨ab,2,none⟩=some (.slice va P.length vc):=by rw [Lib.cell_of_heap pW]; rfl
      have f3:w6.frozen? ⟨ab,3,none⟩=false:=Lib.frozen_of_heap pW _
      have d0:w6.cell? ⟨w.heap.size,0,none⟩=some (.int .i64 0):=by rw [Lib.cell_of_heap pW0]; rfl
      have d1:w6.cell? ⟨w.heap.size,1,none⟩=some (.int .i64 0):=by rw [Lib.cell_of_heap pW0]; rfl
      have d2:w6.cell? ⟨w.heap.size,2,none⟩=some (.slice none 0 0):=by rw [Lib.cell_of_heap pW0]; rfl
      have d3:w6.cell? ⟨w.heap.size,3,none⟩=some (.bool false):=by rw [Lib.cell_of_heap pW0]; rfl
      have e0:w6.frozen? ⟨w.heap.size,0,none⟩=false:=Lib.frozen_of_heap pW0 _
      have e1:w6.frozen? ⟨w.heap.size,1,none⟩=false:=Lib.frozen_of_heap pW0 _
      have e2:w6.frozen? ⟨w.heap.size,2,none⟩=false:=Lib.frozen_of_heap pW0 _
      have e3:w6.frozen? ⟨w.heap.size,3,none⟩=false:=Lib.frozen_of_heap pW0 _
      have z:(((((w6.setCell ⟨ab,3,none⟩ (.bool (decide (x=1)))).setCell ⟨w.heap.size,0,none⟩ (.int .i64 look)).setCell ⟨w.heap.size,1,none⟩ (.int .i64 (tv - 1))).setCell ⟨w.heap.size,2,none⟩ (.slice va P.length vc)).setCell ⟨w.heap.size,3,none⟩ (.bool (decide (x=1)))).heap[w.heap.size]?=some (Obj.cells #[.int .i64 look,.int .i64 (tv - 1),.slice va P.length vc,.bool (decide (x=1))] 41):=by
        have:=blk_set (o:=3) (blk_set (o:=2) (blk_set (o:=1) (blk_set (o:=0) (set_blk (o:=3) (v:=.bool (decide (x=1))) pW0 (show w.heap.size≠ab by omega)) (.int .i64 look)) (.int .i64 (tv - 1))) (.slice va P.length vc)) (.bool (decide (x=1)))
        simpa using this
      have HZ:Hid _:=z
      obtain ⟨xb,hxb⟩:∃ xb,decide (x=1)=xb:=⟨_,rfl⟩
      have hxq:(x == 1)=xb:=by rw [← hxb]; rfl
      rw [hxb] at HEE HZ
      clear HE z HEND HNO HYES HRB HACT
      go_wp2_with fail
      refine bodyPost_ret (results_cell1 rfl _ _ _ rfl (run_loadVar_row _ _ _ _ _ _ _ HZ.out Tryz.underlying41 rfl (by kernel_rfl))) rfl ?_
      exact HEE.out
    subst h60
    have hs5:∃ r',s5=.ok r':=by
      cases s5 with
      | ok r'=>exact ⟨r',rfl⟩
      | error c=>exact absurd (HNO.out c rfl).1.symm (HNO.out c rfl).2
    obtain ⟨r',rfl⟩:=hs5
    by_cases hx1:x > 1
    case pos =>
      have hxd:decide (x > 1)=true:=decide_eq_true hx1
      obtain ⟨y1,y2,y3⟩:=HYES.out r' rfl
      obtain ⟨pW,pW0,HE⟩:=HEND.out (w6.setCell ⟨g,2,none⟩ (.int .i64 10)) (But.setCell (But.refl _ _) _ _ (.inr rfl)) (by
        rw [HACT.out]
        simp only [actO,if_pos hx1,stOf]
        refine ⟨pp6,10,?_,rfl,by omega,y2⟩
        have:=blk_set (o:=2) HRB.out.1 (.int .i64 10)
        simpa using this) (fun a' r' h=>by rw [HACT.out] at h; simp only [actO,if_pos hx1] at h; cases h)
      clear y1 y2 y3
      go_upto_region 11 with fail
      clear ce6 fe6
      generalize w6.setCell ⟨g,2,none⟩ (.int .i64 10)=w9 at *
      have HEE:Hid _:=HE
      have c3:w9.cell? ⟨ab,3,none⟩=some (.bool false):=by rw [Lib.cell_of_heap pW]; rfl
      have c0:w9.cell? ⟨ab,0,none⟩=some (.int .i64 look):=by rw [Lib.cell_of_heap pW]; rfl
      have c1:w9.cell? ⟨ab,1,none⟩=some (.int .i64 (tv - 1)):=by rw [Lib.cell_of_heap pW]; rfl
      have c2:w9.cell? ⟨ab,2,none⟩=some (.slice va P.length vc):=by rw [Lib.cell_of_heap pW]; rfl
      have f3:w9.frozen? ⟨ab,3,none⟩=false:=Lib.frozen_of_heap pW _
      have d0:w9.cell? ⟨w.heap.size,0,none⟩=some (.int .i64 0):=by rw [Lib.cell_of_heap pW0]; rfl
      have d1:w9.cell? ⟨w.heap.size,1,none⟩=some (.int .i64 0):=by rw [Lib.cell_of_heap pW0]; rfl
      have d2:w9.cell? ⟨w.heap.size,2,none⟩=some (.slice none 0 0):=by rw [Lib.cell_of_heap pW0]; rfl
      have d3:w9.cell? ⟨w.heap.size,3,none⟩=some (.bool false):=by rw [Lib.cell_of_heap pW0]; rfl
      have e0:w9.frozen? ⟨w.heap.size,0,none⟩=false:=Lib.frozen_of_heap pW0 _
      have e1:w9.frozen? ⟨w.heap.size,1,none⟩=false:=Lib.frozen_of_heap pW0 _
      have e2:w9.frozen? ⟨w.heap.size,2,none⟩=false:=Lib.frozen_of_heap pW0 _
      have e3:w9.frozen? ⟨w.heap.size,3,none⟩=false:=Lib.frozen_of_heap pW0 _
      have z:(((((w9.setCell ⟨ab,3,none⟩ (.bool (decide (x=1)))).setCell ⟨w.heap.size,0,none⟩ (.int .i64 look)).setCell ⟨w.heap.size,1,none⟩ (.int .i64 (tv - 1))).setCell ⟨w.heap.size,2,none⟩ (.slice va P.length vc)).setCell ⟨w.heap.size,3,none⟩ (.bool (decide (x=1)))).heap[w.heap.size]?=some (Obj.cells #[.int .i64 look,.int .i64 (tv - 1),.slice va P.length vc,.bool (decide (x=1))] 41):=by
        have:=blk_set (o:=3) (blk_set (o:=2) (blk_set (o:=1) (blk_set (o:=0) (set_blk (o:=3) (v:=.bool (decide (x=1))) pW0 (show w.heap.size≠ab by omega)) (.int .i64 look)) (.int .i64 (tv - 1))) (.slice va P.length vc)) (.bool (decide (x=1)))
        simpa using this
      have HZ:Hid _:=z
      obtain ⟨xb,hxb⟩:∃ xb,decide (x=1)=xb:=⟨_,rfl⟩
      have hxq:(x == 1)=xb:=by rw [← hxb]; rfl
      rw [hxb] at HEE HZ
      clear HE z HEND HNO HYES HRB HACT
      go_wp2_with fail
      refine bodyPost_ret (results_cell1 rfl _ _ _ rfl (run_loadVar_row _ _ _ _ _ _ _ HZ.out Tryz.underlying41 rfl (by kernel_rfl))) rfl ?_
      exact HEE.out
    have hxd:decide (x > 1)=false:=decide_eq_false hx1
    obtain ⟨pW,pW0,HE⟩:=HEND.out w6 (Only.refl _ _) (by rw [HACT.out]; simp only [actO,if_neg hx1,stOf]; exact HRB.out.2) (fun a' r' h=>by
      rw [HACT.out] at h
      simp only [actO,if_neg hx1,Except.ok.injEq,Prod.mk.injEq] at h
      exact h.1.symm)
    have HEE:Hid _:=HE
    have c3:w6.cell? ⟨ab,3,none⟩=some (.bool false):=by rw [Lib.cell_of_heap pW]; rfl
    have c0:w6.cell? ⟨ab,0,none⟩=some (.int .i64 look):=by rw [Lib.cell_of_heap pW]; rfl
    have c1:w6.cell? ⟨ab,1,none⟩=some (.int .i64 (tv - 1)):=by rw [Lib.cell_of_heap pW]; rfl
    have c2:w6.cell? ⟨ab,2,none⟩=some (.slice va P.length vc):=by rw [Lib.cell_of_heap pW]; rfl
    have f3:w6.frozen? ⟨ab,3,none⟩=false:=Lib.frozen_of_heap pW _
    have d0:w6.cell? ⟨w.heap.size,0,none⟩=some (.int .i64 0):=by rw [Lib.cell_of_heap pW0]; rfl
    have d1:w6.cell? ⟨w.heap.size,1,none⟩=some (.int .i64 0):=by rw [Lib.cell_of_heap pW0]; rfl
    have d2:w6.cell? ⟨w.heap.size,2,none⟩=some (.slice none 0 0):=by rw [Lib.cell_of_heap pW0]; rfl
    have d3:w6.cell? ⟨w.heap.size,3,none⟩=some (.bool false):=by rw [Lib.cell_of_heap pW0]; rfl
    have e0:w6.frozen? ⟨w.heap.size,0,none⟩=false:=Lib.frozen_of_heap pW0 _
    have e1:w6.frozen? ⟨w.heap.size,1,none⟩=false:=Lib.frozen_of_heap pW0 _
    have e2:w6.frozen? ⟨w.heap.size,2,none⟩=false:=Lib.frozen_of_heap pW0 _
    have e3:w6.frozen? ⟨w.heap.size,3,none⟩=false:=Lib.frozen_of_heap pW0 _
    have z:(((((w6.setCell ⟨ab,3,none⟩ (.bool (decide (x=1)))).setCell ⟨w.heap.size,0,none⟩ (.int .i64 look)).setCell ⟨w.heap.size,1,none⟩ (.int .i64 (tv - 1))).setCell ⟨w.heap.size,2,none⟩ (.slice va P.length vc)).setCell ⟨w.heap.size,3,none⟩ (.bool (decide (x=1)))).heap[w.heap.size]?=some (Obj.cells #[.int .i64 look,.int .i64 (tv - 1),.slice va P.length vc,.bool (decide (x=1))] 41):=by
      have:=blk_set (o:=3) (blk_set (o:=2) (blk_set (o:=1) (blk_set (o:=0) (set_blk (o:=3) (v:=.bool (decide (x=1))) pW0 (show w.heap.size≠ab by omega)) (.int .i64 look)) (.int .i64 (tv - 1))) (.slice va P.length vc)) (.bool (decide (x=1)))
      simpa using this
    have HZ:Hid _:=z
    obtain ⟨xb,hxb⟩:∃ xb,decide (x=1)=xb:=⟨_,rfl⟩
    have hxq:(x == 1)=xb:=by rw [← hxb]; rfl
    rw [hxb] at HEE HZ
    clear HE z HEND HNO HYES HRB HACT
    go_wp2_with fail
    refine bodyPost_ret (results_cell1 rfl _ _ _ rfl (run_loadVar_row _ _ _ _ _ _ _ HZ.out Tryz.underlying41 rfl (by kernel_rfl))) rfl ?_
    exact HEE.out
set_option maxRecDepth 100000 in
set_option maxHeartbeats 2000000 in
theorem row_any (g:Nat) (l:List UInt8) (w:World) (h:RdB g l w) :
    Calls Tryz.prog 31 #[.pointer (some ⟨g,0,none⟩)] w fun e w'=>Tells g valRw (rdR l) w e w':=by
  have H2:Hid (∀ (l:List UInt8) W,RdB g l W→Calls Tryz.prog 48 #[.pointer (some ⟨g,0,none⟩),.func (.func 49) #[.pointer (some ⟨g,0,none⟩)] #[]] W fun e w'=>Tells g valGs (rdL rdG l) W e w'):=fun l W h=>listG_any g l W h
  have hg:=h.lt
  have B0:Below w.heap.size w ((w.alloc (Obj.cells #[.slice none 0 0,.slice none 0 0] 38)).alloc (Obj.cells #[.slice none 0 0,.slice none 0 0] 38)):=((Below.refl _ _).alloc (Nat.le_refl _) _).alloc (by simp) _
  have b0:((w.alloc (Obj.cells #[.slice none 0 0,.slice none 0 0] 38)).alloc (Obj.cells #[.slice none 0 0,.slice none 0 0] 38)).heap[w.heap.size]?=some (Obj.cells #[.slice none 0 0,.slice none 0 0] 38):=(Lib.alloc_old _ _ _ (by simp)).trans (heap_alloc_new _ _)
  have b1:((w.alloc (Obj.cells #[.slice none 0 0,.slice none 0 0] 38)).alloc (Obj.cells #[.slice none 0 0,.slice none 0 0] 38)).heap[w.heap.size+1]?=some (Obj.cells #[.slice none 0 0,.slice none 0 0] 38):=heap_alloc2_new _ _ _
  have r0:=h.next B0
  have HN:=listA_any g l _ r0
  clear h r0
  go_enter Tryz.func31,Tryz.ntmps31
  go_wp2_with fail
  generalize (w.alloc (Obj.cells #[.slice none 0 0,.slice none 0 0] 38)).alloc (Obj.cells #[.slice none 0 0,.slice none 0 0] 38)=w0 at *
  have hsz0:w.heap.size+2≤w0.heap.size:=blk_lt b1
  refine HN.mono ?_
  rintro e w1 (⟨acs,r1,v,h1,rfl,⟨P,hP,hA,hPl⟩,h4,h5⟩ | ⟨c,h1,rfl,h5⟩)
  case inr=>exact ⟨rfl,.inr ⟨c,by unfold rdR; rw [h1],rfl,(Only.next B0).trans h5⟩⟩
  obtain ⟨va,vc,rfl⟩:=slice_of_ownK hA.own
  have p0:=but_blk h5 b0 (by show ¬ _=g; omega)
  have p1:=but_blk h5 b1 (by show ¬ _=g; omega)
  have c1:w1.cell? ⟨w.heap.size+1,0,none⟩=some (.slice none 0 0):=by rw [Lib.cell_of_heap p1]; rfl
  have f1:w1.frozen? ⟨w.heap.size+1,0,none⟩=false:=Lib.frozen_of_heap p1 _
  have q1:=blk_set (o:=0) p1 (.slice va P.length vc)
  have q0:=set_blk (o:=0) (v:=.slice va P.length vc) p0 (show w.heap.size≠w.heap.size+1 by omega)
  have h6:RdB g r1 (w1.setCell ⟨w.heap.size+1,0,none⟩ (.slice va P.length vc)):=h4.set _ (by omega)
  have h7:Only g w (w1.setCell ⟨w.heap.size+1,0,none⟩ (.slice va P.length vc)):=((Only.next B0).trans h5).set _ (by omega)
  have hA2:OwnA w0.heap.size w0.heap.size P (.slice va P.length vc) (w1.setCell ⟨w.heap.size+1,0,none⟩ (.slice va P.length vc)):=hA.keep (D:=fun k=>k=w.heap.size+1) ((But.refl _ w1).setCell _ _ (.inr rfl)) (fun k (e:k=_)=>by omega) (fun k hk (e:k=_)=>by have:=(World.ownsRow.lt hA.own k hk).1; omega)
  have HA:Hid (OwnA w0.heap.size w0.heap.size P (.slice va P.length vc) (w1.setCell ⟨w.heap.size+1,0,none⟩ (.slice va P.length vc))∧P.map Prod.fst=acs):=⟨hA2,hP⟩
  have HN2:=H2.out r1 _ h6
  have HR1:Hid (rdL rdA l=.ok (acs,r1)):=h1
  clear HN B0 b0 b1 p0 p1 h4 h5 h6 h1 hA hA2 hP
  go_wp2_with fail
  clear c1 f1
  generalize w1.setCell ⟨w.heap.size+1,0,none⟩ (.slice va P.length vc)=w2 at *
  have hsz2:w.heap.size+2≤w2.heap.size:=blk_lt q1
  refine HN2.mono ?_
  rintro e w3 (⟨gs,r2,v,h1,rfl,⟨hG,hok,hgl⟩,h4,h5⟩ | ⟨c,h1,rfl,h5⟩)
  case inr=>exact ⟨rfl,.inr ⟨c,by unfold rdR; rw [HR1.out]; simp only [h1],rfl,h7.trans h5⟩⟩
  obtain ⟨ga,gc,rfl⟩:=slice_of_ownK hG
  have p0:=but_blk h5 q0 (by show ¬ _=g; omega)
  have p1:=but_blk h5 q1 (by show ¬ _=g; omega)
  simp at p1
  have HA3:Hid (OwnA w0.heap.size w0.heap.size P (.slice va P.length vc) w3∧OwnP 65 w2.heap.size gs (.slice ga gs.length gc) w3∧(∀ x∈gs,okP x)∧P.map Prod.fst=acs):=⟨HA.out.1.keep (D:=fun k=>k=g) h5 (fun k (e:k=_)=>by omega) (fun k hk (e:k=_)=>by have:=(World.ownsRow.lt HA.out.1.own k hk).1; omega),hG,hok,HA.out.2⟩
  have c1:w3.cell? ⟨w.heap.size+1,1,none⟩=some (.slice none 0 0):=by rw [Lib.cell_of_heap p1]; rfl
  have c2:w3.cell? ⟨w.heap.size+1,0,none⟩=some (.slice va P.length vc):=by rw [Lib.cell_of_heap p1]; rfl
  have c3:w3.cell? ⟨w.heap.size,0,none⟩=some (.slice none 0 0):=by rw [Lib.cell_of_heap p0]; rfl
  have c4:w3.cell? ⟨w.heap.size,1,none⟩=some (.slice none 0 0):=by rw [Lib.cell_of_heap p0]; rfl
  have f1:w3.frozen? ⟨w.heap.size+1,1,none⟩=false:=Lib.frozen_of_heap p1 _
  have f2:w3.frozen? ⟨w.heap.size,0,none⟩=false:=Lib.frozen_of_heap p0 _
  have f3:w3.frozen? ⟨w.heap.size,1,none⟩=false:=Lib.frozen_of_heap p0 _
  clear HN2 H2 HA hG hok
  go_wp2_with fail
  have z:(((w3.setCell ⟨w.heap.size+1,1,none⟩ (.slice ga gs.length gc)).setCell ⟨w.heap.size,0,none⟩ (.slice va P.length vc)).setCell ⟨w.heap.size,1,none⟩ (.slice ga gs.length gc)).heap[w.heap.size]?=some (Obj.cells #[.slice va P.length vc,.slice ga gs.length gc] 38):=by
    have:=blk_set (o:=1) (blk_set (o:=0) (set_blk (o:=1) (v:=.slice ga gs.length gc) p0 (show w.heap.size≠w.heap.size+1 by omega)) (.slice va P.length vc)) (.slice ga gs.length gc)
    simpa using this
  refine bodyPost_ret (results_cell1 rfl _ _ _ rfl (run_loadVar_row _ _ _ _ _ _ _ z Tryz.underlying38 rfl (by kernel_rfl))) rfl ?_
  obtain ⟨hA,hG,hok,hP⟩:=HA3.out
  have BE:But (fun k=>k=w.heap.size∨k=w.heap.size+1) w3 (((w3.setCell ⟨w.heap.size+1,1,none⟩ (.slice ga gs.length gc)).setCell ⟨w.heap.size,0,none⟩ (.slice va P.length vc)).setCell ⟨w.heap.size,1,none⟩ (.slice ga gs.length gc)):=(((But.refl _ w3).setCell _ _ (.inr (.inr rfl))).setCell _ _ (.inr (.inl rfl))).setCell _ _ (.inr (.inl rfl))
  have hA9:=hA.keep BE (fun k e=>by omega) (fun k hk e=>by have:=(World.ownsRow.lt hA.own k hk).1; omega)
  have hG9:OwnP 65 w2.heap.size gs (.slice ga gs.length gc) _:=ownsRow_keep hG BE (fun k hk e=>by have:=(World.ownsRow.lt hG k hk).1; omega)
  refine .inl ⟨⟨acs,gs⟩,r2,_,by unfold rdR; rw [HR1.out]; simp only [h1],rfl,⟨va,P.length,vc,ga,gs.length,gc,rfl,?_⟩,((h4.set _ (by omega)).set _ (by omega)).set _ (by omega),(((h7.trans h5).set _ (by omega)).set _ (by omega)).set _ (by omega)⟩
  rw [← hP]
  exact hA9.keepRw hG9 hPl hgl hok (by omega) (by omega) (by omega)
def valRws (l:List Rw) (v:Value) (W w':World):Prop:=∃ P:List (Rw × (Value × Value)),P.map Prod.fst=l∧OwnR W.heap.size W.heap.size P v w'∧P.length≤65535
set_option maxRecDepth 100000 in
set_option maxHeartbeats 2000000 in
theorem listR_any (g:Nat) (l:List UInt8) (w:World) (h:RdB g l w) :
    Calls Tryz.prog 30 #[.pointer (some ⟨g,0,none⟩),.func (.func 31) #[.pointer (some ⟨g,0,none⟩)] #[]] w fun e w'=>Tells g valRws (rdL rdR l) w e w':=by
  obtain ⟨i0,hi0,hz0,hz1,hz2⟩:=info_parts infoRow
  have HN:=number_any g l w h
  have H1:Hid (∀ (l:List UInt8) W,RdB g l W→Calls Tryz.prog 31 #[.pointer (some ⟨g,0,none⟩)] W fun e w'=>Tells g valRw (rdR l) W e w'):=fun l W h=>row_any g l W h
  have hgw:=h.lt
  have HGW:Hid (g<w.heap.size):=hgw
  clear h
  go_enter Tryz.func30,Tryz.ntmps30
  go_wp2_with fail
  refine HN.mono ?_
  rintro e w1 (⟨n,l1,v,h1,rfl,rfl,h4,h5⟩ | ⟨c,h1,rfl,h5⟩)
  case inr=>exact ⟨rfl,.inr ⟨c,by unfold rdL; rw [h1],rfl,h5⟩⟩
  obtain ⟨hn0,hn1,_⟩:=rdN_lt h1
  obtain ⟨n,rfl⟩:=Int.eq_ofNat_of_zero_le hn0
  have HL:Hid (rdL rdR l=rdK rdR n l1):=by show _=_; unfold rdL; rw [h1]; rfl
  clear HN h1
  go_wp2_with fail
  go_loopw [5,8] (fun sv iv wr=>∃ (i:Nat) (P:List (Rw × (Value × Value))) (r:List UInt8),iv=.int .i64 i∧i≤n∧rdK rdR i l1=.ok ((P.map Prod.fst),r)∧OwnR w.heap.size w.heap.size P sv wr∧RdB g r wr∧Only g w wr) (fun _ i _=>n - (intOf i).toNat)
  case atStart=>exact ⟨0,[],l1,rfl,Nat.zero_le _,rfl,OwnR.nil _ _ _,h4,h5⟩
  case round =>
  clear h4 h5
  obtain ⟨i,P,r,rfl,hi,hk,hO,hr,hw⟩:=hrel
  obtain ⟨va,vc,rfl⟩:=slice_of_ownK hO.own
  have hPl:P.length=i:=by have:=rdK_len hk; simpa using this
  have hPl1:P.length≤i:=by omega
  have hsz:=hw.size
  by_cases hlt:i<n
  case neg =>
    obtain rfl:i=n:=by omega
    have HR:Hid (Tells g valRws (rdL rdR l) w (.returned (.slice va P.length vc)) wr):=.inl ⟨_,r,_,by rw [HL.out]; exact hk,rfl,⟨P,rfl,hO,by omega⟩,hr,hw⟩
    clear hO hr hw hk H1 HL hPl hPl1
    go_wp2_with fail
    go_ret
    exact HR.out
  have hC:=H1.out r wr hr
  have HOO:Hid (OwnR w.heap.size w.heap.size P (.slice va P.length vc) wr∧Only g w wr∧RdB g r wr):=⟨hO,hw,hr⟩
  have HK:Hid (∀ _:Nat,rdK rdR i l1=.ok ((P.map Prod.fst),r)):=fun _=>hk
  have HPL:Hid (P.length=i):=hPl
  clear hO hr hw hk hPl
  go_wp2_with fail
  refine hC.mono ?_
  rintro e w2 (⟨x,r2,v,k1,rfl,k2,k3,k4⟩ | ⟨c,k1,rfl,k4⟩)
  case inr =>
    refine ⟨rfl,.inr ⟨c,?_,rfl,HOO.out.2.1.trans k4⟩⟩
    rw [HL.out]
    refine rdK_err (n:=i+1) (by omega) ?_
    rw [rdK_snoc,HK.out 0]
    simp only [k1]
  have HK2:Hid (rdK rdR (i+1) l1=.ok ((P.map Prod.fst)++[x],r2)):=by
    show _=_
    rw [rdK_snoc,HK.out 0]
    simp only [k1]
  obtain ⟨ua,rn,uc,ga,gn,gc,rfl,kU⟩:=k2
  have ba:Below w2.heap.size w2 (w2.alloc (Obj.cells #[.slice ua rn uc,.slice ga gn gc] 38)):=(Below.refl _ _).alloc (Nat.le_refl _) _
  have hO2:OwnR w.heap.size w.heap.size P (.slice va P.length vc) w2:=HOO.out.1.keep (D:=fun k=>k=g) k4 (fun k (e:k=g)=>by omega) (fun k hk (e:k=g)=>by have:=(World.ownsRow.lt HOO.out.1.own k hk).1; omega)
  have HOa:Hid (OwnR w.heap.size w.heap.size P (.slice va P.length vc) (w2.alloc (Obj.cells #[.slice ua rn uc,.slice ga gn gc] 38))):=hO2.next ba
  have HON:Hid ((w2.alloc (Obj.cells #[.slice ua rn uc,.slice ga gn gc] 38)).ownsRow w.heap.size 38 2 (.slice va P.length vc) P.length (P.flatMap encRv)):=HOa.out.own
  have HB:Hid (Only g w (w2.alloc (Obj.cells #[.slice ua rn uc,.slice ga gn gc] 38))∧RdB g r2 (w2.alloc (Obj.cells #[.slice ua rn uc,.slice ga gn gc] 38))):=⟨(HOO.out.2.1.trans k4).trans (Only.next ba),k3.next ba⟩
  have HNW:∀ (i:Nat) (u:Value),[.slice ua rn uc,.slice ga gn gc][i]?=some u→(w2.alloc (Obj.cells #[.slice ua rn uc,.slice ga gn gc] 38)).cell? ((⟨w2.heap.size,0,none⟩:Addr).add i)=some u:=fun i u hi=>by
    rw [add_plain,Nat.zero_add]
    rcases i with _ | _ | i <;> simp at hi <;> subst hi <;> simp
  have hszn:w.heap.size≤(w2.alloc (Obj.cells #[.slice ua rn uc,.slice ga gn gc] 38)).heap.size:=HB.out.1.size
  have HKU:Hid (KeepR wr.heap.size w2.heap.size x (.slice ua rn uc) (.slice ga gn gc) (w2.alloc (Obj.cells #[.slice ua rn uc,.slice ga gn gc] 38))):=kU.keep (D:=fun _=>False) (But.of_next ba) (fun _ h=>h.elim)
  have HVL:Hid (∀ k,(Value.slice va P.length vc).ownBlock=some k→k<wr.heap.size):=fun k hk=>(World.ownsRow.lt HOO.out.1.own k hk).2
  clear kU
  clear hC H1 k1 k3 k4 hO2 hgw
  go_wp2_with (at_builtin; refine wpList_append_own_at _ rfl (.tmp 10) (.tmp 13) 22 rfl w.heap.size 38 i0 _ 2 48 Tryz.underlying22 hi0 hz0 hz1 hz2 rfl (by omega) _ _ _ rfl HON.out _ 1 1 [.slice ua rn uc,.slice ga gn gc] rfl rfl HNW (by simp [Value.oneCell']) (by unfold maxLen; omega) (by omega) hszn ?_)
  intro v' w8 hown' hgrow _ hat
  have hlow:∀ k,(Value.slice va P.length vc).ownBlock=some k→w.heap.size≤k:=fun k hk=>(World.ownsRow.lt HON.out k hk).1
  have HG:Hid (g<w.heap.size):=HGW.out
  have HF:Hid (OwnR w.heap.size w.heap.size (P++[(x,(.slice ua rn uc,.slice ga gn gc))]) v' w8∧RdB g r2 w8∧Only g w w8):=⟨HOa.out.more (p:=(x,(.slice ua rn uc,.slice ga gn gc))) HKU.out hsz (by simp) HVL.out hgrow (by unfold encRv; exact hown') (by simpa using hat),HB.out.2.grown hgrow (fun k hk e=>by have:=hlow k hk; have:=HG.out; omega),HB.out.1.grown hgrow hlow⟩
  obtain ⟨va',vc',rfl⟩:=slice_of_ownK hown'
  clear hown' hgrow hat HON HOa HB HNW hlow HOO HK HG
  go_wp2_with fail
  exact ⟨⟨i+1,P++[(x,(.slice ua rn uc,.slice ga gn gc))],r2,by go_num,by omega,by rw [List.map_append]; exact HK2.out,HF.out⟩,by simp [intOf]; omega⟩
def ToldT (g:Nat) (l:List UInt8) (W:World) (e:Ending) (w':World):Prop :=
  (∃ (P:List (Rw × (Value × Value))) (ua:Option Addr) (uc B:Nat),rdT l=.ok (P.map Prod.fst)∧e=.returned (.agg #[.slice ua P.length uc])∧OwnR B B P (.slice ua P.length uc) w'∧W.heap.size≤B∧P.length≤65535∧Only g W w')∨(∃ c,rdT l=.error c∧e=throws c∧Only g W w')
set_option maxRecDepth 100000 in
set_option maxHeartbeats 2000000 in
theorem rtable_any (g:Nat) (l:List UInt8) (w:World) (h:RdB g l w) :
    Calls Tryz.prog 17 #[.pointer (some ⟨g,0,none⟩)] w fun e w'=>ToldT g l w e w':=by
  have hg:=h.lt
  have B0:Below w.heap.size w (w.alloc (Obj.cells #[.slice none 0 0] 24)):=(Below.refl _ _).alloc (Nat.le_refl _) _
  have b0:(w.alloc (Obj.cells #[.slice none 0 0] 24)).heap[w.heap.size]?=some (Obj.cells #[.slice none 0 0] 24):=heap_alloc_new _ _
  have r0:=h.next B0
  have HN:=listR_any g l _ r0
  clear h r0
  go_enter Tryz.func17,Tryz.ntmps17
  go_wp2_with fail
  generalize w.alloc (Obj.cells #[.slice none 0 0] 24)=w0 at *
  have hsz0:w.heap.size+1≤w0.heap.size:=blk_lt b0
  refine HN.mono ?_
  rintro e w1 (⟨T,r1,v,h1,rfl,⟨P,hP,hA,hPl⟩,h4,h5⟩ | ⟨c,h1,rfl,h5⟩)
  case inr=>exact ⟨rfl,.inr ⟨c,by unfold rdT; rw [h1],rfl,(Only.next B0).trans h5⟩⟩
  obtain ⟨va,vc,rfl⟩:=slice_of_ownK hA.own
  have p0:=but_blk h5 b0 (by show ¬ _=g; omega)
  have h7:=(Only.next B0).trans h5
  have ba:Below w1.heap.size w1 (w1.alloc (Obj.cells #[.slice va P.length vc] 24)):=(Below.refl _ _).alloc (Nat.le_refl _) _
  have hsz1:=h7.size
  have p1:(w1.alloc (Obj.cells #[.slice va P.length vc] 24)).heap[w1.heap.size]?=some (Obj.cells #[.slice va P.length vc] 24):=heap_alloc_new _ _
  have p2:=(ba.block _ (blk_lt p0)).trans p0
  have h8:=h7.trans (Only.next ba)
  have hr2:(w1.alloc (Obj.cells #[.slice va P.length vc] 24)).heap[g]?=some (.cells #[.string ⟨r1.toArray⟩] 57 (0,0)):=h4.next ba
  have HA:Hid (OwnR w0.heap.size w0.heap.size P (.slice va P.length vc) (w1.alloc (Obj.cells #[.slice va P.length vc] 24))∧P.map Prod.fst=T):=⟨hA.next ba,hP⟩
  have hwl:w.heap.size<w1.heap.size:=blk_lt p0
  clear HN h4 h5 hA p0 h7
  go_upto_region 2 with fail
  obtain ⟨m,hm⟩:∃ m,w1.heap.size=m:=⟨_,rfl⟩
  rw [hm] at p1 hwl ⊢
  generalize w1.alloc (Obj.cells #[.slice va P.length vc] 24)=w2 at *
  clear hm
  have c0:w2.cell? ⟨g,0,none⟩=some (.string ⟨r1.toArray⟩):=by rw [Lib.cell_of_heap hr2]; rfl
  have c1:w2.cell? ⟨m,0,none⟩=some (.slice va P.length vc):=by rw [Lib.cell_of_heap p1]; rfl
  have c2:w2.cell? ⟨w.heap.size,0,none⟩=some (.slice none 0 0):=by rw [Lib.cell_of_heap p2]; rfl
  have f2:w2.frozen? ⟨w.heap.size,0,none⟩=false:=Lib.frozen_of_heap p2 _
  cases r1 with
  | cons a t =>
    go_wp2_with fail
    exact ⟨rfl,.inr ⟨10,by unfold rdT; rw [h1]; simp,rfl,h8⟩⟩
  | nil =>
  go_wp2_with fail
  have z:(w2.setCell ⟨w.heap.size,0,none⟩ (.slice va P.length vc)).heap[w.heap.size]?=some (Obj.cells #[.slice va P.length vc] 24):=by
    have:=blk_set (o:=0) p2 (.slice va P.length vc)
    simpa using this
  refine bodyPost_ret (results_cell1 rfl _ _ _ rfl (run_loadVar_row _ _ _ _ _ _ _ z Tryz.underlying24 rfl (by kernel_rfl))) rfl ?_
  have hA:=HA.out.1
  refine .inl ⟨P,va,vc,w0.heap.size,by unfold rdT; rw [h1,HA.out.2]; simp,rfl,?_,by omega,hPl,h8.set _ (Nat.le_refl _)⟩
  exact hA.keep (D:=fun k=>k=w.heap.size) ((But.refl _ w2).setCell _ _ (.inr rfl)) (fun k (e:k=_)=>by omega) (fun k hk (e:k=_)=>by have:=(World.ownsRow.lt hA.own k hk).1; omega)
set_option maxRecDepth 100000 in
set_option maxHeartbeats 1000000 in
theorem caught_nil (w:World):Calls Tryz.prog 16 #[.nilIface] w fun e w'=>e=.returned (.int .i64 0)∧w'=w:=by
  go_enter Tryz.func16,Tryz.ntmps16
  go_wp2_with fail
  go_ret
  exact ⟨rfl,rfl⟩
set_option maxRecDepth 100000 in
set_option maxHeartbeats 1000000 in
theorem caught_some (c:Int) (w:World):Calls Tryz.prog 16 #[.iface 27 (.int .i64 c)] w fun e w'=>e=.returned (.int .i64 c)∧w'=w:=by
  have hta:∀ (xt:TypeId) W,(Instr.typeAssert (.iface 27 (.int .i64 c)) xt 27 true).run Tryz.prog W=.ok (.tuple #[.int .i64 c,.bool true]) W:=fun xt W=>by
    simp [Instr.typeAssert,run_underlying Tryz.underlying27]
  go_enter Tryz.func16,Tryz.ntmps16
  go_wp2_with fail
  go_ret
  exact ⟨rfl,rfl⟩
theorem catch_panicking (p:Addr) (x c:Int) (older:List PanicEntry) (w:World) (hc:w.cell? p=some (.int .i64 x)) (hz:w.frozen? p=false) :
    CallsD Tryz.prog 15 #[.pointer (some p)] (.panicking ({ v:=.iface 27 (.int .i64 c),recovered:=false } :: older)) w fun e u' w' =>
      e=.returned (.tuple #[])∧u'=.panicking ({ v:=.iface 27 (.int .i64 c),recovered:=true } :: older)∧w'=w.setCell p (.int .i64 c):=by
  refine callsD_of_wpS Tryz.func15 rfl fun c₀ cs hu=>?_
  apply wpS_region
  simp [wpOpsS,go_sem,recoverD,hu,Tryz.ntmps15]
  refine (caught_some c w).mono ?_
  rintro e w' ⟨rfl,rfl⟩
  simp [go_sem,hc,hz,bodyPostS,results,Tryz.results15]
theorem catch_idle (p:Addr) (x:Int) (w:World) (hc:w.cell? p=some (.int .i64 x)) (hz:w.frozen? p=false) :
    CallsD Tryz.prog 15 #[.pointer (some p)] .returning w fun e u' w'=>e=.returned (.tuple #[])∧u'=.returning∧w'=w.setCell p (.int .i64 0):=by
  refine callsD_of_wpS Tryz.func15 rfl fun c₀ cs hu=>?_
  apply wpS_region
  simp [wpOpsS,go_sem,recoverD,hu,Tryz.ntmps15]
  refine (caught_nil w).mono ?_
  rintro e w' ⟨rfl,rfl⟩
  simp [go_sem,hc,hz,bodyPostS,results,Tryz.results15]
  cases c₀
  simp_all
theorem results_cell2 {fn:Func} {p q:Tmp} {t u:TypeId} (h:fn.results=#[.cell p t,.cell q u]) (tmps:Array Value) (P:Program) (w:World) {a b:Addr} {x y:Value} (ha:tmps[p]?.getD undef=.pointer (some a)) (hb:tmps[q]?.getD undef=.pointer (some b)) (hx:(loadVar t a).run P w=.ok x w) (hy:(loadVar u b).run P w=.ok y w) :
    (results fn tmps).run P w=.ok (.tuple #[x,y]) w:=by
  simp only [results,h]
  simp [Result.andThen,ha,hb,hx,hy,asAddr]
theorem load_err {W:World} {a:Addr} {c:Int} (h:W.cell? a=some (.int .i64 c)):(loadVar 27 a).run Tryz.prog W=.ok (.int .i64 c) W:=by
  simp [go_sem,h]
def Decoded (s:List UInt8) (W:World) (e:Ending) (w':World):Prop :=
  ((∃ T u,rdT s=.ok T∧e=.returned (.tuple #[.agg #[u],.int .i64 0])∧SlW T u w')∨(∃ c,rdT s=.error c∧e=.returned (.tuple #[.agg #[.slice none 0 0],.int .i64 c])))∧Below W.heap.size W w'
set_option maxRecDepth 100000 in
set_option maxHeartbeats 1000000 in
theorem decode_any (s:List UInt8) (w:World):Calls Tryz.prog 7 #[.string ⟨s.toArray⟩] w fun e w'=>Decoded s w e w':=by
  have hmf:∀ (fn:Fn) (first cap:Array Value) (w:World),(Instr.makeFunc fn first cap).run Tryz.prog w=.ok (.func fn first cap) w:=fun _ _ _ _=>rfl
  have B0:Below w.heap.size w (((w.alloc (Obj.cells #[.slice none 0 0] 24)).alloc (Obj.cells #[.int .i64 0] 27)).alloc (Obj.cells #[.string ⟨s.toArray⟩] 57)):=(((Below.refl _ _).alloc (Nat.le_refl _) _).alloc (by simp) _).alloc (by simp; omega) _
  have b0:(((w.alloc (Obj.cells #[.slice none 0 0] 24)).alloc (Obj.cells #[.int .i64 0] 27)).alloc (Obj.cells #[.string ⟨s.toArray⟩] 57)).heap[w.heap.size]?=some (Obj.cells #[.slice none 0 0] 24):=(Lib.alloc_old _ _ _ (by simp; omega)).trans ((Lib.alloc_old _ _ _ (by simp)).trans (heap_alloc_new _ _))
  have b1:(((w.alloc (Obj.cells #[.slice none 0 0] 24)).alloc (Obj.cells #[.int .i64 0] 27)).alloc (Obj.cells #[.string ⟨s.toArray⟩] 57)).heap[w.heap.size+1]?=some (Obj.cells #[.int .i64 0] 27):=(Lib.alloc_old _ _ _ (by simp)).trans (heap_alloc2_new _ _ _)
  have b2:(((w.alloc (Obj.cells #[.slice none 0 0] 24)).alloc (Obj.cells #[.int .i64 0] 27)).alloc (Obj.cells #[.string ⟨s.toArray⟩] 57)).heap[w.heap.size+1+1]?=some (Obj.cells #[.string ⟨s.toArray⟩] 57):=by
    have:=heap_alloc_new ((w.alloc (Obj.cells #[.slice none 0 0] 24)).alloc (Obj.cells #[.int .i64 0] 27)) (Obj.cells #[.string ⟨s.toArray⟩] 57)
    simpa using this
  have HN:=rtable_any (w.heap.size+1+1) s _ b2
  go_enter_defers Tryz.func7,Tryz.ntmps7
  go_wp2_with fail
  generalize ((w.alloc (Obj.cells #[.slice none 0 0] 24)).alloc (Obj.cells #[.int .i64 0] 27)).alloc (Obj.cells #[.string ⟨s.toArray⟩] 57)=w0 at *
  refine HN.mono ?_
  rintro e w1 (⟨P,ua,uc,B,h1,rfl,h3,h4,h5,h6⟩ | ⟨c,h1,rfl,h6⟩)
  · have hs0:=B0.size
    have p0:=but_blk h6 b0 (by show ¬ _=_; omega)
    have p1:=but_blk h6 b1 (by show ¬ _=_; omega)
    have c0:w1.cell? ⟨w.heap.size,0,none⟩=some (.slice none 0 0):=by rw [Lib.cell_of_heap p0]; rfl
    have c1:w1.cell? ⟨w.heap.size+1,0,none⟩=some (.int .i64 0):=by rw [Lib.cell_of_heap p1]; rfl
    have f0:w1.frozen? ⟨w.heap.size,0,none⟩=false:=Lib.frozen_of_heap p0 _
    have f1:w1.frozen? ⟨w.heap.size+1,0,none⟩=false:=Lib.frozen_of_heap p1 _
    go_wp2_with fail
    have q0:=blk_set (o:=0) p0 (.slice ua P.length uc)
    have q1:=set_blk (o:=0) (v:=.slice ua P.length uc) p1 (show w.heap.size+1≠w.heap.size by omega)
    have q2:=set_blk (o:=0) (v:=.int .i64 0) q0 (show w.heap.size≠w.heap.size+1 by omega)
    have q3:=blk_set (o:=0) q1 (.int .i64 0)
    refine leaves_cons (f:=15) (args:=#[.pointer (some ⟨w.heap.size+1,0,none⟩)]) (by simp) (by simp [go_sem]) ?_
    refine (catch_idle ⟨w.heap.size+1,0,none⟩ 0 _ (by rw [Lib.cell_of_heap q3]; rfl) (Lib.frozen_of_heap q3 _)).mono ?_
    rintro e u' w2 ⟨rfl,rfl,rfl⟩
    have q4:=set_blk (o:=0) (v:=.int .i64 0) q2 (show w.heap.size≠w.heap.size+1 by omega)
    have q5:=blk_set (o:=0) q3 (.int .i64 0)
    simp at q4
    refine ⟨_,results_cell2 rfl _ _ _ rfl rfl (run_loadVar_row _ _ _ _ _ _ _ q4 Tryz.underlying24 rfl (by kernel_rfl)) (load_err (by rw [Lib.cell_of_heap q5]; rfl)),?_⟩
    have BE:But (fun k=>k=w.heap.size∨k=w.heap.size+1) w1 (((w1.setCell ⟨w.heap.size,0,none⟩ (.slice ua P.length uc)).setCell ⟨w.heap.size+1,0,none⟩ (.int .i64 0)).setCell ⟨w.heap.size+1,0,none⟩ (.int .i64 0)):=(((But.refl _ w1).setCell _ _ (.inr (.inl rfl))).setCell _ _ (.inr (.inr rfl))).setCell _ _ (.inr (.inr rfl))
    have hz:=blk_lt b2
    refine ⟨.inl ⟨_,_,h1,rfl,?_⟩,?_⟩
    · exact (h3.keep BE (fun k e=>by omega) (fun k hk e=>by have:=(World.ownsRow.lt h3.own k hk).1; omega)).sl (by omega)
    · exact B0.trans ((h6.below hs0 (fun k e=>by omega)).trans (BE.below (Nat.le_trans hs0 h6.size) (fun k e=>by omega)))
  · have hs0:=B0.size
    have p0:=but_blk h6 b0 (by show ¬ _=_; omega)
    have p1:=but_blk h6 b1 (by show ¬ _=_; omega)
    simp only [throws]
    refine leaves_cons (f:=15) (args:=#[.pointer (some ⟨w.heap.size+1,0,none⟩)]) (by simp) (by simp [go_sem]) ?_
    refine (catch_panicking ⟨w.heap.size+1,0,none⟩ 0 c [] _ (by rw [Lib.cell_of_heap p1]; rfl) (Lib.frozen_of_heap p1 _)).mono ?_
    rintro e u' w2 ⟨rfl,rfl,rfl⟩
    have q0:=set_blk (o:=0) (v:=.int .i64 c) p0 (show w.heap.size≠w.heap.size+1 by omega)
    have q1:=blk_set (o:=0) p1 (.int .i64 c)
    refine ⟨_,results_cell2 rfl _ _ _ rfl rfl (run_loadVar_row _ _ _ _ _ _ _ q0 Tryz.underlying24 rfl (by kernel_rfl)) (load_err (by rw [Lib.cell_of_heap q1]; rfl)),?_⟩
    have BE:But (fun k=>k=w.heap.size+1) w1 (w1.setCell ⟨w.heap.size+1,0,none⟩ (.int .i64 c)):=(But.refl _ w1).setCell _ _ (.inr rfl)
    exact ⟨.inr ⟨c,h1,rfl⟩,B0.trans ((h6.below hs0 (fun k e=>by omega)).trans (BE.below (Nat.le_trans hs0 h6.size) (fun k e=>by omega)))⟩
end Go.Proofs.YtiamjafecbpfpaaGreatDoor
