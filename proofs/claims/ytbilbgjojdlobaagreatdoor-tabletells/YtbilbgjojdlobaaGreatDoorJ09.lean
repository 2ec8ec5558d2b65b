import Derived.Test.YtbilbgjojdlobaaGreatDoorJ01
import Derived.Test.YtbilbgjojdlobaaGreatDoorJ02
import Derived.Test.YtbilbgjojdlobaaGreatDoorJ03
import Derived.Test.YtbilbgjojdlobaaGreatDoorJ04
import Derived.Test.YtbilbgjojdlobaaGreatDoorJ05
import Derived.Test.YtbilbgjojdlobaaGreatDoorJ07
import Derived.Test.YtbilbgjojdlobaaGreatDoorJ08
import Derived.Deep.Cut
import Derived.Deep.CutRange
import Derived.Carry

namespace Go.Proofs.YtbilbgjojdlobaaGreatDoor
open Go.RowKit
def rowsTo (R:List (List Nat)) (j:Nat):List (List Int):=(List.range R.length).map fun s=>if s<j then listW (WR R s) else []
theorem rowsTo_zero (R:List (List Nat)):rowsTo R 0=List.replicate R.length []:=by
  unfold rowsTo
  apply List.ext_getElem (by simp)
  intro i h1 h2
  simp
theorem rowsTo_succ {R:List (List Nat)} {j:Nat}:rowsTo R (j+1)=(rowsTo R j).set j (listW (WR R j)):=by
  unfold rowsTo
  apply List.ext_getElem (by simp)
  intro i h1 h2
  rw [List.getElem_set]
  simp only [List.getElem_map,List.getElem_range]
  split
  · rename_i h
    split
    · rename_i e; subst e; rfl
    · rename_i e; rw [if_pos (by omega)]
  · rename_i h
    rw [if_neg (by omega),if_neg (by omega)]
theorem rowsTo_all (R:List (List Nat)):rowsTo R R.length=R.map listW:=by
  unfold rowsTo
  apply List.ext_getElem (by simp)
  intro i h1 h2
  have hi:i<R.length:=by simpa using h1
  simp only [List.getElem_map,List.getElem_range,if_pos hi]
  unfold WR
  rw [List.getD_eq_getElem?_getD,List.getElem?_eq_getElem hi]
  rfl
set_option maxRecDepth 100000 in
set_option maxHeartbeats 1000000 in
theorem lists_any (G m:Nat) (bs:List Nat) (R:List (List Nat)) (w:World) (hS:SetsB G m bs R w) (hm:m≤20) (hN:R.length≤600) (hT:Tb w) :
    Calls Tryz.prog 125 #[.slice (some ⟨G,0,none⟩) R.length R.length] w fun e w'=>∃ v,e=.returned v∧SlR (R.map listW) v w'∧Below w.heap.size w w':=by
  obtain ⟨i0,hi0,hz0,hz1,hz2⟩:=info_parts info27
  obtain ⟨N,hNN⟩:∃ N,R.length=N:=⟨_,rfl⟩
  rw [hNN] at hN ⊢
  have HNN:Hid (R.length=N):=hNN
  clear hNN
  go_enter Tryz.func125,Tryz.ntmps125
  go_wp2_with (at_make; refine wpList_make_full _ rfl _ _ 149 rfl w.heap.size 43 i0 _ 1 Tryz.underlying149 hi0 hz0 hz1 _ _ _ _ N rfl rfl rfl rfl (by rw [hz2]; omega) (by unfold maxLen; omega) (Nat.le_refl _) ?_)
  intro w2 hown hg2
  have R0:RowR N w.heap.size w (fun _=>True) (rowsTo R 0) w2:=by
    rw [rowsTo_zero,HNN.out]
    exact RowR.made (by simpa using hown) hg2 trivial
  have hC:Steady w.heap.size (fun _=>True):=⟨fun _ _=>trivial,fun _ _ _=>trivial⟩
  have HC:Hid (Steady w.heap.size (fun _=>True)):=hC
  have HR0:Hid (RowR N w.heap.size w (fun _=>True) (rowsTo R 0) w2):=R0
  have HSB:Hid (∀ W,Below w.heap.size w W→SetsB G m bs R W):=fun W hb=>hS.but (But.of_below hb) (by have:=hS.lt; omega) (fun b hb'=>by have:=hS.blk b hb'; omega)
  have HTB:Hid (∀ W,Below w.heap.size w W→Tb W):=fun W hb=>hT.next hb
  have HWL:Hid (∀ s,s<N→∀ y∈listW (WR R s),i64B y):=fun s hs y hy=>by
    obtain ⟨k,hk,rfl⟩:=mem_listW.1 hy
    have h1:=bin_lt hk
    have h2:=(hS.each s (by rw [HNN.out]; exact hs)).2.1
    unfold i64B
    omega
  clear hown hg2 R0 hS hT hC
  obtain ⟨H,hH⟩:∃ H,w.heap.size=H:=⟨_,rfl⟩
  have HHH:Hid (H=w.heap.size):=hH.symm
  rw [hH] at HC HR0 HSB HTB ⊢
  clear hH
  go_wp2_with fail
  go_loopw [11] (fun i wr=>∃ (j:Nat),i=.int .i64 j∧j≤N∧RowR N H w (fun _=>True) (rowsTo R j) wr) (fun i _=>N - (intOf i).toNat)
  case atStart=>exact ⟨0,rfl,Nat.zero_le _,HR0.out⟩
  case round =>
  clear HR0
  obtain ⟨j,rfl,hj,hR⟩:=hrel
  by_cases hlt:j<N
  · have hs:=HSB.out _ hR.below
    have hjR:j<R.length:=by rw [HNN.out]; exact hlt
    have c1:=hs.cell hjR
    have HCA:=list_any _ _ m wr (hs.each j hjR) hm (HTB.out _ hR.below)
    have hGl:=hs.lt
    have hHl:=hR.lt
    obtain ⟨v0,hv0,_,_⟩:=hR.get hlt
    have hfz:=hR.frozen j
    have HST:Hid (∀ W v,Own1 3 encI wr.heap.size (listW (WR R j)) v W→Below wr.heap.size wr W→RowR N H w (fun _=>True) (rowsTo R (j+1)) (W.setCell ⟨H,j,none⟩ v)):=fun W v ho hb=>by
      rw [rowsTo_succ]
      refine (hR.next HC.out HHH.out hb).store HC.out hlt (sli_own ho (HWL.out j hlt)) ?_
      obtain ⟨ao,cap,rfl,_,_,_,h⟩:=ho.at_
      intro ad n c e
      cases e
      rcases h with h | ⟨g,h,hg,_⟩
      · cases h
      · cases h; simp only; omega
    generalize bs.getD j 0=c at *
    have HCA':Hid (Calls Tryz.prog 151 #[.slice (some ⟨c,0,none⟩) m m] wr fun e w'=>∃ v,e=.returned v∧Own1 3 encI wr.heap.size (listW (WR R j)) v w'∧Below wr.heap.size wr w'):=HCA
    clear HCA hs hR hjR
    go_wp2_with fail
    refine HCA'.out.mono ?_
    rintro e w3 ⟨v,rfl,ho,hb3⟩
    have HF:=HST.out w3 v ho hb3
    obtain ⟨va,vc,rfl⟩:=slice_of_own ho
    have c3:=(hb3.cell (p:=⟨H,j,none⟩) hHl).trans hv0
    have f3:=(hb3.frozen (p:=⟨H,j,none⟩) hHl).trans hfz
    have HF':Hid (RowR N H w (fun _=>True) (rowsTo R (j+1)) (w3.setCell ⟨H,j,none⟩ (.slice va (listW (WR R j)).length vc))):=HF
    generalize (listW (WR R j)).length=n at *
    clear HST HCA' ho hb3 HF hv0 hfz c1
    go_wp2_with fail
    exact ⟨⟨j+1,by go_num,by omega,HF'.out⟩,by simp [intOf]; omega⟩
  · obtain rfl:j=N:=by omega
    have HF:Hid (SlR (R.map listW) (.slice (some ⟨H,0,none⟩) j j) wr∧Below w.heap.size w wr):=by
      have h1:=hR.slR
      rw [show rowsTo R j=R.map listW by rw [← HNN.out]; exact rowsTo_all R] at h1
      exact ⟨h1,by rw [← HHH.out]; exact hR.below⟩
    clear hR
    go_wp2_with fail
    go_ret
    exact ⟨_,rfl,HF.out.1,HF.out.2⟩
set_option maxRecDepth 100000 in
set_option maxHeartbeats 1000000 in
theorem first_any (f:Fl) (a:FlA) (w:World) (hf:FlAt f a w) (hp:FitP f) (hT:Tb w) :
    Calls Tryz.prog 92 #[a.val f] w fun e w'=>∃ v R,e=.returned v∧GivesR (FstP f) f.n R∧SlR R v w'∧Below w.heap.size w w':=by
  have HSO:Hid (∀ W,Below w.heap.size w W→Calls Tryz.prog 123 #[a.val f] W fun e w'=>e=.returned (.bool true)∧Below W.heap.size W w'):=fun W hb=>sound_any f a W (hf.next hb) hp
  have HVO:Hid (∀ W,Below w.heap.size w W→Calls Tryz.prog 126 #[a.val f] W fun e w'=>∃ V E G bs L R,e=.returned (.pointer (some ⟨V,0,none⟩))∧VOk f a (f.terms.length / 64+1) W V E G bs L R w'∧GivesB (fun s=>false=true∧s<f.terms.length) f.gr f.n L∧StW f (f.terms.length / 64+1) R∧∀ q∈f.gr,ClosF f R q):=fun W hb=>viewOf_any f a W (hf.next hb) hp
  have X0:=FBox.new f a 25 w
  have B0:Below w.heap.size w (w.alloc (fobj f a 25)):=(Below.refl _ _).alloc (Nat.le_refl _) _
  have hm20:f.terms.length / 64+1≤20:=by have:=hp.size; omega
  have hn:f.n≤600:=hp.size
  obtain ⟨ta,tc,na,nc,pa,pc⟩:=a
  unfold fobj at X0 B0
  unfold FlA.val at HSO HVO ⊢
  simp only at *
  clear hf hp
  go_enter Tryz.func92,Tryz.ntmps92
  go_wp2_with fail
  generalize (w.alloc (Obj.cells #[Value.slice ta f.terms.length tc,Value.slice na f.nons.length nc,Value.slice pa f.prods.length pc] 25))=W1 at *
  refine (HSO.out _ B0).mono ?_
  rintro e w1 ⟨rfl,hb1⟩
  have X1:=X0.next hb1
  have B1:=below_then B0 hb1 B0.size
  obtain ⟨x0,x1,x2,x3⟩:=X1
  simp only at x1 x2 x3
  clear X0 B0 hb1 HSO
  go_wp2_with fail
  refine (HVO.out _ B1).mono ?_
  rintro e w2 ⟨V,E,G,bs,L,R,rfl,hV,-,hR,hc⟩
  have B2:=below_then B1 hV.below B1.size
  have hRl:R.length=f.n:=hR.ok.len
  have v4:=hV.v.c4
  have HGI:Hid (GivesR (FstP f) f.n (R.map listW)):=hR.gives hc
  have HLI:=lists_any G _ bs R w2 hV.s hm20 (by omega) (hT.next B2)
  rw [hRl] at HLI
  clear HVO B1 hV hR hc x0 x1 x2 x3 hT
  go_wp2_with fail
  refine HLI.mono ?_
  rintro e w3 ⟨v,rfl,g1,g2⟩
  obtain ⟨ao,cap,rfl,g4⟩:=g1
  have e2:(R.map listW).length=f.n:=by rw [List.length_map]; exact hRl
  rw [e2] at g4 ⊢
  have HF:Hid (SlR (R.map listW) (.slice ao f.n cap) w3∧Below w.heap.size w w3):=⟨⟨ao,cap,by rw [e2],by rw [e2]; exact g4⟩,below_then B2 g2 B2.size⟩
  clear g2 B2 v4 HLI
  go_wp2_with fail
  go_ret
  exact ⟨_,_,rfl,HGI.out,HF.out.1,HF.out.2⟩
def OwnLI (B:Nat) (R:List (List Int)) (v:Value) (W:World):Prop :=
  ∃ hv:List Value,hv.length=R.length∧QRow (fun k=>B≤k∧inB v k) 1 v R.length hv W ∧
    ∀ (i:Nat) (l:List Int) (u:Value),R[i]?=some l→hv[i]?=some u→SlI l u W∧∀ ad n c,u=.slice (some ad) n c→B≤ad.block∧(l≠[]→¬ inB v ad.block)
theorem SlI.lt {l:List Int} {ad:Addr} {n c:Nat} {W:World} (h:SlI l (.slice (some ad) n c) W) (hl:l≠[]):ad.block<W.heap.size:=by
  obtain ⟨ao,cap,h0,h1,_⟩:=h
  cases h0
  obtain ⟨x,l',rfl⟩:=List.exists_cons_of_ne_nil hl
  obtain ⟨b,off,e,hb,_⟩:=h1 0 x rfl
  cases e; exact hb
theorem OwnLI.nil (B:Nat) (W:World):OwnLI B [] (.slice none 0 0) W:=⟨[],rfl,QRow.nil _ _ _,fun i l u h=>by simp at h⟩
theorem OwnLI.but {B:Nat} {D:Nat→Prop} {R:List (List Int)} {v:Value} {W W':World} (h:OwnLI B R v W) (hb:But D W W') (hd:∀ k,D k→k<W.heap.size→k<B):OwnLI B R v W':=by
  obtain ⟨hv,h0,h1,h2⟩:=h
  have hb':But (fun k=>D k∧k<W.heap.size) W W':=hb.mono (fun k hk h=>⟨h,hk⟩)
  refine ⟨hv,h0,h1.but hb' (fun k hk hd'=>?_),fun i l u hl hu=>⟨(h2 i l u hl hu).1.but hb' (fun ad n c e hne hd'=>?_),(h2 i l u hl hu).2⟩⟩
  · have:=hd k hd'.1 hd'.2; have:=hk.1; omega
  · have:=hd _ hd'.1 hd'.2; have:=((h2 i l u hl hu).2 ad n c e).1; omega
theorem OwnLI.next {B:Nat} {R:List (List Int)} {v:Value} {W W':World} (h:OwnLI B R v W) (hb:Below W.heap.size W W'):OwnLI B R v W' :=
  h.but (D:=fun _=>False) (But.of_next hb) (fun _ h=>h.elim)
theorem OwnLI.shape {B:Nat} {R:List (List Int)} {v:Value} {W:World} (h:OwnLI B R v W):∃ ao cap,v=.slice ao R.length cap:=by
  obtain ⟨hv,h0,h1,h2⟩:=h
  exact h1.shape
theorem OwnLI.sl {B:Nat} {R:List (List Int)} {v:Value} {W:World} (h:OwnLI B R v W):SlR R v W:=by
  obtain ⟨hv,h0,⟨ao,b,off,cap,rfl,hc,_⟩,h2⟩:=h
  refine ⟨ao,cap,rfl,fun i l hl=>?_,fun hn=>?_,hc.le⟩
  · have hi:i<R.length:=(List.getElem?_eq_some_iff.1 hl).1
    have hcp:0<cap:=by have:=hc.le; omega
    have hu:hv[i]?=some hv[i]:=by simp [h0,hi]
    exact ⟨b,off,hv[i],hc.addr hcp,hc.lt hcp,hc.olds i _ hu,(h2 i l _ hl hu).1⟩
  · rcases Nat.eq_zero_or_pos cap with h | h
    · exact h
    · rw [hn] at hc; have:=hc.addr h; cases this
theorem OwnLI.inLt {B:Nat} {R:List (List Int)} {v:Value} {W:World} {k:Nat} (h:OwnLI B R v W) (hk:inB v k):k<W.heap.size:=by
  obtain ⟨off,n,c,e,hz⟩:=hk
  obtain ⟨hv,h0,⟨ao,b,off',cap,e',hc,_⟩,h2⟩:=h
  rw [e] at e'; cases e'
  have h3:=hc.addr hz
  cases h3
  exact hc.lt hz
theorem OwnLI.grow {B:Nat} {R:List (List Int)} {v lv:Value} {l:List Int} {W:World} (h:OwnLI B R v W) (hB:B≤W.heap.size) (hl:SlI l lv W) (ha:∀ ad n c,lv=.slice (some ad) n c→B≤ad.block∧(l≠[]→¬ inB v ad.block)) :
    ∃ (hv:List Value) (D:Nat→Prop),QRow D 1 v R.length hv W∧(∀ k,W.heap.size≤k→D k)∧(∀ k,D k→B≤k)∧∀ v' W',QRow D 1 v' (R.length+1) (hv++[lv]) W'→But D W W'→OwnLI B (R++[l]) v' W':=by
  obtain ⟨hv,h0,h1,h2⟩:=h
  refine ⟨hv,fun k=>(B≤k∧inB v k)∨W.heap.size≤k,h1.mono (fun k _ hk=>.inl hk),fun k hk=>.inr hk,fun k hk=>?_,fun v' W' hq hb=>⟨hv++[lv],by simp [h0],?_,?_⟩⟩
  · rcases hk with h | h
    · exact h.1
    · exact Nat.le_trans hB h
  · have:=hq.exact.mono (E:=fun k=>B≤k∧inB v' k) (fun k _ hk=>⟨?_,hk.2.1⟩)
    · simpa using this
    · rcases hk.1 with h | h
      · exact h.1
      · exact Nat.le_trans hB h
  · have hnew:∀ k,inB v' k→(B≤k∧inB v k)∨W.heap.size≤k:=by
      intro k hk
      obtain ⟨ao,b,off,cap,e,hc,hD⟩:=hq
      obtain ⟨off',n',c',e',_⟩:=hk
      have hcp:0<cap:=by have:=hc.le; omega
      rw [e,hc.addr hcp] at e'
      cases e'
      exact hD hcp
    intro i l' u hl' hu
    have key:SlI l' u W∧∀ ad n c,u=.slice (some ad) n c→B≤ad.block∧(l'≠[]→¬ inB v ad.block):=by
      rcases Nat.lt_or_ge i R.length with hi | hi
      · rw [List.getElem?_append_left hi] at hl'
        rw [List.getElem?_append_left (by omega)] at hu
        exact h2 i l' u hl' hu
      · rw [List.getElem?_append_right hi] at hl'
        rw [List.getElem?_append_right (by omega),h0] at hu
        rcases hj:i - R.length with _ | j
        · rw [hj] at hl' hu; simp at hl' hu; subst hl' hu; exact ⟨hl,ha⟩
        · rw [hj] at hl'; simp at hl'
    have kd:∀ ad n c,u=.slice (some ad) n c→l'≠[]→¬ ((B≤ad.block∧inB v ad.block)∨W.heap.size≤ad.block):=fun ad n c e hne hd=>by
      rcases hd with hd | hd
      · exact (key.2 ad n c e).2 hne hd.2
      · have:=(e ▸ key.1:SlI l' (.slice (some ad) n c) W).lt hne; omega
    exact ⟨key.1.but hb kd,fun ad n c e=>⟨(key.2 ad n c e).1,fun hne hin=>kd ad n c e hne (hnew _ hin)⟩⟩
def NoP:Nat→Prop:=fun _=>False
theorem bases_no {f:Fl}:(fun s=>false=true∧s<f.terms.length)=NoP:=by funext s; simp [NoP]
set_option maxHeartbeats 1000000 in
theorem empty_any (f:Fl) (a:FlA) (w:World) (hf:FlAt f a w) (hp:FitP f) :
    Calls Tryz.prog 91 #[a.val f] w fun e w'=>∃ v L,e=.returned v∧GivesB NoP f.gr f.n L∧SlB L v w'∧Below w.heap.size w w':=by
  have HSO:Hid (∀ W,Below w.heap.size w W→Calls Tryz.prog 123 #[a.val f] W fun e w'=>e=.returned (.bool true)∧Below W.heap.size W w'):=fun W hb=>sound_any f a W (hf.next hb) hp
  have HDE:Hid (∀ W,Below w.heap.size w W→Calls Tryz.prog 124 #[a.val f,.bool false] W fun e w'=>∃ G L,e=.returned (.slice (some ⟨G,0,none⟩) f.n f.n)∧(GivesB NoP f.gr f.n L∧SlB L (.slice (some ⟨G,0,none⟩) f.n f.n) w')∧Below W.heap.size W w'):=fun W hb=>by
    refine (derived_any f a false W (hf.next hb) hp).mono ?_
    rintro e w' ⟨G,L,rfl,_,h1,h2,h3⟩
    rw [bases_no] at h2
    exact ⟨G,L,rfl,⟨h2,h1.slB⟩,h3⟩
  have X0:=FBox.new f a 25 w
  have B0:Below w.heap.size w (w.alloc (fobj f a 25)):=(Below.refl _ _).alloc (Nat.le_refl _) _
  obtain ⟨ta,tc,na,nc,pa,pc⟩:=a
  unfold fobj at X0 B0
  unfold FlA.val at HSO HDE ⊢
  simp only at *
  clear hf hp
  go_enter Tryz.func91,Tryz.ntmps91
  go_wp2_with fail
  try generalize (w.alloc (Obj.cells #[Value.slice ta f.terms.length tc,Value.slice na f.nons.length nc,Value.slice pa f.prods.length pc] 25))=W1 at *
  refine (HSO.out _ B0).mono ?_
  rintro e w1 ⟨rfl,hb1⟩
  have X1:=X0.next hb1
  have B1:=below_then B0 hb1 B0.size
  obtain ⟨x0,x1,x2,x3⟩:=X1
  simp only at x1 x2 x3
  clear X0 B0 hb1 HSO
  go_wp2_with fail
  refine (HDE.out _ B1).mono ?_
  rintro e w2 ⟨G,L,rfl,g1,g2⟩
  have HF:Hid ((GivesB NoP f.gr f.n L∧SlB L (.slice (some ⟨G,0,none⟩) f.n f.n) w2)∧Below w.heap.size w w2):=⟨g1,below_then B1 g2 B1.size⟩
  clear g1 g2 HDE x0 x1 x2 x3
  go_wp2_with fail
  go_ret
  exact ⟨_,L,rfl,HF.out.1.1,HF.out.1.2,HF.out.2⟩
def ofsL (f:Fl) (j:Nat):List (List Int):=(List.range j).map fun (s:Nat)=>ofA f (s:Int)
theorem ofsL_succ (f:Fl) (j:Nat):ofsL f (j+1)=ofsL f j++[ofA f (j:Int)]:=by unfold ofsL; rw [List.range_succ,List.map_append]; rfl
theorem ofsL_len (f:Fl) (j:Nat):(ofsL f j).length=j:=by simp [ofsL]
def VwAt (f:Fl) (a:FlA) (V:Nat) (Le:List Bool) (R:List (List Int)) (W:World):Prop :=
  FBox f a V W∧∃ ve vf vp,W.cell? ⟨V,3,none⟩=some ve∧W.cell? ⟨V,4,none⟩=some vf∧W.cell? ⟨V,5,none⟩=some vp∧SlB Le ve W∧SlR R vf W∧SlR (ofsL f f.n) vp W
theorem VwAt.next {f:Fl} {a:FlA} {V:Nat} {Le:List Bool} {R:List (List Int)} {W W':World} (h:VwAt f a V Le R W) (hb:Below W.heap.size W W'):VwAt f a V Le R W':=by
  obtain ⟨h0,ve,vf,vp,h1,h2,h3,h4,h5,h6⟩:=h
  have hv:=h0.1
  exact ⟨h0.next hb,ve,vf,vp,(hb.cell (p:=⟨V,3,none⟩) hv).trans h1,(hb.cell (p:=⟨V,4,none⟩) hv).trans h2,(hb.cell (p:=⟨V,5,none⟩) hv).trans h3,h4.next hb,h5.next hb,h6.next hb⟩
def Viewed (f:Fl) (a:FlA) (w:World) (e:Ending) (w':World):Prop:=∃ V Le R,e=.returned (.pointer (some ⟨V,0,none⟩))∧w.heap.size≤V∧GivesB NoP f.gr f.n Le∧GivesR (FstP f) f.n R∧VwAt f a V Le R w'∧Below w.heap.size w w'
theorem infoSI:(Tryz.prog.info? 43).map (fun i=>(i.zero,i.size,i.bytes))=some (some (.slice none 0 0),1,24):=by kernel_rfl
set_option maxRecDepth 100000 in
set_option maxHeartbeats 2000000 in
theorem iview_any (f:Fl) (a:FlA) (w:World) (hf:FlAt f a w) (hp:FitP f) (hT:Tb w) :
    Calls Tryz.prog 58 #[a.val f] w fun e w'=>Viewed f a w e w':=by
  have hn:f.n≤600:=hp.size
  obtain ⟨i0,hi0,hz0,hz1,hz2⟩:=info_parts infoSI
  have HEM:Hid (∀ W,Below w.heap.size w W→Calls Tryz.prog 91 #[a.val f] W fun e w'=>∃ v L,e=.returned v∧GivesB NoP f.gr f.n L∧SlB L v w'∧Below W.heap.size W w'):=fun W hb=>empty_any f a W (hf.next hb) hp
  have HFI:Hid (∀ W,Below w.heap.size w W→Calls Tryz.prog 92 #[a.val f] W fun e w'=>∃ v R,e=.returned v∧GivesR (FstP f) f.n R∧SlR R v w'∧Below W.heap.size W w'):=fun W hb=>first_any f a W (hf.next hb) hp (hT.next hb)
  have HOF:Hid (∀ (s:Int) (W:World),Below w.heap.size w W→Calls Tryz.prog 93 #[a.val f,.int .i64 s] W fun e w'=>∃ v,e=.returned v∧SlI (ofA f s) v w'∧Apart W.heap.size v∧Below W.heap.size W w'):=fun s W hb=>of_any f a s W (hf.next hb) (by have:=hp.prods; omega)
  obtain ⟨ta,tc,na,nc,pa,pc⟩:=a
  have X0:=FBox.new f ⟨ta,tc,na,nc,pa,pc⟩ 25 w
  have B0:Below w.heap.size w (w.alloc (fobj f ⟨ta,tc,na,nc,pa,pc⟩ 25)):=(Below.refl _ _).alloc (Nat.le_refl _) _
  unfold fobj at X0 B0
  unfold FlA.val at HEM HFI HOF ⊢
  have hn2:f.terms.length+f.nons.length≤600:=hn
  have HN:Hid (f.n=f.terms.length+f.nons.length):=rfl
  simp only at *
  clear hf hp hn hT
  go_enter Tryz.func58,Tryz.ntmps58
  go_wp2_with fail
  generalize w.alloc (Obj.cells #[Value.slice ta f.terms.length tc,Value.slice na f.nons.length nc,Value.slice pa f.prods.length pc] 25)=w0 at *
  have HX:Hid (∀ W,Below w0.heap.size w0 W→FBox f ⟨ta,tc,na,nc,pa,pc⟩ w.heap.size W):=fun W hb=>X0.next hb
  have HB:Hid (∀ W,Below w0.heap.size w0 W→Below w.heap.size w W):=fun W hb=>below_then B0 hb B0.size
  have hszw:w.heap.size<w0.heap.size:=X0.1
  clear X0 B0
  have HSI:Hid (∀ W,Below w0.heap.size w0 W→(W.cell? ⟨w.heap.size,0,none⟩=some (.slice ta f.terms.length tc)∧W.cell? ⟨w.heap.size,1,none⟩=some (.slice na f.nons.length nc)∧W.cell? ⟨w.heap.size,2,none⟩=some (.slice pa f.prods.length pc)∧Below w0.heap.size w0 W)):=fun W hb=>by
    obtain ⟨_,k0,k1,k2⟩:=HX.out _ hb
    exact ⟨k0,k1,k2,hb⟩
  have HS0:=HSI.out _ (Below.refl _ _).drew
  have HEM1:=HEM.out w0.drew (HB.out _ (Below.refl _ _).drew)
  refine wp_region_L (fun W=>W.cell? ⟨w.heap.size,0,none⟩=some (.slice ta f.terms.length tc)∧W.cell? ⟨w.heap.size,1,none⟩=some (.slice na f.nons.length nc)∧W.cell? ⟨w.heap.size,2,none⟩=some (.slice pa f.prods.length pc)∧Below w0.heap.size w0 W) 8 (by kernel_rfl) 8 rfl ?_
  refine tk 0 ⟨some 5,.load 25 (.tmp 1),25, "view.go:18",#[],none⟩ HS0 ?_;simp only [Act.put,sA,s0,sS]
  refine tk 1 ⟨some 6,.load 25 (.tmp 1),25, "view.go:18",#[],none⟩ HS0 ?_;simp only [Act.put,sA,s0,sS]
  refine tk 3 ⟨some 8,.load 25 (.tmp 1),25, "view.go:18",#[],none⟩ HS0 ?_;simp only [Act.put,sA,s0,sS]
  refine wpAnyL_one' (i:=2) (o:=⟨some 7,.call ⟨.value (.func 91),#[.tmp 6],#[25]⟩,147, "view.go:18",#[⟨1,.data⟩],none⟩) (by kernel_rfl) rfl rfl (fun K hK=>?_)
  go_simp
  refine HEM1.mono ?_
  rintro e W1 ⟨ve,Le,rfl,hLe,hse,hb1⟩
  have B1:Below w0.heap.size w0 W1:=below_then (Below.refl _ _).drew hb1 (Nat.le_refl _)
  have hS1:=HSI.out _ B1
  refine hK.out _ _ (fun _=>hS1) ?_
  clear hK HEM1
  obtain ⟨ea,ec,rfl,_⟩:=id hse
  have HSE:Hid (SlB Le (.slice ea Le.length ec) W1):=hse
  have HLE:Hid (GivesB NoP f.gr f.n Le):=hLe
  clear hse hLe hb1
  have HFI1:=HFI.out W1 (HB.out _ B1)
  refine wpAnyL_one' (i:=4) (o:=⟨some 9,.call ⟨.value (.func 92),#[.tmp 8],#[25]⟩,149, "view.go:18",#[⟨3,.data⟩,⟨2,.chain⟩],none⟩) (by kernel_rfl) rfl rfl (fun K hK=>?_)
  go_simp
  refine HFI1.mono ?_
  rintro e W2 ⟨vf,R,rfl,hR,hsr,hb2⟩
  have B2:Below w0.heap.size w0 W2:=below_then B1 hb2 B1.size
  have hS2:=HSI.out _ B2
  refine hK.out _ _ (fun _=>hS2) ?_
  clear hK HFI1
  obtain ⟨fa,fc,rfl,_⟩:=id hsr
  have HSR:Hid (SlR R (.slice fa R.length fc) W2):=hsr
  have HRR:Hid (GivesR (FstP f) f.n R):=hR
  have HSE2:Hid (SlB Le (.slice ea Le.length ec) W2):=HSE.out.next hb2
  clear hsr hR hb2 HSE
  refine tk 5 ⟨some 10,.build 152 #[(0,.tmp 5),(1,.tmp 7),(2,.tmp 9)],152, "view.go:18",#[⟨0,.data⟩,⟨2,.data⟩,⟨4,.data⟩],none⟩ hS2 ?_;simp only [Act.put,sA,s0,sS]
  refine wpAnyL_one' (i:=6) (o:=⟨some 11,.box 152 (.tmp 10),111, "view.go:18",#[⟨5,.data⟩],none⟩) (by kernel_rfl) rfl rfl (fun K hK=>?_)
  go_simp
  have B3:Below w0.heap.size w0 (W2.alloc (Obj.cells #[.slice ta f.terms.length tc,.slice na f.nons.length nc,.slice pa f.prods.length pc,.slice ea Le.length ec,.slice fa R.length fc,.slice none 0 0] 152)):=B2.alloc B2.size _
  refine hK.out _ _ (fun _=>HSI.out _ B3) ?_
  clear hK
  refine wpAnyL_take' (i:=7) (v:=?_) (oi:=⟨some 3,.assign (.tmp 11),111, "view.go:18",#[⟨6,.data⟩,⟨4,.chain⟩,⟨0,.phase⟩,⟨1,.phase⟩,⟨2,.phase⟩,⟨3,.phase⟩,⟨4,.phase⟩,⟨5,.phase⟩,⟨6,.phase⟩],none⟩) rfl (by kernel_rfl) (by kernel_rfl) (by kernel_rfl) (by kernel_rfl) rfl (fun _ _ _ h=>h) (Or.inl ⟨by rfl,?_⟩) (HSI.out _ B3) ?_
  rotate_left
  · intro W hSW
    go_simp
    try with_reducible rfl
  simp only [Act.put,sA,s0,sS]
  refine wpAnyL_done (by kernel_rfl) ?_ _
  have HVC:Hid (W2.heap.size<(W2.alloc (Obj.cells #[.slice ta f.terms.length tc,.slice na f.nons.length nc,.slice pa f.prods.length pc,.slice ea Le.length ec,.slice fa R.length fc,.slice none 0 0] 152)).heap.size∧((W2.alloc (Obj.cells #[.slice ta f.terms.length tc,.slice na f.nons.length nc,.slice pa f.prods.length pc,.slice ea Le.length ec,.slice fa R.length fc,.slice none 0 0] 152)).cell? ⟨W2.heap.size,0,none⟩=some (.slice ta f.terms.length tc)∧(W2.alloc (Obj.cells #[.slice ta f.terms.length tc,.slice na f.nons.length nc,.slice pa f.prods.length pc,.slice ea Le.length ec,.slice fa R.length fc,.slice none 0 0] 152)).cell? ⟨W2.heap.size,1,none⟩=some (.slice na f.nons.length nc)∧(W2.alloc (Obj.cells #[.slice ta f.terms.length tc,.slice na f.nons.length nc,.slice pa f.prods.length pc,.slice ea Le.length ec,.slice fa R.length fc,.slice none 0 0] 152)).cell? ⟨W2.heap.size,2,none⟩=some (.slice pa f.prods.length pc)∧(W2.alloc (Obj.cells #[.slice ta f.terms.length tc,.slice na f.nons.length nc,.slice pa f.prods.length pc,.slice ea Le.length ec,.slice fa R.length fc,.slice none 0 0] 152)).cell? ⟨W2.heap.size,3,none⟩=some (.slice ea Le.length ec)∧(W2.alloc (Obj.cells #[.slice ta f.terms.length tc,.slice na f.nons.length nc,.slice pa f.prods.length pc,.slice ea Le.length ec,.slice fa R.length fc,.slice none 0 0] 152)).cell? ⟨W2.heap.size,4,none⟩=some (.slice fa R.length fc))∧(W2.alloc (Obj.cells #[.slice ta f.terms.length tc,.slice na f.nons.length nc,.slice pa f.prods.length pc,.slice ea Le.length ec,.slice fa R.length fc,.slice none 0 0] 152)).cell? ⟨W2.heap.size,5,none⟩=some (.slice none 0 0)∧(W2.alloc (Obj.cells #[.slice ta f.terms.length tc,.slice na f.nons.length nc,.slice pa f.prods.length pc,.slice ea Le.length ec,.slice fa R.length fc,.slice none 0 0] 152)).frozen? ⟨W2.heap.size,5,none⟩=false):=by
    refine ⟨?_,⟨?_,?_,?_,?_,?_⟩,?_,?_⟩ <;> simp
  have BV:Below W2.heap.size W2 (W2.alloc (Obj.cells #[.slice ta f.terms.length tc,.slice na f.nons.length nc,.slice pa f.prods.length pc,.slice ea Le.length ec,.slice fa R.length fc,.slice none 0 0] 152)):=(Below.refl _ _).alloc (Nat.le_refl _) _
  clear HS0 hS1 hS2 HEM HFI B1
  have hsz2:=B2.size
  have HST:Hid (∃ vp,(W2.alloc (Obj.cells #[.slice ta f.terms.length tc,.slice na f.nons.length nc,.slice pa f.prods.length pc,.slice ea Le.length ec,.slice fa R.length fc,.slice none 0 0] 152)).cell? ⟨W2.heap.size,5,none⟩=some vp∧(W2.alloc (Obj.cells #[.slice ta f.terms.length tc,.slice na f.nons.length nc,.slice pa f.prods.length pc,.slice ea Le.length ec,.slice fa R.length fc,.slice none 0 0] 152)).frozen? ⟨W2.heap.size,5,none⟩=false∧((W2.alloc (Obj.cells #[.slice ta f.terms.length tc,.slice na f.nons.length nc,.slice pa f.prods.length pc,.slice ea Le.length ec,.slice fa R.length fc,.slice none 0 0] 152)).cell? ⟨W2.heap.size,0,none⟩=some (.slice ta f.terms.length tc)∧(W2.alloc (Obj.cells #[.slice ta f.terms.length tc,.slice na f.nons.length nc,.slice pa f.prods.length pc,.slice ea Le.length ec,.slice fa R.length fc,.slice none 0 0] 152)).cell? ⟨W2.heap.size,1,none⟩=some (.slice na f.nons.length nc)∧(W2.alloc (Obj.cells #[.slice ta f.terms.length tc,.slice na f.nons.length nc,.slice pa f.prods.length pc,.slice ea Le.length ec,.slice fa R.length fc,.slice none 0 0] 152)).cell? ⟨W2.heap.size,2,none⟩=some (.slice pa f.prods.length pc)∧(W2.alloc (Obj.cells #[.slice ta f.terms.length tc,.slice na f.nons.length nc,.slice pa f.prods.length pc,.slice ea Le.length ec,.slice fa R.length fc,.slice none 0 0] 152)).cell? ⟨W2.heap.size,3,none⟩=some (.slice ea Le.length ec)∧(W2.alloc (Obj.cells #[.slice ta f.terms.length tc,.slice na f.nons.length nc,.slice pa f.prods.length pc,.slice ea Le.length ec,.slice fa R.length fc,.slice none 0 0] 152)).cell? ⟨W2.heap.size,4,none⟩=some (.slice fa R.length fc))∧W2.heap.size<(W2.alloc (Obj.cells #[.slice ta f.terms.length tc,.slice na f.nons.length nc,.slice pa f.prods.length pc,.slice ea Le.length ec,.slice fa R.length fc,.slice none 0 0] 152)).heap.size∧OwnLI (W2.heap.size+1) (ofsL f 0) vp (W2.alloc (Obj.cells #[.slice ta f.terms.length tc,.slice na f.nons.length nc,.slice pa f.prods.length pc,.slice ea Le.length ec,.slice fa R.length fc,.slice none 0 0] 152))∧Below W2.heap.size W2 (W2.alloc (Obj.cells #[.slice ta f.terms.length tc,.slice na f.nons.length nc,.slice pa f.prods.length pc,.slice ea Le.length ec,.slice fa R.length fc,.slice none 0 0] 152))):=⟨_,HVC.out.2.2.1,HVC.out.2.2.2,HVC.out.2.1,HVC.out.1,OwnLI.nil _ _,BV⟩
  have B4:Below w0.heap.size w0 (W2.alloc (Obj.cells #[.slice ta f.terms.length tc,.slice na f.nons.length nc,.slice pa f.prods.length pc,.slice ea Le.length ec,.slice fa R.length fc,.slice none 0 0] 152)):=below_then B2 BV hsz2
  obtain ⟨_,k0,k1,k2⟩:=HX.out _ B4
  simp only at k0 k1 k2
  clear HVC BV B4
  generalize (W2.alloc (Obj.cells #[.slice ta f.terms.length tc,.slice na f.nons.length nc,.slice pa f.prods.length pc,.slice ea Le.length ec,.slice fa R.length fc,.slice none 0 0] 152))=W4 at *
  obtain ⟨V,hV⟩:∃ V,W2.heap.size=V:=⟨_,rfl⟩
  have HV:Hid (W2.heap.size=V):=hV
  rw [hV] at HST hsz2 ⊢
  clear hV
  have hwV:w.heap.size<V:=by omega
  have HBW:Hid (∀ W,Below V W2 W→Below w0.heap.size w0 W):=fun W hb=>by rw [← HV.out] at hb; exact below_then B2 hb B2.size
  clear B3 B2
  go_wp2_with fail
  go_loopw [19] (fun i wr=>∃ (j:Nat) (vp:Value),i=.int .i64 j∧j≤f.n∧wr.cell? ⟨V,5,none⟩=some vp∧wr.frozen? ⟨V,5,none⟩=false∧(wr.cell? ⟨V,0,none⟩=some (.slice ta f.terms.length tc)∧wr.cell? ⟨V,1,none⟩=some (.slice na f.nons.length nc)∧wr.cell? ⟨V,2,none⟩=some (.slice pa f.prods.length pc)∧wr.cell? ⟨V,3,none⟩=some (.slice ea Le.length ec)∧wr.cell? ⟨V,4,none⟩=some (.slice fa R.length fc))∧V<wr.heap.size∧OwnLI (V+1) (ofsL f j) vp wr∧Below V W2 wr) (fun i _=>f.n - (intOf i).toNat)
  case atStart =>
    obtain ⟨vp,h⟩:=HST.out
    exact ⟨0,vp,rfl,Nat.zero_le _,h⟩
  case round =>
  clear HST k0 k1 k2
  obtain ⟨j,vp,rfl,hj,c5,fz,hVC,hVl,hO,B1⟩:=hrel
  obtain ⟨va,vc,rfl⟩:=hO.shape
  rw [ofsL_len] at c5 hO
  have hBw:=HBW.out _ B1
  obtain ⟨_,k0,k1,k2⟩:=HX.out _ hBw
  simp only at k0 k1 k2
  by_cases hlt:j<f.n
  case neg =>
    obtain rfl:j=f.n:=by omega
    have hnk:¬ ((f.n:Int)<(f.terms.length:Int)+f.nons.length):=by have:=HN.out; omega
    have HF:Hid (w.heap.size≤V∧GivesB NoP f.gr f.n Le∧GivesR (FstP f) f.n R∧VwAt f ⟨ta,tc,na,nc,pa,pc⟩ V Le R wr∧Below w.heap.size w wr) :=
      ⟨by omega,HLE.out,HRR.out,⟨⟨hVl,hVC.1,hVC.2.1,hVC.2.2.1⟩,_,_,_,hVC.2.2.2.1,hVC.2.2.2.2,c5,HSE2.out.next (by rw [HV.out]; exact B1),HSR.out.next (by rw [HV.out]; exact B1),by simpa [ofsL_len] using hO.sl⟩,HB.out _ hBw⟩
    clear hVC hO c5 k0 k1 k2
    go_wp2_with fail
    go_ret
    exact ⟨V,Le,R,rfl,HF.out⟩
  have hkn:(j:Int)<(f.terms.length:Int)+f.nons.length:=by have:=HN.out; omega
  have HVC:Hid (wr.cell? ⟨V,0,none⟩=some (.slice ta f.terms.length tc)∧wr.cell? ⟨V,1,none⟩=some (.slice na f.nons.length nc)∧wr.cell? ⟨V,2,none⟩=some (.slice pa f.prods.length pc)∧wr.cell? ⟨V,3,none⟩=some (.slice ea Le.length ec)∧wr.cell? ⟨V,4,none⟩=some (.slice fa R.length fc)):=hVC
  have HO:Hid (OwnLI (V+1) (ofsL f j) (.slice va j vc) wr):=hO
  have HSJ:Hid (∀ W,But (fun k=>V+1≤k) wr W→(W.cell? ⟨w.heap.size,0,none⟩=some (.slice ta f.terms.length tc)∧W.cell? ⟨w.heap.size,1,none⟩=some (.slice na f.nons.length nc)∧W.cell? ⟨w.heap.size,2,none⟩=some (.slice pa f.prods.length pc)∧W.cell? ⟨V,5,none⟩=some (.slice va j vc))):=fun W hb=>⟨(hb.cell (p:=⟨w.heap.size,0,none⟩) (by simp only; omega) (by simp only; omega)).trans k0,(hb.cell (p:=⟨w.heap.size,1,none⟩) (by simp only; omega) (by simp only; omega)).trans k1,(hb.cell (p:=⟨w.heap.size,2,none⟩) (by simp only; omega) (by simp only; omega)).trans k2,(hb.cell (p:=⟨V,5,none⟩) (by simp only; omega) (by simp only; omega)).trans c5⟩
  have HS0:=HSJ.out wr.drew (But.refl _ _).drew
  have HO1:=HOF.out (j:Int) wr.drew (HB.out _ hBw.drew)
  clear hVC hO
  go_wp2_with fail
  refine wp_region_L (fun W=>W.cell? ⟨w.heap.size,0,none⟩=some (.slice ta f.terms.length tc)∧W.cell? ⟨w.heap.size,1,none⟩=some (.slice na f.nons.length nc)∧W.cell? ⟨w.heap.size,2,none⟩=some (.slice pa f.prods.length pc)∧W.cell? ⟨V,5,none⟩=some (.slice va j vc)) 12 (by kernel_rfl) 13 rfl ?_
  refine tk 0 ⟨some 22,.move (.tmp 3),111, "view.go:20",#[],none⟩ HS0 ?_;simp only [Act.put,sA,s0,sS]
  refine tk 1 ⟨some 23,.move (.tmp 3),111, "view.go:20",#[],none⟩ HS0 ?_;simp only [Act.put,sA,s0,sS]
  refine tk 2 ⟨some 24,.nilCheck (.tmp 23),0, "view.go:20",#[⟨1,.data⟩],none⟩ HS0 ?_;simp only [Act.put,sA,s0,sS]
  refine tk 3 ⟨some 25,.fieldAddr 152 (.tmp 24) 3,0, "view.go:20",#[⟨2,.data⟩],none⟩ HS0 ?_;simp only [Act.put,sA,s0,sS]
  refine tk 4 ⟨some 26,.load 149 (.tmp 25),149, "view.go:20",#[⟨3,.data⟩],none⟩ HS0 ?_;simp only [Act.put,sA,s0,sS]
  refine tk 5 ⟨some 27,.load 25 (.tmp 1),25, "view.go:20",#[],none⟩ HS0 ?_;simp only [Act.put,sA,s0,sS]
  refine tk 6 ⟨some 28,.move (.tmp 4),3, "view.go:20",#[],none⟩ HS0 ?_;simp only [Act.put,sA,s0,sS]
  refine wpAnyL_one' (i:=7) (o:=⟨some 29,.call ⟨.value (.func 93),#[.tmp 27,.tmp 28],#[25,3]⟩,43, "view.go:20",#[⟨5,.data⟩,⟨6,.data⟩],none⟩) (by kernel_rfl) rfl rfl (fun K hK=>?_)
  go_simp
  refine HO1.mono ?_
  rintro e W5 ⟨uv,rfl,hu,hap,hb5⟩
  have Bw5:Below wr.heap.size wr W5:=below_then (Below.refl _ _).drew hb5 (Nat.le_refl _)
  have hS5:=HSJ.out _ (But.of_next Bw5)
  refine hK.out _ _ (fun _=>hS5) ?_
  clear hK HO1
  obtain ⟨ua,uc,rfl,_⟩:=id hu
  have hsz5:=Bw5.size
  have Bn:Below W5.heap.size W5 (W5.alloc (Obj.cells #[.slice ua (ofA f j).length uc] 43)):=(Below.refl _ _).alloc (Nat.le_refl _) _
  have Bw6:Below wr.heap.size wr (W5.alloc (Obj.cells #[.slice ua (ofA f j).length uc] 43)):=below_then Bw5 Bn hsz5
  have HO6:OwnLI (V+1) (ofsL f j) (.slice va j vc) (W5.alloc (Obj.cells #[.slice ua (ofA f j).length uc] 43)):=HO.out.next Bw6
  obtain ⟨hv,D,hQ,hD,hDB,hgrow⟩:=HO6.grow (by have:=Bw6.size; omega) (hu.next Bn) (fun ad n c e=>⟨by have h1:wr.heap.size≤ad.block:=hap ad n c e; omega,fun hne hin=>by have h1:wr.heap.size≤ad.block:=hap ad n c e; have h2:=HO.out.inLt hin; omega⟩)
  rw [ofsL_len] at hQ hgrow
  rw [← ofsL_succ] at hgrow
  have HQ:Hid (QRow D 1 (.slice va j vc) j hv (W5.alloc (Obj.cells #[.slice ua (ofA f j).length uc] 43))):=hQ
  have HD:Hid (∀ k,(W5.alloc (Obj.cells #[.slice ua (ofA f j).length uc] 43)).heap.size≤k→D k):=hD
  have HDB:Hid (∀ k,D k→V+1≤k):=hDB
  have HGR:Hid (∀ v' W',QRow D 1 v' (j+1) (hv++[.slice ua (ofA f j).length uc]) W'→But D (W5.alloc (Obj.cells #[.slice ua (ofA f j).length uc] 43)) W'→OwnLI (V+1) (ofsL f (j+1)) v' W'):=hgrow
  have HNW:Hid (∀ (q:Nat) (u:Value),[Value.slice ua (ofA f j).length uc][q]?=some u→(W5.alloc (Obj.cells #[.slice ua (ofA f j).length uc] 43)).cell? ((⟨W5.heap.size,0,none⟩:Addr).add q)=some u):=by
    intro q u hq
    rcases q with _ | q
    · simp at hq; subst hq; simp [Addr.add]
    · simp at hq
  clear hQ hD hDB hgrow HO6 hu hap hb5
  refine wpAnyL_one' (i:=8) (o:=⟨some 30,.buildSlice 149 1 #[(0,.tmp 29)],149, "view.go:20",#[⟨7,.data⟩],none⟩) (by kernel_rfl) rfl rfl (fun K hK=>?_)
  go_simp
  refine hK.out _ _ (fun _=>HSJ.out _ (But.of_next Bw6)) ?_
  clear hK
  refine wpAnyL_one' (i:=9) (o:=⟨some 31,.call ⟨.builtin .append,#[.tmp 26,.tmp 30],#[149,149]⟩,149, "view.go:20",#[⟨4,.data⟩,⟨8,.data⟩,⟨7,.chain⟩],none⟩) (by kernel_rfl) rfl rfl (fun K hK=>?_)
  rw [if_pos (by rfl)]
  refine wp_append_q (.tmp 26) (.tmp 30) 149 rfl 43 i0 _ 1 24 Tryz.underlying149 hi0 hz0 hz1 hz2 rfl (by decide) rfl HQ.out HD.out ⟨W5.heap.size,0,none⟩ 1 [.slice ua (ofA f j).length uc] rfl rfl HNW.out (by simp [Value.oneCell']) (by unfold maxLen; omega) (by omega) ?_
  intro v7 w7 hq7 hb7
  obtain ⟨qa7,qc7,rfl⟩:=hq7.shape
  have BT:But (fun k=>V+1≤k) wr w7:=(But.of_next Bw6).trans (hb7.mono (fun k _ h=>HDB.out k h))
  have hS7:=HSJ.out _ BT
  have fz7:w7.frozen? ⟨V,5,none⟩=false:=(BT.frozen (p:=⟨V,5,none⟩) hVl (by simp only; omega)).trans fz
  refine hK.out _ _ (fun _=>hS7) ?_
  clear hK
  simp only [Act.put,sA,s0,sS]
  refine wpAnyL_one' (i:=10) (o:=⟨some 32,.nilCheck (.tmp 22),0, "view.go:20",#[⟨0,.data⟩,⟨0,.phase⟩,⟨1,.phase⟩,⟨2,.phase⟩,⟨3,.phase⟩,⟨4,.phase⟩,⟨5,.phase⟩,⟨6,.phase⟩,⟨7,.phase⟩,⟨8,.phase⟩,⟨9,.phase⟩],none⟩) (by kernel_rfl) rfl rfl (fun K hK=>?_)
  go_simp
  refine hK.out _ _ (fun _=>hS7) ?_
  clear hK
  refine wpAnyL_one' (i:=11) (o:=⟨some 33,.fieldAddr 152 (.tmp 32) 3,0, "view.go:20",#[⟨10,.data⟩,⟨0,.phase⟩,⟨1,.phase⟩,⟨2,.phase⟩,⟨3,.phase⟩,⟨4,.phase⟩,⟨5,.phase⟩,⟨6,.phase⟩,⟨7,.phase⟩,⟨8,.phase⟩,⟨9,.phase⟩],none⟩) (by kernel_rfl) rfl rfl (fun K hK=>?_)
  go_simp
  refine hK.out _ _ (fun _=>hS7) ?_
  clear hK
  refine wpAnyL_one' (i:=12) (o:=⟨none,.store 149 (.tmp 33) (.tmp 31),0, "view.go:20",#[⟨11,.data⟩,⟨9,.data⟩,⟨9,.chain⟩,⟨0,.phase⟩,⟨1,.phase⟩,⟨2,.phase⟩,⟨3,.phase⟩,⟨4,.phase⟩,⟨5,.phase⟩,⟨6,.phase⟩,⟨7,.phase⟩,⟨8,.phase⟩,⟨9,.phase⟩],none⟩) (by kernel_rfl) rfl rfl (fun K hK=>?_)
  go_simp
  refine hK.out _ _ (fun h=>absurd h (by decide)) ?_
  clear hK
  refine wpAnyL_done (by kernel_rfl) ?_ _
  have BV7:Below V W2 w7:=(B1.trans (Bw6.mono (by omega))).trans (hb7.below (by have:=Bw6.size; omega) (fun k hk=>by have:=HDB.out k hk; omega))
  have hV7:V<w7.heap.size:=Nat.lt_of_lt_of_le hVl BT.size
  have HE:Hid ((w7.setCell ⟨V,5,none⟩ (.slice qa7 (j+1) qc7)).cell? ⟨V,5,none⟩=some (.slice qa7 (j+1) qc7)∧(w7.setCell ⟨V,5,none⟩ (.slice qa7 (j+1) qc7)).frozen? ⟨V,5,none⟩=false∧((w7.setCell ⟨V,5,none⟩ (.slice qa7 (j+1) qc7)).cell? ⟨V,0,none⟩=some (.slice ta f.terms.length tc)∧(w7.setCell ⟨V,5,none⟩ (.slice qa7 (j+1) qc7)).cell? ⟨V,1,none⟩=some (.slice na f.nons.length nc)∧(w7.setCell ⟨V,5,none⟩ (.slice qa7 (j+1) qc7)).cell? ⟨V,2,none⟩=some (.slice pa f.prods.length pc)∧(w7.setCell ⟨V,5,none⟩ (.slice qa7 (j+1) qc7)).cell? ⟨V,3,none⟩=some (.slice ea Le.length ec)∧(w7.setCell ⟨V,5,none⟩ (.slice qa7 (j+1) qc7)).cell? ⟨V,4,none⟩=some (.slice fa R.length fc))∧V<(w7.setCell ⟨V,5,none⟩ (.slice qa7 (j+1) qc7)).heap.size∧OwnLI (V+1) (ofsL f (j+1)) (.slice qa7 (j+1) qc7) (w7.setCell ⟨V,5,none⟩ (.slice qa7 (j+1) qc7))∧Below V W2 (w7.setCell ⟨V,5,none⟩ (.slice qa7 (j+1) qc7))):=by
    have oc:∀ {o:Nat} {v:Value},o≠5→wr.cell? ⟨V,o,none⟩=some v→(w7.setCell ⟨V,5,none⟩ (.slice qa7 (j+1) qc7)).cell? ⟨V,o,none⟩=some v:=fun {o v} ho hv=>by
      rw [World.cell?_setCell_other _ _ _ _ (fun e=>ho (by cases e; rfl)),BT.cell (p:=⟨V,o,none⟩) hVl (by simp only; omega)]
      exact hv
    have hc:=HVC.out
    refine ⟨World.cell?_setCell_same _ _ _ hS7.2.2.2,by rw [World.frozen?_setCell]; exact fz7,⟨oc (by omega) hc.1,oc (by omega) hc.2.1,oc (by omega) hc.2.2.1,oc (by omega) hc.2.2.2.1,oc (by omega) hc.2.2.2.2⟩,by simpa [World.setCell] using hV7,(HGR.out _ _ hq7 hb7).but (D:=fun k=>k=V) ((But.refl _ _).setCell _ _ (.inr rfl)) (fun k hk _=>by omega),BV7.setCell (Nat.le_refl _) _⟩
  clear HVC HO HSJ HQ HD HDB HGR HNW hq7 hb7 BT hS7 fz7 BV7 hV7 Bw6 Bw5 Bn hS5 HS0 k0 k1 k2 c5 fz
  generalize (w7.setCell ⟨V,5,none⟩ (.slice qa7 (j+1) qc7))=w8 at *
  go_wp2_with fail
  exact ⟨⟨j+1,_,by go_num,by omega,HE.out⟩,by simp [intOf]; omega⟩
def rowsM (f:Fl) (l:List Ir) (j:Nat):List (List Ir):=(List.range f.n).map fun (s:Nat)=>movedL f (l.take j) (s:Int)
theorem rowsM_len (f:Fl) (l:List Ir) (j:Nat):(rowsM f l j).length=f.n:=by simp [rowsM]
theorem rowsM_get {f:Fl} {l:List Ir} {j s:Nat} (h:s<f.n):(rowsM f l j)[s]?=some (movedL f (l.take j) (s:Int)):=by simp [rowsM,h]
theorem rowsM_zero (f:Fl) (l:List Ir):rowsM f l 0=List.replicate f.n []:=by
  unfold rowsM
  apply List.ext_getElem
  · simp
  · intro i h1 h2
    simp [movedL]
theorem rowsM_none {f:Fl} {l:List Ir} {j:Nat} (h:j<l.length) (hn:nextI f l[j]=none):rowsM f l (j+1)=rowsM f l j:=by
  unfold rowsM
  refine List.map_congr_left (fun s _=>?_)
  rw [movedL_take h,if_neg (by rw [hn]; simp),List.append_nil]
theorem rowsM_some {f:Fl} {l:List Ir} {j s:Nat} (h:j<l.length) (hs:s<f.n) (hn:nextI f l[j]=some (s:Int)):rowsM f l (j+1)=(rowsM f l j).set s (movedL f (l.take j) (s:Int)++[(l[j].1,l[j].2.1+1,l[j].2.2)]):=by
  apply List.ext_getElem?
  intro i
  rw [List.getElem?_set,rowsM_len]
  rcases Nat.lt_or_ge i f.n with hi | hi
  · rw [rowsM_get hi,movedL_take h]
    by_cases e:s=i
    · subst e
      rw [if_pos rfl,if_pos hs,if_pos hn]
    · rw [if_neg e,rowsM_get hi,if_neg (by rw [hn]; simp; omega),List.append_nil]
  · rw [if_neg (by omega),List.getElem?_eq_none (by rw [rowsM_len]; omega),List.getElem?_eq_none (by rw [rowsM_len]; omega)]
theorem rowsM_all (f:Fl) (l:List Ir):(rowsM f l l.length).filter (fun K=>!K.isEmpty)=kernsL f l:=by
  unfold rowsM kernsL kernsFrom
  rw [List.take_of_length_le (Nat.le_refl _),List.range_eq_range']
def ByAt (G:Nat) (Rs:List (List Ir)) (W:World):Prop :=
  G<W.heap.size∧∃ hv:List Value,hv.length=Rs.length∧(∀ (s:Nat) (u:Value),hv[s]?=some u→W.cell? ⟨G,s,none⟩=some u∧W.frozen? ⟨G,s,none⟩=false) ∧
    (∀ (s:Nat) (l:List Ir) (u:Value),Rs[s]?=some l→hv[s]?=some u→QRow (fun k=>G<k∧inB u k) 3 u l.length (l.flatMap encR) W) ∧
    (∀ (s s':Nat) (u u':Value) (k:Nat),hv[s]?=some u→hv[s']?=some u'→inB u k→inB u' k→s=s')
theorem ByAt.next {G:Nat} {Rs:List (List Ir)} {W W':World} (h:ByAt G Rs W) (hb:Below W.heap.size W W'):ByAt G Rs W':=by
  obtain ⟨h0,hv,h1,h2,h3,h4⟩:=h
  exact ⟨Nat.lt_of_lt_of_le h0 hb.size,hv,h1,fun s u hu=>⟨(hb.cell (p:=⟨G,s,none⟩) h0).trans (h2 s u hu).1,(World.frozen?_of_block (hb.block _ h0)).trans (h2 s u hu).2⟩,fun s l u hl hu=>(h3 s l u hl hu).next hb,h4⟩
theorem not_inB_nil (k:Nat):¬ inB (.slice none 0 0) k:=by
  rintro ⟨o,n,c,e,_⟩; cases e
theorem ByAt.made {W W1:World} {N:Nat} (h:W1.ownsRow W.heap.size 64 1 (.slice (some ⟨W.heap.size,0,none⟩) N N) N (madeCells #[Value.slice none 0 0] N).toList) (hlt:W.heap.size<W1.heap.size):ByAt W.heap.size (List.replicate N []) W1:=by
  rw [toList_madeCells_one] at h
  refine ⟨hlt,List.replicate N (.slice none 0 0),by simp,fun s u hu=>?_,fun s l u hl hu=>?_,fun s s' u u' k hu hu' hk=>?_⟩
  · have:=World.ownsRow.cells h (g:=W.heap.size) rfl s u hu
    rw [add_plain,Nat.zero_add] at this
    exact ⟨this,World.ownsRow.frozenAt h _⟩
  · rw [List.getElem?_replicate] at hl hu
    split at hl
    · cases hl
      rw [if_pos (by assumption)] at hu
      cases hu
      exact QRow.nil _ _ _
    · cases hl
  · rw [List.getElem?_replicate] at hu
    split at hu
    · cases hu; exact absurd hk (not_inB_nil k)
    · cases hu
theorem QRow.inb {D:Nat→Prop} {size:Nat} {v:Value} {n:Nat} {xs:List Value} {W:World} (h:QRow D size v n xs W) {k:Nat} (hk:inB v k):D k∧k<W.heap.size:=by
  obtain ⟨ao,b,off,cap,e,hc,hD⟩:=h
  obtain ⟨off',n',c',e',hcp⟩:=hk
  rw [e] at e'
  cases e'
  have:=hc.addr hcp
  cases this
  exact ⟨hD hcp,hc.lt hcp⟩
theorem ByAt.grow {G:Nat} {Rs:List (List Ir)} {W:World} {s:Nat} {l:List Ir} (h:ByAt G Rs W) (hl:Rs[s]?=some l) :
    ∃ u,W.cell? ⟨G,s,none⟩=some u∧W.frozen? ⟨G,s,none⟩=false∧(∃ ua uc,u=.slice ua l.length uc)∧QRow (fun k=>(G<k∧inB u k)∨W.heap.size≤k) 3 u l.length (l.flatMap encR) W ∧
      ∀ (x:Ir) (W1:World) (v':Value) (W':World),Below W.heap.size W W1→QRow (fun k=>(G<k∧inB u k)∨W.heap.size≤k) 3 v' (l.length+1) (l.flatMap encR++encR x) W'→But (fun k=>(G<k∧inB u k)∨W.heap.size≤k) W1 W' →
        W'.cell? ⟨G,s,none⟩=some u∧W'.frozen? ⟨G,s,none⟩=false∧ByAt G (Rs.set s (l++[x])) (W'.setCell ⟨G,s,none⟩ v')∧Below G W (W'.setCell ⟨G,s,none⟩ v'):=by
  obtain ⟨h0,hv,h1,h2,h3,h4⟩:=h
  have hs:=(List.getElem?_eq_some_iff.1 hl).1
  obtain ⟨u,hu⟩:∃ u,hv[s]?=some u:=⟨_,List.getElem?_eq_getElem (by omega)⟩
  have hq:=h3 s l u hl hu
  refine ⟨u,(h2 s u hu).1,(h2 s u hu).2,?_,hq.mono (fun k _ hk=>.inl hk),fun x W1 v' W' hb hq' hbt=>?_⟩
  · obtain ⟨ao,b,off,cap,e,_⟩:=hq
    exact ⟨ao,cap,e⟩
  have hb':But (fun k=>(G<k∧inB u k)∨W.heap.size≤k) W W':=(But.of_next hb).trans hbt
  have nG:¬ ((G<G∧inB u G)∨W.heap.size≤G):=by omega
  have hc:∀ s' u',hv[s']?=some u'→W'.cell? ⟨G,s',none⟩=some u'∧W'.frozen? ⟨G,s',none⟩=false:=fun s' u' hu'=>⟨(hb'.cell (p:=⟨G,s',none⟩) h0 nG).trans (h2 s' u' hu').1,(hb'.frozen (p:=⟨G,s',none⟩) h0 nG).trans (h2 s' u' hu').2⟩
  have hin:∀ k,inB v' k→(G<k∧inB u k)∨W.heap.size≤k:=fun k hk=>(hq'.inb hk).1
  have hGk:∀ k,inB v' k→G<k:=fun k hk=>by
    rcases hin k hk with h | h <;> omega
  have BS:But (fun k=>k=G) W' (W'.setCell ⟨G,s,none⟩ v'):=(But.refl _ _).setCell _ _ (.inr rfl)
  have hset:∀ s' u',(hv.set s v')[s']?=some u'→(s'=s∧u'=v')∨(s'≠s∧hv[s']?=some u'):=fun s' u' hu'=>by
    rw [List.getElem?_set] at hu'
    by_cases e:s=s'
    · rw [if_pos e,if_pos (by omega)] at hu'
      cases hu'; exact .inl ⟨e.symm,rfl⟩
    · rw [if_neg e] at hu'; exact .inr ⟨fun h=>e h.symm,hu'⟩
  refine ⟨(hc s u hu).1,(hc s u hu).2,⟨Nat.lt_of_lt_of_le h0 (Nat.le_trans hb'.size BS.size),hv.set s v',by simp [h1],fun s' u' hu'=>?_,fun s' l' u' hl' hu'=>?_,fun s' s'' u' u'' k hu' hu'' hk hk'=>?_⟩,(hb'.below (by omega) (fun k hk=>by omega)).trans (BS.below (by have:=hb'.size; omega) (fun k hk=>by omega))⟩
  · rw [World.frozen?_setCell]
    rcases hset s' u' hu' with ⟨rfl,rfl⟩ | ⟨hne,hu'⟩
    · exact ⟨World.cell?_setCell_same _ _ _ (hc s' u hu).1,(hc s' u hu).2⟩
    · exact ⟨(World.cell?_setCell_other _ _ _ _ (fun e=>hne (by cases e; rfl))).trans (hc s' u' hu').1,(hc s' u' hu').2⟩
  · rw [List.getElem?_set] at hl'
    rcases hset s' u' hu' with ⟨rfl,rfl⟩ | ⟨hne,hu'⟩
    · rw [if_pos rfl,if_pos hs] at hl'
      cases hl'
      have hq2:QRow (fun k=>(G<k∧inB u k)∨W.heap.size≤k) 3 u' (l++[x]).length ((l++[x]).flatMap encR) W':=by
        simpa using hq'
      exact (hq2.exact.mono (E:=fun k=>G<k∧inB u' k) (fun k _ hk=>⟨hGk k hk.2.1,hk.2.1⟩)).but BS (fun k hk e=>by omega)
    · rw [if_neg (fun e=>hne e.symm)] at hl'
      refine ((h3 s' l' u' hl' hu').exact.but hb' (fun k hk hd=>?_)).mono (fun k _ hk=>hk.1) |>.but BS (fun k hk e=>by omega)
      rcases hd with hd | hd
      · exact hne (h4 s' s u' u k hu' hu hk.1.2 hd.2)
      · omega
  · have key:∀ s' u' k,s'≠s→hv[s']?=some u'→inB u' k→¬ inB v' k:=fun s' u' k hne hu' hk hk'=>by
      have hl2:∃ l',Rs[s']?=some l':=⟨_,List.getElem?_eq_getElem (by have:=(List.getElem?_eq_some_iff.1 hu').1; omega)⟩
      obtain ⟨l',hl2⟩:=hl2
      have h5:=(h3 s' l' u' hl2 hu').inb hk
      rcases hin k hk' with hd | hd
      · exact hne (h4 s' s u' u k hu' hu hk hd.2)
      · omega
    rcases hset s' u' hu' with ⟨e1,e2⟩ | ⟨hne1,hw1⟩
    · rcases hset s'' u'' hu'' with ⟨e3,e4⟩ | ⟨hne2,hw2⟩
      · rw [e1,e3]
      · exact absurd (e2 ▸ hk) (key s'' u'' k hne2 hw2 hk')
    · rcases hset s'' u'' hu'' with ⟨e3,e4⟩ | ⟨hne2,hw2⟩
      · exact absurd (e4 ▸ hk') (key s' u' k hne1 hw1 hk)
      · exact h4 s' s'' u' u'' k hw1 hw2 hk hk'
theorem ByAt.row {G:Nat} {Rs:List (List Ir)} {W:World} {s:Nat} {l:List Ir} (h:ByAt G Rs W) (hl:Rs[s]?=some l) (hok:∀ x∈l,okR x):∃ ua uc,W.cell? ⟨G,s,none⟩=some (.slice ua l.length uc)∧SlL l (.slice ua l.length uc) W∧∀ ad,ua=some ad→l≠[]→G<ad.block∧ad.block<W.heap.size:=by
  obtain ⟨u,hc,_,⟨ua,uc,rfl⟩,hq,_⟩:=h.grow hl
  have hsl:SlL l (.slice ua l.length uc) W:=hq.irs hok
  refine ⟨ua,uc,hc,hsl,fun ad e hne=>?_⟩
  subst e
  have h1:=hsl.lt hne
  refine ⟨?_,h1⟩
  obtain ⟨ao,b,off,cap,e,hcm,hD⟩:=hq
  cases e
  have hcp:0<uc:=by
    have:=hcm.le
    have:=List.length_pos_iff.2 hne
    omega
  have:=hcm.addr hcp
  cases this
  have h0:=h.1
  rcases hD hcp with ⟨hd,_⟩ | hd
  · exact hd
  · exact Nat.lt_of_lt_of_le h0 hd
end Go.Proofs.YtbilbgjojdlobaaGreatDoor
namespace Go.Proofs.YtbilbgjojdlobaaGreatDoor
open Go.RowKit
end Go.Proofs.YtbilbgjojdlobaaGreatDoor
namespace Go.Proofs.YtbilbgjojdlobaaGreatDoor
open Go.RowKit
end Go.Proofs.YtbilbgjojdlobaaGreatDoor
namespace Go.Proofs.YtbilbgjojdlobaaGreatDoor
open Go.RowKit
end Go.Proofs.YtbilbgjojdlobaaGreatDoor
namespace Go.Proofs.YtbilbgjojdlobaaGreatDoor
open Go.RowKit
theorem infoSL:(Tryz.prog.info? 64).map (fun i=>(i.zero,i.size,i.bytes))=some (some (.slice none 0 0),1,24):=by kernel_rfl
theorem inB_own {v:Value} {k:Nat} (h:inB v k):v.ownBlock=some k:=by
  obtain ⟨off,n,c,rfl,_⟩:=h
  rfl
theorem run_append_ownq {P:Program} {w:World} (base:Nat) (t ty e:TypeId) (i:TypeInfo) (z:Value) (size bytes:Nat) (ht:P.underlying t=some (.slice e)) (hi:P.info? e=some i) (hz:i.zero=some z)
    (hsize:i.size=size) (hby:i.bytes=bytes) (hzs:z.cells.size=size) (hsz:0<size)
    (v:Value) (n:Nat) (xs:List Value) (hown:w.ownsRow base e size v n xs)
    (a:Addr) (c:Nat) (news:List Value) (hl:news.length=size) (hnews:∀ j u,news[j]?=some u→w.cell? (a.add j)=some u) (h1:∀ u∈news,u.oneCell'=true)
    (h63:n+1≤maxLen) (hbytes:(n+1) * bytes≤140737488355328) (hbase:base≤w.heap.size) :
    ∃ v' w',(Builtin.append_ #[t,t] ty #[v,.slice (some a) 1 c]).run P w=.ok v' w'∧w'.ownsRow base e size v' (n+1) (xs++news)∧w.grownBy w' v.ownBlock ∧
      ∀ k,v'.ownBlock=some k→v.ownBlock=some k∨w.heap.size≤k:=by
  obtain ⟨v',w',r1,o1,g1,_⟩:=run_append_own (P:=P) w base t ty e i z size bytes ht hi hz hsize hby hzs hsz v n xs hown a 1 c news (by omega) hnews h1 h63 hbytes hbase
  have hq:QRow (fun k=>v.ownBlock=some k∨w.heap.size≤k) size v n xs w:=((QRow.of_own (D:=fun k=>base≤k) hown (fun _ h=>h)).exact).mono (fun k _ h=>.inl (inB_own h.2.1))
  obtain ⟨v2,w2,r2,q2,_⟩:=run_append_q (P:=P) (w:=w) t ty e i z size bytes ht hi hz hsize hby hzs hsz hq (fun k hk=>.inr hk) a c news hl hnews h1 h63 hbytes
  rw [r1] at r2
  cases r2
  refine ⟨v',w',r1,o1,g1,fun k hk=>?_⟩
  obtain ⟨ao,b,off,cap,rfl,hc,hD⟩:=q2
  have hcp:0<cap:=by have:=hc.le; omega
  obtain rfl:=hc.addr hcp
  cases hk
  exact hD hcp
theorem wp_append_ownq {P:Program} {w:World} {o:Oper} {a:Act} {K:Act→World→Prop} {Q:Exit→Act→World→Prop} (s x:Operand) (t:TypeId)
    (ho:o.op=.call { callee:=.builtin .append,args:=#[s,x],argTypes:=#[t,t] })
    (base:Nat) (e:TypeId) (i:TypeInfo) (z:Value) (size bytes:Nat) (ht:P.underlying t=some (.slice e)) (hi:P.info? e=some i) (hz:i.zero=some z)
    (hsize:i.size=size) (hby:i.bytes=bytes) (hzs:z.cells.size=size) (hsz:0<size)
    (v:Value) (n:Nat) (xs:List Value) (hs:a.eval s=v) (hown:w.ownsRow base e size v n xs)
    (ad:Addr) (c:Nat) (news:List Value) (hx:a.eval x=.slice (some ad) 1 c) (hl:news.length=size) (hnews:∀ j u,news[j]?=some u→w.cell? (ad.add j)=some u) (h1:∀ u∈news,u.oneCell'=true)
    (h63:n+1≤maxLen) (hbytes:(n+1) * bytes≤140737488355328) (hbase:base≤w.heap.size)
    (h:∀ v' w',w'.ownsRow base e size v' (n+1) (xs++news)→w.grownBy w' v.ownBlock→(∀ k,v'.ownBlock=some k→v.ownBlock=some k∨w.heap.size≤k)→K (a.put o.dst v') w'):o.wp P a w K Q:=by
  obtain ⟨v',w',hr,h2,h3,h4⟩:=run_append_ownq (P:=P) (w:=w) base t o.type e i z size bytes ht hi hz hsize hby hzs hsz v n xs hown ad c news hl hnews h1 h63 hbytes hbase
  unfold Oper.wp execOp
  simp only [ho,resolve,invoke,builtin,Sem.run_bind,Sem.run_pure,Result.andThen_ok,List.map_toArray,List.map_cons,List.map_nil,hs,hx,hr]
  exact h v' w' h2 h3 h4
structure GS (Bi Bc Bb G V:Nat) (lv:Value) (L:List Ir) (C S:List (Int × Int)) (W:World):Prop where
  o1:Bi<Bc
  o2:Bc<Bb
  o3:Bb<G
  lt:G<W.heap.size
  g0:W.cell? ⟨G,0,none⟩=some (.pointer (some ⟨V,0,none⟩))
  g1:W.cell? ⟨G,1,none⟩=some (.map (some Bi))
  g2:W.cell? ⟨G,2,none⟩=some lv
  g3:W.cell? ⟨G,3,none⟩=some (.map (some Bc))
  g4:W.cell? ⟨G,4,none⟩=some (.map (some Bb))
  fz:W.frozen? ⟨G,2,none⟩=false
  mi:MapSet 77 valR Bi L W
  mc:MapSet 239 val2 Bc C W
  mb:MapSet 219 val2 Bb S W
  own:OwnL (G+1) L lv W
theorem ownsRow_but {W W':World} {B n k:Nat} {e:TypeId} {v:Value} {xs:List Value} {D:Nat→Prop} (h:W.ownsRow B e k v n xs) (hb:But D W W') (hd:∀ j,D j→j<W.heap.size→j<B):W'.ownsRow B e k v n xs:=by
  obtain ⟨h1,h2⟩:=h
  refine ⟨h1,?_⟩
  rcases h2 with ⟨rfl,hn⟩ | ⟨g,cap,cur,rfl,hB,hg,h3⟩
  · exact .inl ⟨rfl,hn⟩
  · have hlt:g<W.heap.size:=(Array.getElem?_eq_some_iff.1 hg).1
    exact .inr ⟨g,cap,cur,rfl,hB,(hb.block g hlt (fun h=>by have:=hd g h hlt; omega)).trans hg,h3⟩
theorem GS.but {Bi Bc Bb G V:Nat} {lv:Value} {L:List Ir} {C S:List (Int × Int)} {W W':World} {D:Nat→Prop} (h:GS Bi Bc Bb G V lv L C S W) (hb:But D W W') (hd:∀ k,D k→k<W.heap.size→k<Bi):GS Bi Bc Bb G V lv L C S W':=by
  have hl:=h.lt
  have h1:=h.o1
  have h2:=h.o2
  have h3:=h.o3
  have nd:∀ k,Bi≤k→k<W.heap.size→¬ D k:=fun k hk hlt hdk=>by have:=hd k hdk hlt; omega
  have c:∀ {o v},W.cell? ⟨G,o,none⟩=some v→W'.cell? ⟨G,o,none⟩=some v:=fun {o v} hv=>(hb.cell (p:=⟨G,o,none⟩) hl (nd G (by omega) hl)).trans hv
  exact ⟨h.o1,h.o2,h.o3,Nat.lt_of_lt_of_le hl hb.size,c h.g0,c h.g1,c h.g2,c h.g3,c h.g4,(hb.frozen (p:=⟨G,2,none⟩) hl (nd G (by omega) hl)).trans h.fz,h.mi.but hb (nd _ (by omega) (by omega)),h.mc.but hb (nd _ (by omega) (by omega)),h.mb.but hb (nd _ (by omega) (by omega)),ownsRow_but h.own hb (fun j hj hlt=>by have:=hd j hj hlt; omega)⟩
theorem GS.next {Bi Bc Bb G V:Nat} {lv:Value} {L:List Ir} {C S:List (Int × Int)} {W W':World} (h:GS Bi Bc Bb G V lv L C S W) (hb:Below W.heap.size W W'):GS Bi Bc Bb G V lv L C S W' :=
  h.but (D:=fun _=>False) (But.of_next hb) (fun _ h=>h.elim)
def addI (L:List Ir) (x:Ir):List Ir:=if x∈L then L else L++[x]
def Apt (P:Nat→Prop) (Bi Bc Bb G:Nat) (lv:Value) (w:World):Prop:=(∀ k,P k→k<w.heap.size∧k≠Bi∧k≠Bc∧k≠Bb∧k≠G)∧∀ k,lv.ownBlock=some k→¬ P k
def Grown (P:Nat→Prop) (Bi Bc Bb G V:Nat) (L:List Ir) (C S:List (Int × Int)) (w:World) (e:Ending) (w':World):Prop:=e=.returned (.tuple #[])∧∃ lv',GS Bi Bc Bb G V lv' L C S w'∧Apt P Bi Bc Bb G lv' w'∧But (fun k=>¬ P k) w w'
theorem Apt.next {P:Nat→Prop} {Bi Bc Bb G:Nat} {lv:Value} {w w':World} (h:Apt P Bi Bc Bb G lv w) (hs:w.heap.size≤w'.heap.size):Apt P Bi Bc Bb G lv w':=⟨fun k hk=>⟨Nat.lt_of_lt_of_le (h.1 k hk).1 hs,(h.1 k hk).2⟩,h.2⟩
set_option maxRecDepth 100000 in
set_option maxHeartbeats 2000000 in
theorem gput_any (P:Nat→Prop) (Bi Bc Bb G V:Nat) (lv:Value) (L:List Ir) (C S:List (Int × Int)) (x:Ir) (w:World) (h:GS Bi Bc Bb G V lv L C S w) (hx:okR x) (hP:Apt P Bi Bc Bb G lv w) (hl:L.length<100000000) :
    Calls Tryz.prog 129 #[.pointer (some ⟨G,0,none⟩),valR x] w fun e w'=>Grown P Bi Bc Bb G V (addI L x) C S w e w':=by
  obtain ⟨i0,hi0,hz0,hz1,hz2⟩:=info_parts infoLr
  obtain ⟨la,lc,rfl⟩:=slice_of_ownK h.own
  have Bx:Below w.heap.size w (w.alloc (Obj.cells #[.int .i64 x.1,.int .i64 x.2.1,.int .i64 x.2.2] 77)):=(Below.refl _ _).alloc (Nat.le_refl _) _
  have X0:=RBox.new x 77 w
  have hG:=h.lt
  have hBi:Bi<G:=by have:=h.o1; have:=h.o2; have:=h.o3; omega
  have hdst:=And.intro h.o1 (And.intro h.o2 h.o3)
  have HH:Hid (GS Bi Bc Bb G V (.slice la L.length lc) L C S (w.alloc (Obj.cells #[.int .i64 x.1,.int .i64 x.2.1,.int .i64 x.2.2] 77))):=h.next Bx
  have HX:Hid (okR x):=hx
  have HOL:Hid (∀ k,(Value.slice la L.length lc).ownBlock=some k→G+1≤k∧k<w.heap.size):=fun k e=>World.ownsRow.lt h.own k e
  have HAP:Hid (Apt P Bi Bc Bb G (.slice la L.length lc) w):=hP
  clear h hx hP
  obtain ⟨x0,x1,x2⟩:=x
  unfold valR
  simp only at *
  go_enter Tryz.func129,Tryz.ntmps129
  go_wp2_with fail
  generalize w.alloc (Obj.cells #[.int .i64 x0,.int .i64 x1,.int .i64 x2] 77)=w0 at *
  obtain ⟨hwl,y0,y1,y2⟩:=X0
  simp only at y0 y1 y2
  have HS0:(w0.drew.cell? ⟨G,1,none⟩=some (.map (some Bi))∧w0.drew.cell? ⟨w.heap.size,0,none⟩=some (.int .i64 x0)∧w0.drew.cell? ⟨w.heap.size,1,none⟩=some (.int .i64 x1)∧w0.drew.cell? ⟨w.heap.size,2,none⟩=some (.int .i64 x2)):=⟨HH.out.g1,y0,y1,y2⟩
  have hg2:=HH.out.g2
  have hfz:=HH.out.fz
  have HN:=isNewR_any Bi L (x0,x1,x2) w0.drew (HH.out.next (Below.refl _ _).drew).mi HX.out hl
  unfold valR at HN
  simp only at HN
  have hsz:=Bx.size
  refine wp_region_L (fun W=>W.cell? ⟨G,1,none⟩=some (.map (some Bi))∧W.cell? ⟨w.heap.size,0,none⟩=some (.int .i64 x0)∧W.cell? ⟨w.heap.size,1,none⟩=some (.int .i64 x1)∧W.cell? ⟨w.heap.size,2,none⟩=some (.int .i64 x2)) 6 (by kernel_rfl) 6 rfl ?_
  refine tk 0 ⟨some 4,.move (.tmp 0),186, "grower.go:37",#[],none⟩ HS0 ?_;simp only [Act.put,sA,s0,sS]
  refine tk 1 ⟨some 5,.nilCheck (.tmp 4),0, "grower.go:37",#[⟨0,.data⟩],none⟩ HS0 ?_;simp only [Act.put,sA,s0,sS]
  refine tk 2 ⟨some 6,.fieldAddr 214 (.tmp 5) 1,0, "grower.go:37",#[⟨1,.data⟩],none⟩ HS0 ?_;simp only [Act.put,sA,s0,sS]
  refine tk 3 ⟨some 7,.load 210 (.tmp 6),210, "grower.go:37",#[⟨2,.data⟩],none⟩ HS0 ?_;simp only [Act.put,sA,s0,sS]
  refine tk 4 ⟨some 8,.load 77 (.tmp 3),77, "grower.go:37",#[],none⟩ HS0 ?_;simp only [Act.put,sA,s0,sS]
  refine wpAnyL_one' (i:=5) (o:=⟨some 9,.call ⟨.value (.func 156),#[.tmp 7,.tmp 8],#[210,77]⟩,4, "grower.go:37",#[⟨3,.data⟩,⟨4,.data⟩],none⟩) (by kernel_rfl) rfl rfl (fun K hK=>?_)
  go_simp
  refine HN.mono ?_
  rintro e W1 ⟨rfl,hM1,hb1⟩
  have hb1':But (fun k=>k=Bi) w0 W1:=(But.refl _ _).drew.trans hb1
  have cw:∀ {b o:Nat} {v:Value},b≠Bi→w0.cell? ⟨b,o,none⟩=some v→W1.cell? ⟨b,o,none⟩=some v:=fun {b o v} hbn hv=>(hb1'.cell (p:=⟨b,o,none⟩) (World.block_lt_of_cell? _ _ hv) hbn).trans hv
  have hS1:(W1.cell? ⟨G,1,none⟩=some (.map (some Bi))∧W1.cell? ⟨w.heap.size,0,none⟩=some (.int .i64 x0)∧W1.cell? ⟨w.heap.size,1,none⟩=some (.int .i64 x1)∧W1.cell? ⟨w.heap.size,2,none⟩=some (.int .i64 x2)):=⟨cw (by omega) HH.out.g1,cw (by omega) y0,cw (by omega) y1,cw (by omega) y2⟩
  refine hK.out _ _ (fun _=>hS1) ?_
  clear hK HN
  refine wpAnyL_done (by kernel_rfl) ?_ _
  have GS1:∀ L',MapSet 77 valR Bi L' W1→OwnL (G+1) L (.slice la L.length lc) W1∧(OwnL (G+1) L' (.slice la L.length lc) W1→GS Bi Bc Bb G V (.slice la L.length lc) L' C S W1):=fun L' hm=>by
    have h:=HH.out
    have nd:∀ k,k≠Bi→¬ (fun k=>k=Bi) k:=fun k hk e=>hk e
    refine ⟨?_,fun ho=>⟨h.o1,h.o2,h.o3,Nat.lt_of_lt_of_le h.lt hb1'.size,cw (by omega) h.g0,cw (by omega) h.g1,cw (by omega) h.g2,cw (by omega) h.g3,cw (by omega) h.g4,(hb1'.frozen (p:=⟨G,2,none⟩) h.lt (by simp only; omega)).trans h.fz,hm,h.mc.but hb1' (by omega),h.mb.but hb1' (by omega),ho⟩⟩
    exact ownsRow_but h.own hb1' (fun j hj _=>by omega)
  have HB1:Hid (But (fun k=>¬ P k) w W1):=(But.of_next Bx).trans (hb1'.mono (fun k _ hk hp=>(HAP.out.1 k hp).2.1 hk))
  by_cases hin:(x0,x1,x2)∈L
  · rw [if_pos hin] at hM1
    have hadd:addI L (x0,x1,x2)=L:=by unfold addI; rw [if_pos hin]
    have HF:Hid (GS Bi Bc Bb G V (.slice la L.length lc) L C S W1):=(GS1 L hM1).2 (GS1 L hM1).1
    have hdc:decide ((x0,x1,x2)∈L)=true:=by simpa using hin
    rw [hdc]
    clear GS1 hS1 cw hM1 HH HS0 hdc hin hb1 hb1' hg2 hfz
    go_wp2_with fail
    go_end0
    exact ⟨rfl,_,by rw [hadd]; exact HF.out,HAP.out.next HB1.out.size,HB1.out⟩
  rw [if_neg hin] at hM1
  have hadd:addI L (x0,x1,x2)=L++[(x0,x1,x2)]:=by unfold addI; rw [if_neg hin]
  have hdc:decide ((x0,x1,x2)∈L)=false:=by simpa using hin
  rw [hdc]
  have HM1:Hid (MapSet 77 valR Bi (L++[(x0,x1,x2)]) W1):=hM1
  have HO1:Hid (OwnL (G+1) L (.slice la L.length lc) W1):=(GS1 _ hM1).1
  have HG1:Hid (∀ {o:Nat} {v:Value},w0.cell? ⟨G,o,none⟩=some v→W1.cell? ⟨G,o,none⟩=some v):=fun {o v} hv=>cw (by omega) hv
  have hfz1:W1.frozen? ⟨G,2,none⟩=false:=(hb1'.frozen (p:=⟨G,2,none⟩) HH.out.lt (by simp only; omega)).trans hfz
  have hg21:W1.cell? ⟨G,2,none⟩=some (.slice la L.length lc):=cw (by omega) hg2
  have HMC:Hid (MapSet 239 val2 Bc C W1):=HH.out.mc.but hb1' (by omega)
  have HMB:Hid (MapSet 219 val2 Bb S W1):=HH.out.mb.but hb1' (by omega)
  have hG1:G<W1.heap.size:=Nat.lt_of_lt_of_le HH.out.lt hb1'.size
  have hw1:w.heap.size<W1.heap.size:=Nat.lt_of_lt_of_le hwl hb1'.size
  have z0:=hS1.2.1
  have z1:=hS1.2.2.1
  have z2:=hS1.2.2.2
  have HS2:Hid (∀ W,But (fun k=>(Value.slice la L.length lc).ownBlock=some k) W1 W→(W.cell? ⟨G,2,none⟩=some (.slice la L.length lc)∧W.cell? ⟨w.heap.size,0,none⟩=some (.int .i64 x0)∧W.cell? ⟨w.heap.size,1,none⟩=some (.int .i64 x1)∧W.cell? ⟨w.heap.size,2,none⟩=some (.int .i64 x2))):=fun W hb=>⟨(hb.cell (p:=⟨G,2,none⟩) hG1 (fun e=>by have:=HOL.out _ e; simp only at this; omega)).trans hg21,(hb.cell (p:=⟨w.heap.size,0,none⟩) hw1 (fun e=>by have:=HOL.out _ e; simp only at this; omega)).trans z0,(hb.cell (p:=⟨w.heap.size,1,none⟩) hw1 (fun e=>by have:=HOL.out _ e; simp only at this; omega)).trans z1,(hb.cell (p:=⟨w.heap.size,2,none⟩) hw1 (fun e=>by have:=HOL.out _ e; simp only at this; omega)).trans z2⟩
  have HSD:=HS2.out W1.drew (But.refl _ _).drew
  have Bn:Below W1.heap.size W1 (W1.drew.alloc (Obj.cells #[.int .i64 x0,.int .i64 x1,.int .i64 x2] 77)):=(Below.refl _ _).drew.alloc (Nat.le_refl _) _
  have HSN:=HS2.out (W1.drew.alloc (Obj.cells #[.int .i64 x0,.int .i64 x1,.int .i64 x2] 77)) (But.of_next Bn)
  have HON:Hid ((W1.drew.alloc (Obj.cells #[.int .i64 x0,.int .i64 x1,.int .i64 x2] 77)).ownsRow (G+1) 77 3 (.slice la L.length lc) L.length (L.flatMap encR)):=ownsRow_next (show W1.ownsRow (G+1) 77 3 (.slice la L.length lc) L.length (L.flatMap encR) from HO1.out) Bn
  have hszn:G+1≤(W1.drew.alloc (Obj.cells #[.int .i64 x0,.int .i64 x1,.int .i64 x2] 77)).heap.size:=Nat.le_trans hG1 Bn.size
  have HGG:Hid (w0.cell? ⟨G,0,none⟩=some (.pointer (some ⟨V,0,none⟩))∧w0.cell? ⟨G,1,none⟩=some (.map (some Bi))∧w0.cell? ⟨G,3,none⟩=some (.map (some Bc))∧w0.cell? ⟨G,4,none⟩=some (.map (some Bb))):=⟨HH.out.g0,HH.out.g1,HH.out.g3,HH.out.g4⟩
  clear GS1 hM1 HS0 hdc hb1 hg2 hfz hS1 cw HH hin hb1'
  go_wp2_with fail
  refine wp_region_L (fun W=>W.cell? ⟨G,2,none⟩=some (.slice la L.length lc)∧W.cell? ⟨w.heap.size,0,none⟩=some (.int .i64 x0)∧W.cell? ⟨w.heap.size,1,none⟩=some (.int .i64 x1)∧W.cell? ⟨w.heap.size,2,none⟩=some (.int .i64 x2)) 10 (by kernel_rfl) 11 rfl ?_
  refine tk 0 ⟨some 10,.move (.tmp 0),186, "grower.go:38",#[],none⟩ HSD ?_;simp only [Act.put,sA,s0,sS]
  refine tk 1 ⟨some 11,.move (.tmp 0),186, "grower.go:38",#[],none⟩ HSD ?_;simp only [Act.put,sA,s0,sS]
  refine tk 2 ⟨some 12,.nilCheck (.tmp 11),0, "grower.go:38",#[⟨1,.data⟩],none⟩ HSD ?_;simp only [Act.put,sA,s0,sS]
  refine tk 3 ⟨some 13,.fieldAddr 214 (.tmp 12) 2,0, "grower.go:38",#[⟨2,.data⟩],none⟩ HSD ?_;simp only [Act.put,sA,s0,sS]
  refine tk 4 ⟨some 14,.load 64 (.tmp 13),64, "grower.go:38",#[⟨3,.data⟩],none⟩ HSD ?_;simp only [Act.put,sA,s0,sS]
  refine tk 5 ⟨some 15,.load 77 (.tmp 3),77, "grower.go:38",#[],none⟩ HSD ?_;simp only [Act.put,sA,s0,sS]
  refine wpAnyL_one' (i:=6) (o:=⟨some 16,.buildSlice 64 1 #[(0,.tmp 15)],64, "grower.go:38",#[⟨5,.data⟩],none⟩) (by kernel_rfl) rfl rfl (fun K hK=>?_)
  go_simp
  refine hK.out _ _ (fun _=>HSN) ?_
  clear hK
  refine wpAnyL_one' (i:=7) (o:=⟨some 17,.call ⟨.builtin .append,#[.tmp 14,.tmp 16],#[64,64]⟩,64, "grower.go:38",#[⟨4,.data⟩,⟨6,.data⟩],none⟩) (by kernel_rfl) rfl rfl (fun K hK=>?_)
  rw [if_pos (by rfl)]
  refine wp_append_ownq (.tmp 14) (.tmp 16) 64 rfl (G+1) 77 i0 _ 3 24 Tryz.underlying64 hi0 hz0 hz1 hz2 rfl (by decide) _ L.length _ rfl HON.out ⟨W1.heap.size,0,none⟩ 1 (encR (x0,x1,x2)) rfl rfl (new_cellR W1.drew (x0,x1,x2) _) (one_encR _) (by unfold maxLen; omega) (by omega) hszn ?_
  intro v5 w5 hown5 hg5 hv5
  obtain ⟨a5,c5,rfl⟩:=slice_of_ownK hown5
  have hg5':(W1.drew.alloc (Obj.cells #[.int .i64 x0,.int .i64 x1,.int .i64 x2] 77)).grownBy w5 (Value.slice la L.length lc).ownBlock:=hg5
  have BT:But (fun k=>(Value.slice la L.length lc).ownBlock=some k) W1 w5:=(But.of_next Bn).trans ⟨hg5'.os,hg5'.tape,hg5'.output,hg5'.size,fun k hk hd=>hg5'.block k hk (fun e=>hd e.symm)⟩
  have HV5:Hid (∀ k,(Value.slice a5 (L.length+1) c5).ownBlock=some k→(Value.slice la L.length lc).ownBlock=some k∨W1.heap.size≤k):=fun k e=>(hv5 k e).imp id (fun h=>Nat.le_trans (Bn.size) h)
  clear hv5
  have HO5:Hid (OwnL (G+1) (L++[(x0,x1,x2)]) (.slice a5 (L.length+1) c5) w5):=OwnL.more hown5
  have hS5:=HS2.out _ BT
  have fz5:w5.frozen? ⟨G,2,none⟩=false:=(BT.frozen (p:=⟨G,2,none⟩) hG1 (fun e=>by have:=HOL.out _ e; simp only at this; omega)).trans hfz1
  refine hK.out _ _ (fun _=>hS5) ?_
  clear hK hown5 hg5
  simp only [Act.put,sA,s0,sS]
  refine wpAnyL_one' (i:=8) (o:=⟨some 18,.nilCheck (.tmp 10),0, "grower.go:38",#[⟨0,.data⟩,⟨0,.phase⟩,⟨1,.phase⟩,⟨2,.phase⟩,⟨3,.phase⟩,⟨4,.phase⟩,⟨5,.phase⟩,⟨6,.phase⟩,⟨7,.phase⟩],none⟩) (by kernel_rfl) rfl rfl (fun K hK=>?_)
  go_simp
  refine hK.out _ _ (fun _=>hS5) ?_
  clear hK
  refine wpAnyL_one' (i:=9) (o:=⟨some 19,.fieldAddr 214 (.tmp 18) 2,0, "grower.go:38",#[⟨8,.data⟩,⟨0,.phase⟩,⟨1,.phase⟩,⟨2,.phase⟩,⟨3,.phase⟩,⟨4,.phase⟩,⟨5,.phase⟩,⟨6,.phase⟩,⟨7,.phase⟩],none⟩) (by kernel_rfl) rfl rfl (fun K hK=>?_)
  go_simp
  refine hK.out _ _ (fun _=>hS5) ?_
  clear hK
  refine wpAnyL_one' (i:=10) (o:=⟨none,.store 64 (.tmp 19) (.tmp 17),0, "grower.go:38",#[⟨9,.data⟩,⟨7,.data⟩,⟨7,.chain⟩,⟨0,.phase⟩,⟨1,.phase⟩,⟨2,.phase⟩,⟨3,.phase⟩,⟨4,.phase⟩,⟨5,.phase⟩,⟨6,.phase⟩,⟨7,.phase⟩],none⟩) (by kernel_rfl) rfl rfl (fun K hK=>?_)
  go_simp
  refine hK.out _ _ (fun h=>absurd h (by decide)) ?_
  clear hK
  refine wpAnyL_done (by kernel_rfl) ?_ _
  have hw5:w5.heap.size≤(w5.setCell ⟨G,2,none⟩ (.slice a5 (L.length+1) c5)).heap.size:=by simp [World.setCell]
  have BS:But (fun k=>k=G) w5 (w5.setCell ⟨G,2,none⟩ (.slice a5 (L.length+1) c5)):=(But.refl _ _).setCell _ _ (.inr rfl)
  have HF:Hid (GS Bi Bc Bb G V (.slice a5 (L.length+1) c5) (L++[(x0,x1,x2)]) C S (w5.setCell ⟨G,2,none⟩ (.slice a5 (L.length+1) c5))∧Apt P Bi Bc Bb G (.slice a5 (L.length+1) c5) (w5.setCell ⟨G,2,none⟩ (.slice a5 (L.length+1) c5))∧But (fun k=>¬ P k) w (w5.setCell ⟨G,2,none⟩ (.slice a5 (L.length+1) c5))):=by
    have oc:∀ {o:Nat} {v:Value},o≠2→w0.cell? ⟨G,o,none⟩=some v→(w5.setCell ⟨G,2,none⟩ (.slice a5 (L.length+1) c5)).cell? ⟨G,o,none⟩=some v:=fun {o v} ho hv=>by
      rw [World.cell?_setCell_other _ _ _ _ (fun e=>ho (by cases e; rfl)),BT.cell (p:=⟨G,o,none⟩) hG1 (fun e=>by have:=HOL.out _ e; simp only at this; omega)]
      exact HG1.out hv
    have hg:=HGG.out
    exact ⟨⟨hdst.1,hdst.2.1,hdst.2.2,Nat.lt_of_lt_of_le (Nat.lt_of_lt_of_le hG1 BT.size) hw5,oc (by omega) hg.1,oc (by omega) hg.2.1,World.cell?_setCell_same _ _ _ hS5.1,oc (by omega) hg.2.2.1,oc (by omega) hg.2.2.2,by rw [World.frozen?_setCell]; exact fz5,(HM1.out.but BT (fun e=>by have:=HOL.out _ e; omega)).but BS (by omega),(HMC.out.but BT (fun e=>by have:=HOL.out _ e; omega)).but BS (by omega),(HMB.out.but BT (fun e=>by have:=HOL.out _ e; omega)).but BS (by omega),ownsRow_but HO5.out BS (fun j hj _=>by omega)⟩,⟨fun k hk=>⟨Nat.lt_of_lt_of_le (HAP.out.1 k hk).1 (Nat.le_trans HB1.out.size (Nat.le_trans BT.size hw5)),(HAP.out.1 k hk).2⟩,fun k e hp=>(HV5.out k e).elim (fun h=>HAP.out.2 k h hp) (fun h=>by have:=(HAP.out.1 k hp).1; have:=HB1.out.size; omega)⟩,(HB1.out.trans (BT.mono (fun k _ hk hp=>HAP.out.2 k hk hp))).trans (BS.mono (fun k _ hk hp=>(HAP.out.1 k hp).2.2.2.2 hk))⟩
  clear HS2 HON HGG HMC HMB HM1 HO1 HG1 HO5 BT BS hS5 fz5 HSN HSD hg5' hg21 hfz1 z0 z1 z2 Bn
  go_wp2_with fail
  go_end0
  exact ⟨rfl,_,by rw [hadd]; exact HF.out.1,HF.out.2⟩
def NewG (V:Nat) (w:World) (e:Ending) (w':World):Prop:=∃ Bi Bc Bb G,e=.returned (.pointer (some ⟨G,0,none⟩))∧w.heap.size≤Bi∧GS Bi Bc Bb G V (.slice none 0 0) [] [] [] w'∧Below w.heap.size w w'
theorem cells5 (W:World) (n:Nat) (a0 a1 a2 a3 a4:Value) (ty:TypeId) (h:W.heap.size=n) :
    (W.alloc (Obj.cells #[a0,a1,a2,a3,a4] ty)).cell? ⟨n,0,none⟩=some a0∧(W.alloc (Obj.cells #[a0,a1,a2,a3,a4] ty)).cell? ⟨n,1,none⟩=some a1∧(W.alloc (Obj.cells #[a0,a1,a2,a3,a4] ty)).cell? ⟨n,2,none⟩=some a2∧(W.alloc (Obj.cells #[a0,a1,a2,a3,a4] ty)).cell? ⟨n,3,none⟩=some a3∧(W.alloc (Obj.cells #[a0,a1,a2,a3,a4] ty)).cell? ⟨n,4,none⟩=some a4∧(W.alloc (Obj.cells #[a0,a1,a2,a3,a4] ty)).frozen? ⟨n,2,none⟩=false:=by
  subst h
  refine ⟨?_,?_,?_,?_,?_,?_⟩ <;> simp
set_option maxRecDepth 100000 in
set_option maxHeartbeats 1000000 in
theorem newGrower_any (V:Nat) (w:World):Calls Tryz.prog 128 #[.pointer (some ⟨V,0,none⟩)] w fun e w'=>NewG V w e w':=by
  go_enter Tryz.func128,Tryz.ntmps128
  go_wp2_with fail
  simp only [run_makeMap,Result.andThen]
  go_wp2_with fail
  simp only [run_makeMap,Result.andThen]
  go_wp2_with fail
  simp only [run_makeMap,Result.andThen]
  go_wp2_with fail
  go_ret
  have hs1:(w.alloc (Obj.map #[] 0)).heap.size=w.heap.size+1:=by simp
  have hs2:((w.alloc (Obj.map #[] 0)).alloc (Obj.map #[] 0)).heap.size=w.heap.size+1+1:=by simp
  have hs3:(((w.alloc (Obj.map #[] 0)).alloc (Obj.map #[] 0)).alloc (Obj.map #[] 0)).heap.size=w.heap.size+1+1+1:=by simp
  have m1:=MapSet.made 77 valR w
  have m2:=MapSet.made 239 val2 (w.alloc (Obj.map #[] 0))
  have m3:=MapSet.made 219 val2 ((w.alloc (Obj.map #[] 0)).alloc (Obj.map #[] 0))
  rw [hs1] at m2
  rw [hs2] at m3
  have al:∀ (W:World) (o:Obj),But (fun _=>False) W (W.alloc o):=fun W o=>But.of_next ((Below.refl _ _).alloc (Nat.le_refl _) _)
  have bl:∀ (W:World) (o:Obj),w.heap.size≤W.heap.size→Below w.heap.size w W→Below w.heap.size w (W.alloc o):=fun W o hs hb=>hb.alloc hs _
  have hc:=cells5 (((w.alloc (Obj.map #[] 0)).alloc (Obj.map #[] 0)).alloc (Obj.map #[] 0)) _ (.pointer (some ⟨V,0,none⟩)) (.map (some w.heap.size)) (.slice none 0 0) (.map (some (w.heap.size+1))) (.map (some (w.heap.size+1+1))) 214 hs3
  refine ⟨w.heap.size,w.heap.size+1,w.heap.size+1+1,w.heap.size+1+1+1,rfl,Nat.le_refl _,⟨by omega,by omega,by omega,by simp,hc.1,hc.2.1,hc.2.2.1,hc.2.2.2.1,hc.2.2.2.2.1,hc.2.2.2.2.2,((m1.but (al _ _) id).but (al _ _) id).but (al _ _) id,(m2.but (al _ _) id).but (al _ _) id,m3.but (al _ _) id,OwnL.nil _ _⟩,?_⟩
  exact bl _ _ (by simp; omega) (bl _ _ (by simp; omega) (bl _ _ (by simp) (bl _ _ (Nat.le_refl _) (Below.refl _ _))))
def begI (f:Fl) (L:List Ir) (sy:Nat) (t:Int):List Ir:=(ofA f (sy:Int)).foldl (fun (L:List Ir) (q:Int)=>addI L (q,0,t)) L
def begL1 (f:Fl) (L:List Ir) (S:List (Int × Int)) (sy:Nat) (t:Int):List Ir:=if ((sy:Int),t)∈S then L else begI f L sy t
def begS (S:List (Int × Int)) (sy:Nat) (t:Int):List (Int × Int):=if ((sy:Int),t)∈S then S else S++[((sy:Int),t)]
theorem addI_len (L:List Ir) (x:Ir):(addI L x).length≤L.length+1:=by unfold addI; split <;> simp
theorem foldI_len (t:Int):∀ (Q:List Int) (L:List Ir),(Q.foldl (fun (L:List Ir) (q:Int)=>addI L (q,0,t)) L).length≤L.length+Q.length
  | [],L=>by simp
  | q :: Q,L=>by
    rw [List.foldl_cons]
    have h1:=foldI_len t Q (addI L (q,0,t))
    have h2:=addI_len L (q,0,t)
    simp only [List.length_cons]
    omega
theorem foldI_take {Q:List Int} {t:Int} {L:List Ir} {j:Nat} (h:j<Q.length):(Q.take (j+1)).foldl (fun (L:List Ir) (q:Int)=>addI L (q,0,t)) L=addI ((Q.take j).foldl (fun (L:List Ir) (q:Int)=>addI L (q,0,t)) L) (Q[j],0,t):=by
  rw [List.take_succ_eq_append_getElem h,List.foldl_append]
  rfl
theorem SBox (x y:Int) (ty:TypeId) (w:World):w.heap.size<(w.alloc (Obj.cells #[.int .i64 x,.int .i64 y] ty)).heap.size∧(w.alloc (Obj.cells #[.int .i64 x,.int .i64 y] ty)).cell? ⟨w.heap.size,0,none⟩=some (.int .i64 x)∧(w.alloc (Obj.cells #[.int .i64 x,.int .i64 y] ty)).cell? ⟨w.heap.size,1,none⟩=some (.int .i64 y):=by
  refine ⟨?_,?_,?_⟩ <;> simp
theorem mem_ofA_ok {f:Fl} {s q:Int} (h:q∈ofA f s) (hf:f.prods.length≤1000):i64B q:=by
  obtain ⟨k,p,rfl,hk,_⟩:=mem_ofA.1 h
  have:=(List.getElem?_eq_some_iff.1 hk).1
  unfold i64B; omega
theorem ofsL_get {f:Fl} {s n:Nat} (h:s<n):(ofsL f n)[s]?=some (ofA f (s:Int)):=by unfold ofsL; simp [h]
theorem ofA_short (f:Fl) (s:Int):(ofA f s).length≤f.prods.length:=by
  unfold ofA ofL
  rw [List.length_map]
  refine Nat.le_trans (List.length_filter_le _ _) ?_
  simp
set_option maxRecDepth 100000 in
set_option maxHeartbeats 2000000 in
theorem gbegin_any (P:Nat→Prop) (f:Fl) (a:FlA) (Le:List Bool) (R:List (List Int)) (wv:World) (Bi Bc Bb G V:Nat) (lv:Value) (L:List Ir) (C S:List (Int × Int)) (sy:Nat) (t:Int) (w:World)
    (h:GS Bi Bc Bb G V lv L C S w) (hv:VwAt f a V Le R wv) (hwv:wv.heap.size≤Bi) (hB:Below wv.heap.size wv w) (hPB:∀ k,k<Bi→P k) (hP:Apt P Bi Bc Bb G lv w) (hsy:sy<f.n) (ht:i64B t) (hf:f.prods.length≤1000) (hn:f.n≤600) (hl:L.length+1000<100000000) (hS:S.length<100000000) :
    Calls Tryz.prog 158 #[.pointer (some ⟨G,0,none⟩),.agg #[.int .i64 sy,.int .i64 t]] w fun e w'=>Grown P Bi Bc Bb G V (begL1 f L S sy t) C (begS S sy t) w e w':=by
  have Bx:Below w.heap.size w (w.alloc (Obj.cells #[.int .i64 sy,.int .i64 t] 219)):=(Below.refl _ _).alloc (Nat.le_refl _) _
  have X0:=SBox (sy:Int) t 219 w
  have hG:=h.lt
  have hdst:=And.intro h.o1 (And.intro h.o2 h.o3)
  have HH:Hid (GS Bi Bc Bb G V lv L C S (w.alloc (Obj.cells #[.int .i64 sy,.int .i64 t] 219))):=h.next Bx
  have hok:ok2 ((sy:Int),t):=⟨by unfold i64B; omega,ht⟩
  have HAP:Hid (Apt P Bi Bc Bb G lv w):=hP
  have HOL:Hid (∀ k,lv.ownBlock=some k→k<w.heap.size):=fun k e=>(World.ownsRow.lt h.own k e).2
  have HPB:Hid (∀ k,k<Bi→P k):=hPB
  obtain ⟨hvb,ve,vf,vp,v3,v4,v5,_,_,v6⟩:=hv
  have hVl:=hvb.1
  obtain ⟨pa',pc,rfl,hrows,_⟩:=v6
  rw [ofsL_len] at v5
  obtain ⟨pb,po,u,rfl,hpb,hrc,hru⟩:=hrows sy _ (ofsL_get hsy)
  obtain ⟨PL,hPL⟩:∃ PL,ofA f (sy:Int)=PL:=⟨_,rfl⟩
  have HLE:Hid (PL.length≤1000):=by rw [← hPL]; exact Nat.le_trans (ofA_short _ _) hf
  have HOK:Hid (∀ q∈PL,i64B q):=by rw [← hPL]; exact fun q hq=>mem_ofA_ok hq hf
  rw [hPL] at hru
  obtain ⟨ra,rc,rfl,hrow,_⟩:=hru
  have HBG:Hid (begI f L sy t=PL.foldl (fun (L:List Ir) (q:Int)=>addI L (q,0,t)) L):=by rw [← hPL]; rfl
  clear hPL h hP hPB hvb hrows v3 v4
  -- what the view has,in each world that leaves its blocks
  have HVW:Hid (∀ W,Below Bi w W→W.cell? ⟨V,5,none⟩=some (.slice (some ⟨pb,po,none⟩) f.n pc)∧W.cell? ⟨pb,po+sy,none⟩=some (.slice ra PL.length rc)∧RowAt encI PL ra W∧V<Bi∧pb<Bi):=fun W hb=>by
    have hb':Below wv.heap.size wv W:=hB.trans (hb.mono hwv)
    exact ⟨(hb'.cell (p:=⟨V,5,none⟩) hVl).trans v5,(hb'.cell (p:=⟨pb,po+sy,none⟩) hpb).trans hrc,hrow.next hb',by omega,by omega⟩
  clear hrow hrc v5 hpb hVl hB
  go_enter Tryz.func158,Tryz.ntmps158
  go_wp2_with fail
  generalize w.alloc (Obj.cells #[.int .i64 sy,.int .i64 t] 219)=w0 at *
  obtain ⟨hwl,y0,y1⟩:=X0
  have HS0:(w0.drew.cell? ⟨G,4,none⟩=some (.map (some Bb))∧w0.drew.cell? ⟨w.heap.size,0,none⟩=some (.int .i64 sy)∧w0.drew.cell? ⟨w.heap.size,1,none⟩=some (.int .i64 t)):=⟨HH.out.g4,y0,y1⟩
  have HN:=isNewS_any Bb S ((sy:Int),t) w0.drew (HH.out.next (Below.refl _ _).drew).mb hok hS
  unfold val2 at HN
  simp only at HN
  have hsz:=Bx.size
  refine wp_region_L (fun W=>W.cell? ⟨G,4,none⟩=some (.map (some Bb))∧W.cell? ⟨w.heap.size,0,none⟩=some (.int .i64 sy)∧W.cell? ⟨w.heap.size,1,none⟩=some (.int .i64 t)) 7 (by kernel_rfl) 7 rfl ?_
  refine tk 0 ⟨some 6,.move (.tmp 0),186, "grower.go:60",#[],none⟩ HS0 ?_;simp only [Act.put,sA,s0,sS]
  refine tk 1 ⟨some 7,.nilCheck (.tmp 6),0, "grower.go:60",#[⟨0,.data⟩],none⟩ HS0 ?_;simp only [Act.put,sA,s0,sS]
  refine tk 2 ⟨some 8,.fieldAddr 214 (.tmp 7) 4,0, "grower.go:60",#[⟨1,.data⟩],none⟩ HS0 ?_;simp only [Act.put,sA,s0,sS]
  refine tk 3 ⟨some 9,.load 212 (.tmp 8),212, "grower.go:60",#[⟨2,.data⟩],none⟩ HS0 ?_;simp only [Act.put,sA,s0,sS]
  refine tk 4 ⟨some 10,.load 219 (.tmp 3),219, "grower.go:60",#[],none⟩ HS0 ?_;simp only [Act.put,sA,s0,sS]
  refine wpAnyL_one' (i:=5) (o:=⟨some 11,.call ⟨.value (.func 178),#[.tmp 9,.tmp 10],#[212,219]⟩,4, "grower.go:60",#[⟨3,.data⟩,⟨4,.data⟩],none⟩) (by kernel_rfl) rfl rfl (fun K hK=>?_)
  go_simp
  refine HN.mono ?_
  rintro e W1 ⟨rfl,hM1,hb1⟩
  have hb1':But (fun k=>k=Bb) w0 W1:=(But.refl _ _).drew.trans hb1
  have cw:∀ {b o:Nat} {v:Value},b≠Bb→w0.cell? ⟨b,o,none⟩=some v→W1.cell? ⟨b,o,none⟩=some v:=fun {b o v} hbn hv=>(hb1'.cell (p:=⟨b,o,none⟩) (World.block_lt_of_cell? _ _ hv) hbn).trans hv
  have hS1:(W1.cell? ⟨G,4,none⟩=some (.map (some Bb))∧W1.cell? ⟨w.heap.size,0,none⟩=some (.int .i64 sy)∧W1.cell? ⟨w.heap.size,1,none⟩=some (.int .i64 t)):=⟨cw (by omega) HH.out.g4,cw (by omega) y0,cw (by omega) y1⟩
  refine hK.out _ _ (fun _=>hS1) ?_
  clear hK HN
  refine tk 6 ⟨some 12,.unOp .not 4 (.tmp 11),4, "grower.go:60",#[⟨5,.data⟩],none⟩ hS1 ?_;simp only [Act.put,sA,s0,sS]
  refine wpAnyL_done (by kernel_rfl) ?_ _
  have HG1:Hid (GS Bi Bc Bb G V lv L C (begS S sy t) W1):=by
    have h:=HH.out
    have hm:MapSet 219 val2 Bb (begS S sy t) W1:=hM1
    exact ⟨h.o1,h.o2,h.o3,Nat.lt_of_lt_of_le h.lt hb1'.size,cw (by omega) h.g0,cw (by omega) h.g1,cw (by omega) h.g2,cw (by omega) h.g3,cw (by omega) h.g4,(hb1'.frozen (p:=⟨G,2,none⟩) h.lt (by simp only; omega)).trans h.fz,h.mi.but hb1' (by omega),h.mc.but hb1' (by omega),hm,ownsRow_but h.own hb1' (fun j hj _=>by omega)⟩
  have HB1:Hid (But (fun k=>¬ P k) w W1):=(But.of_next Bx).trans (hb1'.mono (fun k _ hk hp=>(HAP.out.1 k hp).2.2.2.1 hk))
  have HBW1:Below Bi w W1:=(Bx.mono (by omega)).trans (hb1'.below (by omega) (fun k hk=>by omega))
  have hs1:w.heap.size<W1.heap.size:=Nat.lt_of_lt_of_le hwl hb1'.size
  by_cases hin:((sy:Int),t)∈S
  · have hdc:decide (((sy:Int),t)∈S)=true:=by simpa using hin
    have e1:begS S sy t=S:=by unfold begS; rw [if_pos hin]
    have e2:begL1 f L S sy t=L:=by unfold begL1; rw [if_pos hin]
    have HF:Hid (GS Bi Bc Bb G V lv L C S W1∧Apt P Bi Bc Bb G lv W1∧But (fun k=>¬ P k) w W1):=⟨by have:=HG1.out; rwa [e1] at this,HAP.out.next HB1.out.size,HB1.out⟩
    rw [hdc]
    clear HG1 hS1 cw hM1 HH HS0 hdc hin hb1 hb1' HVW HBW1 HBG
    go_wp2_with fail
    refine bodyPost_ret (results_none rfl _ _ _) rfl ?_
    exact ⟨rfl,lv,by rw [e1,e2]; exact HF.out.1,HF.out.2.1,HF.out.2.2⟩
  have hdc:decide (((sy:Int),t)∈S)=false:=by simpa using hin
  have e2:Hid (begL1 f L S sy t=PL.foldl (fun (L:List Ir) (q:Int)=>addI L (q,0,t)) L):=by show begL1 f L S sy t=_; unfold begL1; rw [if_neg hin]; exact HBG.out
  rw [hdc]
  simp only [Bool.not_false]
  obtain ⟨k5,kr,_,hVB,hpB⟩:=HVW.out _ HBW1
  have z0:=hS1.2.1
  have z1:=hS1.2.2
  have hg0:=HG1.out.g0
  have hS2:(W1.drew.cell? ⟨G,0,none⟩=some (.pointer (some ⟨V,0,none⟩))∧W1.drew.cell? ⟨V,5,none⟩=some (.slice (some ⟨pb,po,none⟩) f.n pc)∧W1.drew.cell? ⟨pb,po+sy,none⟩=some (.slice ra PL.length rc)∧W1.drew.cell? ⟨w.heap.size,0,none⟩=some (.int .i64 sy)∧W1.drew.cell? ⟨w.heap.size,1,none⟩=some (.int .i64 t)):=⟨hg0,k5,kr,z0,z1⟩
  have hsyn:(sy:Int)<f.n:=by omega
  obtain ⟨S',hS'⟩:∃ S',begS S sy t=S':=⟨_,rfl⟩
  have HSE:Hid (begS S sy t=S'):=hS'
  rw [hS'] at HG1
  clear hS' hS1 cw hM1 HH HS0 hdc hin hb1 hb1' HBG
  have HAP1:Hid (Apt (fun k=>P k∨k=w.heap.size) Bi Bc Bb G lv W1):=⟨fun k hk=>by
      rcases hk with hk | hk
      · exact ⟨Nat.lt_of_lt_of_le (HAP.out.1 k hk).1 (by omega),(HAP.out.1 k hk).2⟩
      · subst hk; exact ⟨hs1,by omega,by omega,by omega,by omega⟩,fun k e hk=>by
      rcases hk with hk | hk
      · exact HAP.out.2 k e hk
      · have:=HOL.out k e; omega⟩
  go_wp2_with fail
  refine wp_region_L (fun W=>W.cell? ⟨G,0,none⟩=some (.pointer (some ⟨V,0,none⟩))∧W.cell? ⟨V,5,none⟩=some (.slice (some ⟨pb,po,none⟩) f.n pc)∧W.cell? ⟨pb,po+sy,none⟩=some (.slice ra PL.length rc)∧W.cell? ⟨w.heap.size,0,none⟩=some (.int .i64 sy)∧W.cell? ⟨w.heap.size,1,none⟩=some (.int .i64 t)) 13 (by kernel_rfl) 13 rfl ?_
  refine tk 0 ⟨some 13,.move (.tmp 0),186, "grower.go:63",#[],none⟩ hS2 ?_;simp only [Act.put,sA,s0,sS]
  refine tk 1 ⟨some 14,.nilCheck (.tmp 13),0, "grower.go:63",#[⟨0,.data⟩],none⟩ hS2 ?_;simp only [Act.put,sA,s0,sS]
  refine tk 2 ⟨some 15,.fieldAddr 214 (.tmp 14) 0,0, "grower.go:63",#[⟨1,.data⟩],none⟩ hS2 ?_;simp only [Act.put,sA,s0,sS]
  refine tk 3 ⟨some 16,.load 111 (.tmp 15),111, "grower.go:63",#[⟨2,.data⟩],none⟩ hS2 ?_;simp only [Act.put,sA,s0,sS]
  refine tk 4 ⟨some 17,.nilCheck (.tmp 16),0, "grower.go:63",#[⟨3,.data⟩],none⟩ hS2 ?_;simp only [Act.put,sA,s0,sS]
  refine tk 5 ⟨some 18,.fieldAddr 152 (.tmp 17) 3,0, "grower.go:63",#[⟨4,.data⟩],none⟩ hS2 ?_;simp only [Act.put,sA,s0,sS]
  refine tk 6 ⟨some 19,.load 149 (.tmp 18),149, "grower.go:63",#[⟨5,.data⟩],none⟩ hS2 ?_;simp only [Act.put,sA,s0,sS]
  refine tk 7 ⟨some 20,.fieldAddr 219 (.tmp 3) 0,0, "grower.go:63",#[],none⟩ hS2 ?_;simp only [Act.put,sA,s0,sS]
  refine tk 8 ⟨some 21,.load 3 (.tmp 20),3, "grower.go:63",#[⟨7,.data⟩],none⟩ hS2 ?_;simp only [Act.put,sA,s0,sS]
  refine tk 9 ⟨some 22,.indexAddr 149 (.tmp 19) (.tmp 21),0, "grower.go:63",#[⟨6,.data⟩,⟨8,.data⟩],none⟩ hS2 ?_;simp only [Act.put,sA,s0,sS]
  refine tk 10 ⟨some 23,.load 43 (.tmp 22),43, "grower.go:63",#[⟨9,.data⟩],none⟩ hS2 ?_;simp only [Act.put,sA,s0,sS]
  refine tk 11 ⟨some 24,.call ⟨.builtin .len,#[.tmp 23],#[43]⟩,3, "grower.go:63",#[⟨10,.data⟩],none⟩ hS2 ?_;simp only [Act.put,sA,s0,sS]
  refine tk 12 ⟨some 25,.move (.const (.int .i64 0)),3, "grower.go:63",#[],none⟩ hS2 ?_;simp only [Act.put,sA,s0,sS]
  refine wpAnyL_done (by kernel_rfl) ?_ _
  clear hS2 k5 kr hg0
  go_wp2_with fail
  go_loopw [25] (fun i wr=>∃ (j:Nat) (lv':Value),i=.int .i64 j∧j≤PL.length∧GS Bi Bc Bb G V lv' ((PL.take j).foldl (fun (L:List Ir) (q:Int)=>addI L (q,0,t)) L) C S' wr∧Apt (fun k=>P k∨k=w.heap.size) Bi Bc Bb G lv' wr∧But (fun k=>¬ (P k∨k=w.heap.size)) W1 wr) (fun i _=>PL.length - (intOf i).toNat)
  case atStart=>exact ⟨0,lv,rfl,Nat.zero_le _,HG1.out.next (Below.refl _ _).drew,HAP1.out,(But.refl _ _).drew⟩
  case round =>
  obtain ⟨j,lv',rfl,hj,hGS,hAp,hBt⟩:=hrel
  have hBw:Below Bi w wr:=HBW1.trans (hBt.below (by omega) (fun k hk=>Nat.le_of_not_lt (fun h=>hk (.inl (HPB.out k h)))))
  have x1:wr.cell? ⟨w.heap.size,1,none⟩=some (.int .i64 t):=(hBt.cell (p:=⟨w.heap.size,1,none⟩) hs1 (fun h=>h (.inr rfl))).trans z1
  have hle:=HLE.out
  by_cases hlt:j<PL.length
  · obtain ⟨_,_,hrow,_,_⟩:=HVW.out _ hBw
    obtain ⟨rb,ro,rfl,hrb,hc⟩:=hrow j PL[j] (by simp [hlt])
    have hT:=foldI_take (t:=t) (L:=L) hlt
    have hLn:=foldI_len t (PL.take j) L
    have hok:=HOK.out PL[j] (by simp)
    generalize PL[j]=q at *
    have HT:Hid ((PL.take (j+1)).foldl (fun (L:List Ir) (q:Int)=>addI L (q,0,t)) L=addI ((PL.take j).foldl (fun (L:List Ir) (q:Int)=>addI L (q,0,t)) L) (q,0,t)):=hT
    have hP1:=gput_any _ Bi Bc Bb G V lv' _ C S' (q,0,t) wr hGS ⟨hok,(show i64B 0 by unfold i64B; omega),ht⟩ hAp (by have h1:=HLE.out; have h2:(PL.take j).length≤PL.length:=(by rw [List.length_take]; exact Nat.min_le_right _ _); omega)
    unfold valR at hP1
    simp only at hP1
    rw [← hT] at hP1
    clear hT hrow hLn hGS hAp HG1 HAP1
    simp only [encI] at hc
    go_wp2_with fail
    refine hP1.mono ?_
    rintro e W3 ⟨rfl,lv2,g2,a2,b2⟩
    have HF:Hid (GS Bi Bc Bb G V lv2 ((PL.take (j+1)).foldl (fun (L:List Ir) (q:Int)=>addI L (q,0,t)) L) C S' W3∧Apt (fun k=>P k∨k=w.heap.size) Bi Bc Bb G lv2 W3∧But (fun k=>¬ (P k∨k=w.heap.size)) W1 W3):=⟨g2,a2,hBt.trans b2⟩
    clear g2 a2 b2 hP1 hc
    go_wp2_with fail
    exact ⟨⟨j+1,lv2,by go_num,by omega,HF.out⟩,by simp [intOf]; omega⟩
  · obtain rfl:j=PL.length:=by omega
    rw [List.take_of_length_le (Nat.le_refl _)] at hGS
    have HF:Hid (GS Bi Bc Bb G V lv' (PL.foldl (fun (L:List Ir) (q:Int)=>addI L (q,0,t)) L) C S' wr∧Apt P Bi Bc Bb G lv' wr∧But (fun k=>¬ P k) w wr):=⟨hGS,⟨fun k hk=>hAp.1 k (.inl hk),fun k e hk=>hAp.2 k e (.inl hk)⟩,HB1.out.trans (hBt.mono (fun k _ hk hp=>hk (.inl hp)))⟩
    clear hGS hAp HG1 HAP1
    go_wp2_with fail
    go_end0
    exact ⟨rfl,lv',by rw [e2.out,HSE.out]; exact HF.out.1,HF.out.2.1,HF.out.2.2⟩
end Go.Proofs.YtbilbgjojdlobaaGreatDoor
namespace Go.Proofs.YtbilbgjojdlobaaGreatDoor
open Go.RowKit Go.Shelf
attribute [local go_sem] Oper.semAt_some
set_option maxRecDepth 100000 in
set_option maxHeartbeats 1000000 in
theorem yieldAll_in (n:Nat) (hn:1≤n) (l N:Nat) (xs:List Int) (xa:Option Addr) (xc:Nat) (Ok:Int→Prop) (Fx:World→Prop) (J:(Nat→Prop)→List Int→World→Prop) (hF:Feeds (n - 1) Tryz.prog l (fun x=>#[.int .i64 x]) N Ok Fx J) (A:Nat→Prop) (pre:List Int) (W:World)
    (hJ:J A pre W) (hlen:pre.length+xs.length≤N) (hm:xs.length≤1000000) (hOk:∀ q∈xs,Ok q) (hx:∀ j,j<xs.length→∃ b off,xa=some ⟨b,off,none⟩∧A b∧∃ q,xs[j]?=some q∧W.cell? ⟨b,off+j,none⟩=some (.int .i64 q)) :
    CallsIn Fence.wide n Tryz.prog 177 #[.slice xa xs.length xc,.func (.yield l) #[] #[]] W fun e W'=>e=.returned (.bool true)∧J A (pre++xs) W'∧But (fun k=>¬ A k) W W':=by
  refine callsIn_of_wp Tryz.func177 rfl trivial ?_ rfl
  simp only [Tryz.ntmps177,List.size_toArray,List.length_cons,List.length_nil,Nat.reduceAdd,Nat.reduceSub,Array.replicate_succ,Array.replicate_zero,List.push_toArray,List.append_toArray,List.nil_append,List.cons_append]
  have HF:Hid (Feeds (n - 1) Tryz.prog l (fun x=>#[.int .i64 x]) N Ok Fx J):=hF
  have HX:Hid (∀ j,j<xs.length→∃ b off,xa=some ⟨b,off,none⟩∧A b∧∃ q,xs[j]?=some q∧W.cell? ⟨b,off+j,none⟩=some (.int .i64 q)):=hx
  have HJ:Hid (J A pre W):=hJ
  clear hF hx hJ
  gi_wp2
  gi_loopw [9] (fun i wr=>∃ (j:Nat),i=.int .i64 j∧j≤xs.length∧J A (pre++xs.take j) wr∧But (fun k=>¬ A k) W wr) (fun i _=>xs.length - (intOf i).toNat)
  case atStart=>exact ⟨0,rfl,Nat.zero_le _,by simpa using HJ.out,But.refl _ _⟩
  case round =>
    obtain ⟨j,rfl,hj,hJ,hB⟩:=hrel
    by_cases hlt:j<xs.length
    · obtain ⟨b,off,rfl,hA,q,hq,hc⟩:=HX.out j hlt
      have hbl:=World.block_lt_of_cell? _ _ hc
      have hc2:wr.cell? ⟨b,off+j,none⟩=some (.int .i64 q):=(hB.cell (p:=⟨b,off+j,none⟩) hbl (fun h=>h hA)).trans hc
      have hT:pre++xs.take (j+1)=(pre++xs.take j)++[q]:=by
        rw [List.take_add_one,hq]
        simp
      have HT:Hid (pre++xs.take (j+1)=(pre++xs.take j)++[q]):=hT
      obtain ⟨fn,tmps,assign,body,hy,hR⟩:=HF.out.yield A (pre++xs.take j) q wr hJ (hOk q (List.mem_of_getElem? hq)) (by simp; omega)
      clear hT hc hq hJ HJ
      gi_wp2
      refine hR.mono ?_
      rintro e W3 ⟨rfl,hJ3,hB3⟩
      have HF3:Hid (J A (pre++xs.take (j+1)) W3∧But (fun k=>¬ A k) W W3):=⟨by rw [HT.out]; exact hJ3,hB.trans hB3⟩
      clear hJ3 hB3 hR hy hc2
      gi_wp2
      go_roundw
      case rel=>exact ⟨j+1,by go_num,by omega,HF3.out.1,HF3.out.2⟩
      case measure=>simp [intOf]; omega
    · obtain rfl:j=xs.length:=by omega
      rw [List.take_of_length_le (Nat.le_refl _)] at hJ
      have HF3:Hid (J A (pre++xs) wr∧But (fun k=>¬ A k) W wr):=⟨hJ,hB⟩
      clear hJ HJ HX HF
      gi_wp2
      go_ret
      exact ⟨rfl,HF3.out.1,HF3.out.2⟩
end Go.Proofs.YtbilbgjojdlobaaGreatDoor
namespace Go.Proofs.YtbilbgjojdlobaaGreatDoor
open Go.RowKit
theorem SlT.lt {l:List It} {ad:Addr} {n c:Nat} {W:World} (h:SlT l (.slice (some ad) n c) W) (hl:l≠[]):ad.block<W.heap.size:=by
  obtain ⟨ao,cap,h0,h1,_⟩:=h
  cases h0
  obtain ⟨x,l',rfl⟩:=List.exists_cons_of_ne_nil hl
  obtain ⟨b,off,e,hb,_⟩:=h1 0 x rfl
  cases e; exact hb
set_option maxRecDepth 100000 in
set_option maxHeartbeats 1000000 in
theorem right2_any (f:Fl) (a:FlA) (p:Int) (wv w:World) (hf:FlAt f a wv) (hbv:Below wv.heap.size wv w) (hn:f.n≤600) (h1:-1≤p) (h2:p<f.prods.length) :
    Calls Tryz.prog 100 #[a.val f,.int .i64 p] w fun e w'=>∃ v,e=.returned v∧SlT (rightI f p) v w'∧(∀ ad n c,v=.slice (some ad) n c→rightI f p≠[]→ad.block<wv.heap.size∨w.heap.size≤ad.block)∧Below w.heap.size w w':=by
  obtain ⟨ta,tc,na,nc,pa,pc⟩:=a
  have X0:=FBox.new f ⟨ta,tc,na,nc,pa,pc⟩ 25 w
  have B0:Below w.heap.size w (w.alloc (fobj f ⟨ta,tc,na,nc,pa,pc⟩ 25)):=(Below.refl _ _).alloc (Nat.le_refl _) _
  have hP:=hf.2.2.1
  clear hf
  unfold fobj at X0 B0
  unfold FlA.val
  simp only at *
  by_cases hw:p=-1
  · subst hw
    have HW:=slT_whole f hn 55 (w.alloc (Obj.cells #[Value.slice ta f.terms.length tc,Value.slice na f.nons.length nc,Value.slice pa f.prods.length pc] 25)) (w.heap.size+1) (by simp)
    have HR:Hid (SlT (rightI f (-1)) (.slice (some ⟨w.heap.size+1,0,none⟩) 1 1) ((w.alloc (Obj.cells #[Value.slice ta f.terms.length tc,Value.slice na f.nons.length nc,Value.slice pa f.prods.length pc] 25)).alloc (Obj.cells #[.int .i64 f.terms.length,.string ⟨#[]⟩,.string ⟨#[]⟩] 55))):=by
      rw [rightI_neg (by omega)]; exact HW
    clear HW hP
    go_enter Tryz.func100,Tryz.ntmps100
    go_wp2_with fail
    go_ret
    exact ⟨_,rfl,HR.out,fun ad n c e _=>by cases e; exact .inr (by simp only; omega),B0.alloc B0.size _⟩
  · obtain ⟨k,rfl⟩:∃ k:Nat,p=k:=⟨p.toNat,by omega⟩
    have hk:k<f.prods.length:=by omega
    obtain ⟨b,off,v,rfl,hb,d0,d1,d2,hvv,_⟩:=hP.at (Below.refl _ _) hk
    have BV:=hbv.trans (B0.mono hbv.size)
    have c0:=(BV.cell (p:=⟨b,off+k * 3,none⟩) hb).trans d0
    have c1:=(BV.cell (p:=⟨b,off+k * 3+1,none⟩) hb).trans d1
    have c2:=(BV.cell (p:=⟨b,off+k * 3+2,none⟩) hb).trans d2
    have hv:=hvv.next BV
    have HLT:Hid (∀ ad n c,v=.slice (some ad) n c→rightI f k≠[]→ad.block<wv.heap.size∨w.heap.size≤ad.block):=fun ad n c e hne'=>by
      subst e
      rw [rightI_nat (List.getElem?_eq_getElem hk)] at hne'
      exact .inl (hvv.lt hne')
    clear hvv d0 d1 d2 BV
    have HR:Hid (SlT (rightI f k) v (w.alloc (Obj.cells #[Value.slice ta f.terms.length tc,Value.slice na f.nons.length nc,Value.slice (some ⟨b,off,none⟩) f.prods.length pc] 25))):=by
      rw [rightI_nat (List.getElem?_eq_getElem hk)]; exact hv
    have hw':((k:Int) == -1)=false:=by simp
    obtain ⟨va,vc,rfl,_⟩:=hv
    generalize f.prods[k]=q at *
    clear hP
    go_enter Tryz.func100,Tryz.ntmps100
    go_wp2_with fail
    go_ret
    exact ⟨_,rfl,HR.out,HLT.out,B0⟩
def outL (R:List (List Int)) (Le:List Bool) (fresh:Bool):List Nat→Int→List Int
  | [],k=>[k]
  | s :: r,k=>(if fresh=true then rowAt R s else [])++(if onb Le s=true then outL R Le fresh r k else [])
def coreS (C:List (Int × Int)) (x:Ir):List (Int × Int):=if (x.1,x.2.1)∈C then C else C++[(x.1,x.2.1)]
set_option maxHeartbeats 400000 in
theorem looks_any (G:Nat) (x:Ir) (w:World) :
    Calls Tryz.prog 157 #[.pointer (some ⟨G,0,none⟩),valR x] w fun e w'=>e=.returned (.func (.func 175) #[] #[.pointer (some ⟨w.heap.size,0,none⟩),.pointer (some ⟨w.heap.size+1,0,none⟩)])∧∃ ty,w'=(w.alloc (Obj.cells #[.pointer (some ⟨G,0,none⟩)] ty)).alloc (Obj.cells #[.int .i64 x.1,.int .i64 x.2.1,.int .i64 x.2.2] 77):=by
  unfold valR
  go_enter Tryz.func157,Tryz.ntmps157
  go_wp2_with fail
  go_ret
  exact ⟨rfl,_,rfl⟩
end Go.Proofs.YtbilbgjojdlobaaGreatDoor
