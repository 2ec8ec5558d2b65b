import Derived.Test.YtbilbgjojdlobaaGreatDoorJ03
import Derived.Test.YtbilbgjojdlobaaGreatDoorJ04
import Derived.Test.YtbilbgjojdlobaaGreatDoorJ06
import Derived.Test.YtbilbgjojdlobaaGreatDoorJ08
import Derived.Test.YtbilbgjojdlobaaGreatDoorJ09

namespace Go.Proofs.YtbilbgjojdlobaaGreatDoor
open Go.RowKit
def OwnLI (B:Nat) (R:List (List Int)) (v:Value) (W:World):Prop :=
  ∃ hv:List Value,hv.length=R.length∧QRow (fun k=>B≤k∧inB v k) 1 v R.length hv W ∧
    ∀ (i:Nat) (l:List Int) (u:Value),R[i]?=some l→hv[i]?=some u→SlI l u W∧∀ ad n c,u=.slice (some ad) n c→B≤ad.block∧(l≠[]→¬ inB v ad.block)
theorem SlI.lt {l:List Int} {ad:Addr} {n c:Nat} {W:World} (h:SlI l (.slice (some ad) n c) W) (hl:l≠[]):ad.block<W.heap.size:=by
  obtain ⟨ao,cap,h0,h1,_⟩:=h
  cases h0
  obtain ⟨x,l',rfl⟩:=List.exists_cons_of_ne_nil hl
  obtain ⟨b,off,e,hb,_⟩:=h1 0 x rfl
  cases e; exact hb
theorem OwnLI.nil (B:Nat) (W:World):OwnLI B [] (.slice none 0 0) W:=⟨[],rfl,QRow.nil _ _ _,fun i l u h=>by simp at h⟩
theorem OwnLI.but {B:Nat} {D:Nat→Prop} {R:List (List Int)} {v:Value} {W W':World} (h:OwnLI B R v W) (hb:But D W W') (hd:∀ k,D k→k<W.heap.size→k<B):OwnLI B R v W':=by
  obtain ⟨hv,h0,h1,h2⟩:=h
  have hb':But (fun k=>D k∧k<W.heap.size) W W':=hb.mono (fun k hk h=>⟨h,hk⟩)
  refine ⟨hv,h0,h1.but hb' (fun k hk hd'=>?_),fun i l u hl hu=>⟨(h2 i l u hl hu).1.but hb' (fun ad n c e hne hd'=>?_),(h2 i l u hl hu).2⟩⟩
  · have:=hd k hd'.1 hd'.2; have:=hk.1; omega
  · have:=hd _ hd'.1 hd'.2; have:=((h2 i l u hl hu).2 ad n c e).1; omega
theorem OwnLI.next {B:Nat} {R:List (List Int)} {v:Value} {W W':World} (h:OwnLI B R v W) (hb:Below W.heap.size W W'):OwnLI B R v W' :=
  h.but (D:=fun _=>False) (But.of_next hb) (fun _ h=>h.elim)
theorem OwnLI.shape {B:Nat} {R:List (List Int)} {v:Value} {W:World} (h:OwnLI B R v W):∃ ao cap,v=.slice ao R.length cap:=by
  obtain ⟨hv,h0,h1,h2⟩:=h
  exact h1.shape
theorem OwnLI.sl {B:Nat} {R:List (List Int)} {v:Value} {W:World} (h:OwnLI B R v W):SlR R v W:=by
  obtain ⟨hv,h0,⟨ao,b,off,cap,rfl,hc,_⟩,h2⟩:=h
  refine ⟨ao,cap,rfl,fun i l hl=>?_,fun hn=>?_,hc.le⟩
  · have hi:i<R.length:=(List.getElem?_eq_some_iff.1 hl).1
    have hcp:0<cap:=by have:=hc.le; omega
    have hu:hv[i]?=some hv[i]:=by simp [h0,hi]
    exact ⟨b,off,hv[i],hc.addr hcp,hc.lt hcp,hc.olds i _ hu,(h2 i l _ hl hu).1⟩
  · rcases Nat.eq_zero_or_pos cap with h | h
    · exact h
    · rw [hn] at hc; have:=hc.addr h; cases this
theorem OwnLI.inLt {B:Nat} {R:List (List Int)} {v:Value} {W:World} {k:Nat} (h:OwnLI B R v W) (hk:inB v k):k<W.heap.size:=by
  obtain ⟨off,n,c,e,hz⟩:=hk
  obtain ⟨hv,h0,⟨ao,b,off',cap,e',hc,_⟩,h2⟩:=h
  rw [e] at e'; cases e'
  have h3:=hc.addr hz
  cases h3
  exact hc.lt hz
theorem OwnLI.grow {B:Nat} {R:List (List Int)} {v lv:Value} {l:List Int} {W:World} (h:OwnLI B R v W) (hB:B≤W.heap.size) (hl:SlI l lv W) (ha:∀ ad n c,lv=.slice (some ad) n c→B≤ad.block∧(l≠[]→¬ inB v ad.block)) :
    ∃ (hv:List Value) (D:Nat→Prop),QRow D 1 v R.length hv W∧(∀ k,W.heap.size≤k→D k)∧(∀ k,D k→B≤k)∧∀ v' W',QRow D 1 v' (R.length+1) (hv++[lv]) W'→But D W W'→OwnLI B (R++[l]) v' W':=by
  obtain ⟨hv,h0,h1,h2⟩:=h
  refine ⟨hv,fun k=>(B≤k∧inB v k)∨W.heap.size≤k,h1.mono (fun k _ hk=>.inl hk),fun k hk=>.inr hk,fun k hk=>?_,fun v' W' hq hb=>⟨hv++[lv],by simp [h0],?_,?_⟩⟩
  · rcases hk with h | h
    · exact h.1
    · exact Nat.le_trans hB h
  · have:=hq.exact.mono (E:=fun k=>B≤k∧inB v' k) (fun k _ hk=>⟨?_,hk.2.1⟩)
    · simpa using this
    · rcases hk.1 with h | h
      · exact h.1
      · exact Nat.le_trans hB h
  · have hnew:∀ k,inB v' k→(B≤k∧inB v k)∨W.heap.size≤k:=by
      intro k hk
      obtain ⟨ao,b,off,cap,e,hc,hD⟩:=hq
      obtain ⟨off',n',c',e',_⟩:=hk
      have hcp:0<cap:=by have:=hc.le; omega
      rw [e,hc.addr hcp] at e'
      cases e'
      exact hD hcp
    intro i l' u hl' hu
    have key:SlI l' u W∧∀ ad n c,u=.slice (some ad) n c→B≤ad.block∧(l'≠[]→¬ inB v ad.block):=by
      rcases Nat.lt_or_ge i R.length with hi | hi
      · rw [List.getElem?_append_left hi] at hl'
        rw [List.getElem?_append_left (by omega)] at hu
        exact h2 i l' u hl' hu
      · rw [List.getElem?_append_right hi] at hl'
        rw [List.getElem?_append_right (by omega),h0] at hu
        rcases hj:i - R.length with _ | j
        · rw [hj] at hl' hu; simp at hl' hu; subst hl' hu; exact ⟨hl,ha⟩
        · rw [hj] at hl'; simp at hl'
    have kd:∀ ad n c,u=.slice (some ad) n c→l'≠[]→¬ ((B≤ad.block∧inB v ad.block)∨W.heap.size≤ad.block):=fun ad n c e hne hd=>by
      rcases hd with hd | hd
      · exact (key.2 ad n c e).2 hne hd.2
      · have:=(e ▸ key.1:SlI l' (.slice (some ad) n c) W).lt hne; omega
    exact ⟨key.1.but hb kd,fun ad n c e=>⟨(key.2 ad n c e).1,fun hne hin=>kd ad n c e hne (hnew _ hin)⟩⟩
def NoP:Nat→Prop:=fun _=>False
theorem bases_no {f:Fl}:(fun s=>false=true∧s<f.terms.length)=NoP:=by funext s; simp [NoP]
set_option maxHeartbeats 1000000 in
theorem empty_any (f:Fl) (a:FlA) (w:World) (hf:FlAt f a w) (hp:FitP f) :
    Calls Tryz.prog 91 #[a.val f] w fun e w'=>∃ v L,e=.returned v∧GivesB NoP f.gr f.n L∧SlB L v w'∧Below w.heap.size w w':=by
  have HSO:Hid (∀ W,Below w.heap.size w W→Calls Tryz.prog 123 #[a.val f] W fun e w'=>e=.returned (.bool true)∧Below W.heap.size W w'):=fun W hb=>sound_any f a W (hf.next hb) hp
  have HDE:Hid (∀ W,Below w.heap.size w W→Calls Tryz.prog 124 #[a.val f,.bool false] W fun e w'=>∃ G L,e=.returned (.slice (some ⟨G,0,none⟩) f.n f.n)∧(GivesB NoP f.gr f.n L∧SlB L (.slice (some ⟨G,0,none⟩) f.n f.n) w')∧Below W.heap.size W w'):=fun W hb=>by
    refine (derived_any f a false W (hf.next hb) hp).mono ?_
    rintro e w' ⟨G,L,rfl,_,h1,h2,h3⟩
    rw [bases_no] at h2
    exact ⟨G,L,rfl,⟨h2,h1.slB⟩,h3⟩
  have X0:=FBox.new f a 25 w
  have B0:Below w.heap.size w (w.alloc (fobj f a 25)):=(Below.refl _ _).alloc (Nat.le_refl _) _
  obtain ⟨ta,tc,na,nc,pa,pc⟩:=a
  unfold fobj at X0 B0
  unfold FlA.val at HSO HDE ⊢
  simp only at *
  clear hf hp
  go_enter Tryz.func91,Tryz.ntmps91
  go_wp2_with fail
  try generalize (w.alloc (Obj.cells #[Value.slice ta f.terms.length tc,Value.slice na f.nons.length nc,Value.slice pa f.prods.length pc] 25))=W1 at *
  refine (HSO.out _ B0).mono ?_
  rintro e w1 ⟨rfl,hb1⟩
  have X1:=X0.next hb1
  have B1:=below_then B0 hb1 B0.size
  obtain ⟨x0,x1,x2,x3⟩:=X1
  simp only at x1 x2 x3
  clear X0 B0 hb1 HSO
  go_wp2_with fail
  refine (HDE.out _ B1).mono ?_
  rintro e w2 ⟨G,L,rfl,g1,g2⟩
  have HF:Hid ((GivesB NoP f.gr f.n L∧SlB L (.slice (some ⟨G,0,none⟩) f.n f.n) w2)∧Below w.heap.size w w2):=⟨g1,below_then B1 g2 B1.size⟩
  clear g1 g2 HDE x0 x1 x2 x3
  go_wp2_with fail
  go_ret
  exact ⟨_,L,rfl,HF.out.1.1,HF.out.1.2,HF.out.2⟩
def ofsL (f:Fl) (j:Nat):List (List Int):=(List.range j).map fun (s:Nat)=>ofA f (s:Int)
theorem ofsL_succ (f:Fl) (j:Nat):ofsL f (j+1)=ofsL f j++[ofA f (j:Int)]:=by unfold ofsL; rw [List.range_succ,List.map_append]; rfl
theorem ofsL_len (f:Fl) (j:Nat):(ofsL f j).length=j:=by simp [ofsL]
def VwAt (f:Fl) (a:FlA) (V:Nat) (Le:List Bool) (R:List (List Int)) (W:World):Prop :=
  FBox f a V W∧∃ ve vf vp,W.cell? ⟨V,3,none⟩=some ve∧W.cell? ⟨V,4,none⟩=some vf∧W.cell? ⟨V,5,none⟩=some vp∧SlB Le ve W∧SlR R vf W∧SlR (ofsL f f.n) vp W
theorem VwAt.next {f:Fl} {a:FlA} {V:Nat} {Le:List Bool} {R:List (List Int)} {W W':World} (h:VwAt f a V Le R W) (hb:Below W.heap.size W W'):VwAt f a V Le R W':=by
  obtain ⟨h0,ve,vf,vp,h1,h2,h3,h4,h5,h6⟩:=h
  have hv:=h0.1
  exact ⟨h0.next hb,ve,vf,vp,(hb.cell (p:=⟨V,3,none⟩) hv).trans h1,(hb.cell (p:=⟨V,4,none⟩) hv).trans h2,(hb.cell (p:=⟨V,5,none⟩) hv).trans h3,h4.next hb,h5.next hb,h6.next hb⟩
def Viewed (f:Fl) (a:FlA) (w:World) (e:Ending) (w':World):Prop:=∃ V Le R,e=.returned (.pointer (some ⟨V,0,none⟩))∧w.heap.size≤V∧GivesB NoP f.gr f.n Le∧GivesR (FstP f) f.n R∧VwAt f a V Le R w'∧Below w.heap.size w w'
theorem infoSI:(Tryz.prog.info? 43).map (fun i=>(i.zero,i.size,i.bytes))=some (some (.slice none 0 0),1,24):=by kernel_rfl
set_option maxRecDepth 100000 in
set_option maxHeartbeats 2000000 in
theorem iview_any (f:Fl) (a:FlA) (w:World) (hf:FlAt f a w) (hp:FitP f) (hT:Tb w) :
    Calls Tryz.prog 58 #[a.val f] w fun e w'=>Viewed f a w e w':=by
  have hn:f.n≤600:=hp.size
  obtain ⟨i0,hi0,hz0,hz1,hz2⟩:=info_parts infoSI
  have HEM:Hid (∀ W,Below w.heap.size w W→Calls Tryz.prog 91 #[a.val f] W fun e w'=>∃ v L,e=.returned v∧GivesB NoP f.gr f.n L∧SlB L v w'∧Below W.heap.size W w'):=fun W hb=>empty_any f a W (hf.next hb) hp
  have HFI:Hid (∀ W,Below w.heap.size w W→Calls Tryz.prog 92 #[a.val f] W fun e w'=>∃ v R,e=.returned v∧GivesR (FstP f) f.n R∧SlR R v w'∧Below W.heap.size W w'):=fun W hb=>first_any f a W (hf.next hb) hp (hT.next hb)
  have HOF:Hid (∀ (s:Int) (W:World),Below w.heap.size w W→Calls Tryz.prog 93 #[a.val f,.int .i64 s] W fun e w'=>∃ v,e=.returned v∧SlI (ofA f s) v w'∧Apart W.heap.size v∧Below W.heap.size W w'):=fun s W hb=>of_any f a s W (hf.next hb) (by have:=hp.prods; omega)
  obtain ⟨ta,tc,na,nc,pa,pc⟩:=a
  have X0:=FBox.new f ⟨ta,tc,na,nc,pa,pc⟩ 25 w
  have B0:Below w.heap.size w (w.alloc (fobj f ⟨ta,tc,na,nc,pa,pc⟩ 25)):=(Below.refl _ _).alloc (Nat.le_refl _) _
  unfold fobj at X0 B0
  unfold FlA.val at HEM HFI HOF ⊢
  have hn2:f.terms.length+f.nons.length≤600:=hn
  have HN:Hid (f.n=f.terms.length+f.nons.length):=rfl
  simp only at *
  clear hf hp hn hT
  go_enter Tryz.func58,Tryz.ntmps58
  go_wp2_with fail
  generalize w.alloc (Obj.cells #[Value.slice ta f.terms.length tc,Value.slice na f.nons.length nc,Value.slice pa f.prods.length pc] 25)=w0 at *
  have HX:Hid (∀ W,Below w0.heap.size w0 W→FBox f ⟨ta,tc,na,nc,pa,pc⟩ w.heap.size W):=fun W hb=>X0.next hb
  have HB:Hid (∀ W,Below w0.heap.size w0 W→Below w.heap.size w W):=fun W hb=>below_then B0 hb B0.size
  have hszw:w.heap.size<w0.heap.size:=X0.1
  clear X0 B0
  have HSI:Hid (∀ W,Below w0.heap.size w0 W→(W.cell? ⟨w.heap.size,0,none⟩=some (.slice ta f.terms.length tc)∧W.cell? ⟨w.heap.size,1,none⟩=some (.slice na f.nons.length nc)∧W.cell? ⟨w.heap.size,2,none⟩=some (.slice pa f.prods.length pc)∧Below w0.heap.size w0 W)):=fun W hb=>by
    obtain ⟨_,k0,k1,k2⟩:=HX.out _ hb
    exact ⟨k0,k1,k2,hb⟩
  have HS0:=HSI.out _ (Below.refl _ _).drew
  have HEM1:=HEM.out w0.drew (HB.out _ (Below.refl _ _).drew)
  refine wp_region_L (fun W=>W.cell? ⟨w.heap.size,0,none⟩=some (.slice ta f.terms.length tc)∧W.cell? ⟨w.heap.size,1,none⟩=some (.slice na f.nons.length nc)∧W.cell? ⟨w.heap.size,2,none⟩=some (.slice pa f.prods.length pc)∧Below w0.heap.size w0 W) 8 (by kernel_rfl) 8 rfl ?_
  refine tk 0 ⟨some 5,.load 25 (.tmp 1),25, "view.go:18",#[],none⟩ HS0 ?_;simp only [Act.put,sA,s0,sS]
  refine tk 1 ⟨some 6,.load 25 (.tmp 1),25, "view.go:18",#[],none⟩ HS0 ?_;simp only [Act.put,sA,s0,sS]
  refine tk 3 ⟨some 8,.load 25 (.tmp 1),25, "view.go:18",#[],none⟩ HS0 ?_;simp only [Act.put,sA,s0,sS]
  refine wpAnyL_one' (i:=2) (o:=⟨some 7,.call ⟨.value (.func 91),#[.tmp 6],#[25]⟩,147, "view.go:18",#[⟨1,.data⟩],none⟩) (by kernel_rfl) rfl rfl (fun K hK=>?_)
  go_simp
  refine HEM1.mono ?_
  rintro e W1 ⟨ve,Le,rfl,hLe,hse,hb1⟩
  have B1:Below w0.heap.size w0 W1:=below_then (Below.refl _ _).drew hb1 (Nat.le_refl _)
  have hS1:=HSI.out _ B1
  refine hK.out _ _ (fun _=>hS1) ?_
  clear hK HEM1
  obtain ⟨ea,ec,rfl,_⟩:=id hse
  have HSE:Hid (SlB Le (.slice ea Le.length ec) W1):=hse
  have HLE:Hid (GivesB NoP f.gr f.n Le):=hLe
  clear hse hLe hb1
  have HFI1:=HFI.out W1 (HB.out _ B1)
  refine wpAnyL_one' (i:=4) (o:=⟨some 9,.call ⟨.value (.func 92),#[.tmp 8],#[25]⟩,149, "view.go:18",#[⟨3,.data⟩,⟨2,.chain⟩],none⟩) (by kernel_rfl) rfl rfl (fun K hK=>?_)
  go_simp
  refine HFI1.mono ?_
  rintro e W2 ⟨vf,R,rfl,hR,hsr,hb2⟩
  have B2:Below w0.heap.size w0 W2:=below_then B1 hb2 B1.size
  have hS2:=HSI.out _ B2
  refine hK.out _ _ (fun _=>hS2) ?_
  clear hK HFI1
  obtain ⟨fa,fc,rfl,_⟩:=id hsr
  have HSR:Hid (SlR R (.slice fa R.length fc) W2):=hsr
  have HRR:Hid (GivesR (FstP f) f.n R):=hR
  have HSE2:Hid (SlB Le (.slice ea Le.length ec) W2):=HSE.out.next hb2
  clear hsr hR hb2 HSE
  refine tk 5 ⟨some 10,.build 152 #[(0,.tmp 5),(1,.tmp 7),(2,.tmp 9)],152, "view.go:18",#[⟨0,.data⟩,⟨2,.data⟩,⟨4,.data⟩],none⟩ hS2 ?_;simp only [Act.put,sA,s0,sS]
  refine wpAnyL_one' (i:=6) (o:=⟨some 11,.box 152 (.tmp 10),111, "view.go:18",#[⟨5,.data⟩],none⟩) (by kernel_rfl) rfl rfl (fun K hK=>?_)
  go_simp
  have B3:Below w0.heap.size w0 (W2.alloc (Obj.cells #[.slice ta f.terms.length tc,.slice na f.nons.length nc,.slice pa f.prods.length pc,.slice ea Le.length ec,.slice fa R.length fc,.slice none 0 0] 152)):=B2.alloc B2.size _
  refine hK.out _ _ (fun _=>HSI.out _ B3) ?_
  clear hK
  refine wpAnyL_take' (i:=7) (v:=?_) (oi:=⟨some 3,.assign (.tmp 11),111, "view.go:18",#[⟨6,.data⟩,⟨4,.chain⟩,⟨0,.phase⟩,⟨1,.phase⟩,⟨2,.phase⟩,⟨3,.phase⟩,⟨4,.phase⟩,⟨5,.phase⟩,⟨6,.phase⟩],none⟩) rfl (by kernel_rfl) (by kernel_rfl) (by kernel_rfl) (by kernel_rfl) rfl (fun _ _ _ h=>h) (Or.inl ⟨by rfl,?_⟩) (HSI.out _ B3) ?_
  rotate_left
  · intro W hSW
    go_simp
    try with_reducible rfl
  simp only [Act.put,sA,s0,sS]
  refine wpAnyL_done (by kernel_rfl) ?_ _
  have HVC:Hid (W2.heap.size<(W2.alloc (Obj.cells #[.slice ta f.terms.length tc,.slice na f.nons.length nc,.slice pa f.prods.length pc,.slice ea Le.length ec,.slice fa R.length fc,.slice none 0 0] 152)).heap.size∧((W2.alloc (Obj.cells #[.slice ta f.terms.length tc,.slice na f.nons.length nc,.slice pa f.prods.length pc,.slice ea Le.length ec,.slice fa R.length fc,.slice none 0 0] 152)).cell? ⟨W2.heap.size,0,none⟩=some (.slice ta f.terms.length tc)∧(W2.alloc (Obj.cells #[.slice ta f.terms.length tc,.slice na f.nons.length nc,.slice pa f.prods.length pc,.slice ea Le.length ec,.slice fa R.length fc,.slice none 0 0] 152)).cell? ⟨W2.heap.size,1,none⟩=some (.slice na f.nons.length nc)∧(W2.alloc (Obj.cells #[.slice ta f.terms.length tc,.slice na f.nons.length nc,.slice pa f.prods.length pc,.slice ea Le.length ec,.slice fa R.length fc,.slice none 0 0] 152)).cell? ⟨W2.heap.size,2,none⟩=some (.slice pa f.prods.length pc)∧(W2.alloc (Obj.cells #[.slice ta f.terms.length tc,.slice na f.nons.length nc,.slice pa f.prods.length pc,.slice ea Le.length ec,.slice fa R.length fc,.slice none 0 0] 152)).cell? ⟨W2.heap.size,3,none⟩=some (.slice ea Le.length ec)∧(W2.alloc (Obj.cells #[.slice ta f.terms.length tc,.slice na f.nons.length nc,.slice pa f.prods.length pc,.slice ea Le.length ec,.slice fa R.length fc,.slice none 0 0] 152)).cell? ⟨W2.heap.size,4,none⟩=some (.slice fa R.length fc))∧(W2.alloc (Obj.cells #[.slice ta f.terms.length tc,.slice na f.nons.length nc,.slice pa f.prods.length pc,.slice ea Le.length ec,.slice fa R.length fc,.slice none 0 0] 152)).cell? ⟨W2.heap.size,5,none⟩=some (.slice none 0 0)∧(W2.alloc (Obj.cells #[.slice ta f.terms.length tc,.slice na f.nons.length nc,.slice pa f.prods.length pc,.slice ea Le.length ec,.slice fa R.length fc,.slice none 0 0] 152)).frozen? ⟨W2.heap.size,5,none⟩=false):=by
    refine ⟨?_,⟨?_,?_,?_,?_,?_⟩,?_,?_⟩ <;> simp
  have BV:Below W2.heap.size W2 (W2.alloc (Obj.cells #[.slice ta f.terms.length tc,.slice na f.nons.length nc,.slice pa f.prods.length pc,.slice ea Le.length ec,.slice fa R.length fc,.slice none 0 0] 152)):=(Below.refl _ _).alloc (Nat.le_refl _) _
  clear HS0 hS1 hS2 HEM HFI B1
  have hsz2:=B2.size
  have HST:Hid (∃ vp,(W2.alloc (Obj.cells #[.slice ta f.terms.length tc,.slice na f.nons.length nc,.slice pa f.prods.length pc,.slice ea Le.length ec,.slice fa R.length fc,.slice none 0 0] 152)).cell? ⟨W2.heap.size,5,none⟩=some vp∧(W2.alloc (Obj.cells #[.slice ta f.terms.length tc,.slice na f.nons.length nc,.slice pa f.prods.length pc,.slice ea Le.length ec,.slice fa R.length fc,.slice none 0 0] 152)).frozen? ⟨W2.heap.size,5,none⟩=false∧((W2.alloc (Obj.cells #[.slice ta f.terms.length tc,.slice na f.nons.length nc,.slice pa f.prods.length pc,.slice ea Le.length ec,.slice fa R.length fc,.slice none 0 0] 152)).cell? ⟨W2.heap.size,0,none⟩=some (.slice ta f.terms.length tc)∧(W2.alloc (Obj.cells #[.slice ta f.terms.length tc,.slice na f.nons.length nc,.slice pa f.prods.length pc,.slice ea Le.length ec,.slice fa R.length fc,.slice none 0 0] 152)).cell? ⟨W2.heap.size,1,none⟩=some (.slice na f.nons.length nc)∧(W2.alloc (Obj.cells #[.slice ta f.terms.length tc,.slice na f.nons.length nc,.slice pa f.prods.length pc,.slice ea Le.length ec,.slice fa R.length fc,.slice none 0 0] 152)).cell? ⟨W2.heap.size,2,none⟩=some (.slice pa f.prods.length pc)∧(W2.alloc (Obj.cells #[.slice ta f.terms.length tc,.slice na f.nons.length nc,.slice pa f.prods.length pc,.slice ea Le.length ec,.slice fa R.length fc,.slice none 0 0] 152)).cell? ⟨W2.heap.size,3,none⟩=some (.slice ea Le.length ec)∧(W2.alloc (Obj.cells #[.slice ta f.terms.length tc,.slice na f.nons.length nc,.slice pa f.prods.length pc,.slice ea Le.length ec,.slice fa R.length fc,.slice none 0 0] 152)).cell? ⟨W2.heap.size,4,none⟩=some (.slice fa R.length fc))∧W2.heap.size<(W2.alloc (Obj.cells #[.slice ta f.terms.length tc,.slice na f.nons.length nc,.slice pa f.prods.length pc,.slice ea Le.length ec,.slice fa R.length fc,.slice none 0 0] 152)).heap.size∧OwnLI (W2.heap.size+1) (ofsL f 0) vp (W2.alloc (Obj.cells #[.slice ta f.terms.length tc,.slice na f.nons.length nc,.slice pa f.prods.length pc,.slice ea Le.length ec,.slice fa R.length fc,.slice none 0 0] 152))∧Below W2.heap.size W2 (W2.alloc (Obj.cells #[.slice ta f.terms.length tc,.slice na f.nons.length nc,.slice pa f.prods.length pc,.slice ea Le.length ec,.slice fa R.length fc,.slice none 0 0] 152))):=⟨_,HVC.out.2.2.1,HVC.out.2.2.2,HVC.out.2.1,HVC.out.1,OwnLI.nil _ _,BV⟩
  have B4:Below w0.heap.size w0 (W2.alloc (Obj.cells #[.slice ta f.terms.length tc,.slice na f.nons.length nc,.slice pa f.prods.length pc,.slice ea Le.length ec,.slice fa R.length fc,.slice none 0 0] 152)):=below_then B2 BV hsz2
  obtain ⟨_,k0,k1,k2⟩:=HX.out _ B4
  simp only at k0 k1 k2
  clear HVC BV B4
  generalize (W2.alloc (Obj.cells #[.slice ta f.terms.length tc,.slice na f.nons.length nc,.slice pa f.prods.length pc,.slice ea Le.length ec,.slice fa R.length fc,.slice none 0 0] 152))=W4 at *
  obtain ⟨V,hV⟩:∃ V,W2.heap.size=V:=⟨_,rfl⟩
  have HV:Hid (W2.heap.size=V):=hV
  rw [hV] at HST hsz2 ⊢
  clear hV
  have hwV:w.heap.size<V:=by omega
  have HBW:Hid (∀ W,Below V W2 W→Below w0.heap.size w0 W):=fun W hb=>by rw [← HV.out] at hb; exact below_then B2 hb B2.size
  clear B3 B2
  go_wp2_with fail
  go_loopw [19] (fun i wr=>∃ (j:Nat) (vp:Value),i=.int .i64 j∧j≤f.n∧wr.cell? ⟨V,5,none⟩=some vp∧wr.frozen? ⟨V,5,none⟩=false∧(wr.cell? ⟨V,0,none⟩=some (.slice ta f.terms.length tc)∧wr.cell? ⟨V,1,none⟩=some (.slice na f.nons.length nc)∧wr.cell? ⟨V,2,none⟩=some (.slice pa f.prods.length pc)∧wr.cell? ⟨V,3,none⟩=some (.slice ea Le.length ec)∧wr.cell? ⟨V,4,none⟩=some (.slice fa R.length fc))∧V<wr.heap.size∧OwnLI (V+1) (ofsL f j) vp wr∧Below V W2 wr) (fun i _=>f.n - (intOf i).toNat)
  case atStart =>
    obtain ⟨vp,h⟩:=HST.out
    exact ⟨0,vp,rfl,Nat.zero_le _,h⟩
  case round =>
  clear HST k0 k1 k2
  obtain ⟨j,vp,rfl,hj,c5,fz,hVC,hVl,hO,B1⟩:=hrel
  obtain ⟨va,vc,rfl⟩:=hO.shape
  rw [ofsL_len] at c5 hO
  have hBw:=HBW.out _ B1
  obtain ⟨_,k0,k1,k2⟩:=HX.out _ hBw
  simp only at k0 k1 k2
  by_cases hlt:j<f.n
  case neg =>
    obtain rfl:j=f.n:=by omega
    have hnk:¬ ((f.n:Int)<(f.terms.length:Int)+f.nons.length):=by have:=HN.out; omega
    have HF:Hid (w.heap.size≤V∧GivesB NoP f.gr f.n Le∧GivesR (FstP f) f.n R∧VwAt f ⟨ta,tc,na,nc,pa,pc⟩ V Le R wr∧Below w.heap.size w wr) :=
      ⟨by omega,HLE.out,HRR.out,⟨⟨hVl,hVC.1,hVC.2.1,hVC.2.2.1⟩,_,_,_,hVC.2.2.2.1,hVC.2.2.2.2,c5,HSE2.out.next (by rw [HV.out]; exact B1),HSR.out.next (by rw [HV.out]; exact B1),by simpa [ofsL_len] using hO.sl⟩,HB.out _ hBw⟩
    clear hVC hO c5 k0 k1 k2
    go_wp2_with fail
    go_ret
    exact ⟨V,Le,R,rfl,HF.out⟩
  have hkn:(j:Int)<(f.terms.length:Int)+f.nons.length:=by have:=HN.out; omega
  have HVC:Hid (wr.cell? ⟨V,0,none⟩=some (.slice ta f.terms.length tc)∧wr.cell? ⟨V,1,none⟩=some (.slice na f.nons.length nc)∧wr.cell? ⟨V,2,none⟩=some (.slice pa f.prods.length pc)∧wr.cell? ⟨V,3,none⟩=some (.slice ea Le.length ec)∧wr.cell? ⟨V,4,none⟩=some (.slice fa R.length fc)):=hVC
  have HO:Hid (OwnLI (V+1) (ofsL f j) (.slice va j vc) wr):=hO
  have HSJ:Hid (∀ W,But (fun k=>V+1≤k) wr W→(W.cell? ⟨w.heap.size,0,none⟩=some (.slice ta f.terms.length tc)∧W.cell? ⟨w.heap.size,1,none⟩=some (.slice na f.nons.length nc)∧W.cell? ⟨w.heap.size,2,none⟩=some (.slice pa f.prods.length pc)∧W.cell? ⟨V,5,none⟩=some (.slice va j vc))):=fun W hb=>⟨(hb.cell (p:=⟨w.heap.size,0,none⟩) (by simp only; omega) (by simp only; omega)).trans k0,(hb.cell (p:=⟨w.heap.size,1,none⟩) (by simp only; omega) (by simp only; omega)).trans k1,(hb.cell (p:=⟨w.heap.size,2,none⟩) (by simp only; omega) (by simp only; omega)).trans k2,(hb.cell (p:=⟨V,5,none⟩) (by simp only; omega) (by simp only; omega)).trans c5⟩
  have HS0:=HSJ.out wr.drew (But.refl _ _).drew
  have HO1:=HOF.out (j:Int) wr.drew (HB.out _ hBw.drew)
  clear hVC hO
  go_wp2_with fail
  refine wp_region_L (fun W=>W.cell? ⟨w.heap.size,0,none⟩=some (.slice ta f.terms.length tc)∧W.cell? ⟨w.heap.size,1,none⟩=some (.slice na f.nons.length nc)∧W.cell? ⟨w.heap.size,2,none⟩=some (.slice pa f.prods.length pc)∧W.cell? ⟨V,5,none⟩=some (.slice va j vc)) 12 (by kernel_rfl) 13 rfl ?_
  refine tk 0 ⟨some 22,.move (.tmp 3),111, "view.go:20",#[],none⟩ HS0 ?_;simp only [Act.put,sA,s0,sS]
  refine tk 1 ⟨some 23,.move (.tmp 3),111, "view.go:20",#[],none⟩ HS0 ?_;simp only [Act.put,sA,s0,sS]
  refine tk 2 ⟨some 24,.nilCheck (.tmp 23),0, "view.go:20",#[⟨1,.data⟩],none⟩ HS0 ?_;simp only [Act.put,sA,s0,sS]
  refine tk 3 ⟨some 25,.fieldAddr 152 (.tmp 24) 3,0, "view.go:20",#[⟨2,.data⟩],none⟩ HS0 ?_;simp only [Act.put,sA,s0,sS]
  refine tk 4 ⟨some 26,.load 149 (.tmp 25),149, "view.go:20",#[⟨3,.data⟩],none⟩ HS0 ?_;simp only [Act.put,sA,s0,sS]
  refine tk 5 ⟨some 27,.load 25 (.tmp 1),25, "view.go:20",#[],none⟩ HS0 ?_;simp only [Act.put,sA,s0,sS]
  refine tk 6 ⟨some 28,.move (.tmp 4),3, "view.go:20",#[],none⟩ HS0 ?_;simp only [Act.put,sA,s0,sS]
  refine wpAnyL_one' (i:=7) (o:=⟨some 29,.call ⟨.value (.func 93),#[.tmp 27,.tmp 28],#[25,3]⟩,43, "view.go:20",#[⟨5,.data⟩,⟨6,.data⟩],none⟩) (by kernel_rfl) rfl rfl (fun K hK=>?_)
  go_simp
  refine HO1.mono ?_
  rintro e W5 ⟨uv,rfl,hu,hap,hb5⟩
  have Bw5:Below wr.heap.size wr W5:=below_then (Below.refl _ _).drew hb5 (Nat.le_refl _)
  have hS5:=HSJ.out _ (But.of_next Bw5)
  refine hK.out _ _ (fun _=>hS5) ?_
  clear hK HO1
  obtain ⟨ua,uc,rfl,_⟩:=id hu
  have hsz5:=Bw5.size
  have Bn:Below W5.heap.size W5 (W5.alloc (Obj.cells #[.slice ua (ofA f j).length uc] 43)):=(Below.refl _ _).alloc (Nat.le_refl _) _
  have Bw6:Below wr.heap.size wr (W5.alloc (Obj.cells #[.slice ua (ofA f j).length uc] 43)):=below_then Bw5 Bn hsz5
  have HO6:OwnLI (V+1) (ofsL f j) (.slice va j vc) (W5.alloc (Obj.cells #[.slice ua (ofA f j).length uc] 43)):=HO.out.next Bw6
  obtain ⟨hv,D,hQ,hD,hDB,hgrow⟩:=HO6.grow (by have:=Bw6.size; omega) (hu.next Bn) (fun ad n c e=>⟨by have h1:wr.heap.size≤ad.block:=hap ad n c e; omega,fun hne hin=>by have h1:wr.heap.size≤ad.block:=hap ad n c e; have h2:=HO.out.inLt hin; omega⟩)
  rw [ofsL_len] at hQ hgrow
  rw [← ofsL_succ] at hgrow
  have HQ:Hid (QRow D 1 (.slice va j vc) j hv (W5.alloc (Obj.cells #[.slice ua (ofA f j).length uc] 43))):=hQ
  have HD:Hid (∀ k,(W5.alloc (Obj.cells #[.slice ua (ofA f j).length uc] 43)).heap.size≤k→D k):=hD
  have HDB:Hid (∀ k,D k→V+1≤k):=hDB
  have HGR:Hid (∀ v' W',QRow D 1 v' (j+1) (hv++[.slice ua (ofA f j).length uc]) W'→But D (W5.alloc (Obj.cells #[.slice ua (ofA f j).length uc] 43)) W'→OwnLI (V+1) (ofsL f (j+1)) v' W'):=hgrow
  have HNW:Hid (∀ (q:Nat) (u:Value),[Value.slice ua (ofA f j).length uc][q]?=some u→(W5.alloc (Obj.cells #[.slice ua (ofA f j).length uc] 43)).cell? ((⟨W5.heap.size,0,none⟩:Addr).add q)=some u):=by
    intro q u hq
    rcases q with _ | q
    · simp at hq; subst hq; simp [Addr.add]
    · simp at hq
  clear hQ hD hDB hgrow HO6 hu hap hb5
  refine wpAnyL_one' (i:=8) (o:=⟨some 30,.buildSlice 149 1 #[(0,.tmp 29)],149, "view.go:20",#[⟨7,.data⟩],none⟩) (by kernel_rfl) rfl rfl (fun K hK=>?_)
  go_simp
  refine hK.out _ _ (fun _=>HSJ.out _ (But.of_next Bw6)) ?_
  clear hK
  refine wpAnyL_one' (i:=9) (o:=⟨some 31,.call ⟨.builtin .append,#[.tmp 26,.tmp 30],#[149,149]⟩,149, "view.go:20",#[⟨4,.data⟩,⟨8,.data⟩,⟨7,.chain⟩],none⟩) (by kernel_rfl) rfl rfl (fun K hK=>?_)
  rw [if_pos (by rfl)]
  refine wp_append_q (.tmp 26) (.tmp 30) 149 rfl 43 i0 _ 1 24 Tryz.underlying149 hi0 hz0 hz1 hz2 rfl (by decide) rfl HQ.out HD.out ⟨W5.heap.size,0,none⟩ 1 [.slice ua (ofA f j).length uc] rfl rfl HNW.out (by simp [Value.oneCell']) (by unfold maxLen; omega) (by omega) ?_
  intro v7 w7 hq7 hb7
  obtain ⟨qa7,qc7,rfl⟩:=hq7.shape
  have BT:But (fun k=>V+1≤k) wr w7:=(But.of_next Bw6).trans (hb7.mono (fun k _ h=>HDB.out k h))
  have hS7:=HSJ.out _ BT
  have fz7:w7.frozen? ⟨V,5,none⟩=false:=(BT.frozen (p:=⟨V,5,none⟩) hVl (by simp only; omega)).trans fz
  refine hK.out _ _ (fun _=>hS7) ?_
  clear hK
  simp only [Act.put,sA,s0,sS]
  refine wpAnyL_one' (i:=10) (o:=⟨some 32,.nilCheck (.tmp 22),0, "view.go:20",#[⟨0,.data⟩,⟨0,.phase⟩,⟨1,.phase⟩,⟨2,.phase⟩,⟨3,.phase⟩,⟨4,.phase⟩,⟨5,.phase⟩,⟨6,.phase⟩,⟨7,.phase⟩,⟨8,.phase⟩,⟨9,.phase⟩],none⟩) (by kernel_rfl) rfl rfl (fun K hK=>?_)
  go_simp
  refine hK.out _ _ (fun _=>hS7) ?_
  clear hK
  refine wpAnyL_one' (i:=11) (o:=⟨some 33,.fieldAddr 152 (.tmp 32) 3,0, "view.go:20",#[⟨10,.data⟩,⟨0,.phase⟩,⟨1,.phase⟩,⟨2,.phase⟩,⟨3,.phase⟩,⟨4,.phase⟩,⟨5,.phase⟩,⟨6,.phase⟩,⟨7,.phase⟩,⟨8,.phase⟩,⟨9,.phase⟩],none⟩) (by kernel_rfl) rfl rfl (fun K hK=>?_)
  go_simp
  refine hK.out _ _ (fun _=>hS7) ?_
  clear hK
  refine wpAnyL_one' (i:=12) (o:=⟨none,.store 149 (.tmp 33) (.tmp 31),0, "view.go:20",#[⟨11,.data⟩,⟨9,.data⟩,⟨9,.chain⟩,⟨0,.phase⟩,⟨1,.phase⟩,⟨2,.phase⟩,⟨3,.phase⟩,⟨4,.phase⟩,⟨5,.phase⟩,⟨6,.phase⟩,⟨7,.phase⟩,⟨8,.phase⟩,⟨9,.phase⟩],none⟩) (by kernel_rfl) rfl rfl (fun K hK=>?_)
  go_simp
  refine hK.out _ _ (fun h=>absurd h (by decide)) ?_
  clear hK
  refine wpAnyL_done (by kernel_rfl) ?_ _
  have BV7:Below V W2 w7:=(B1.trans (Bw6.mono (by omega))).trans (hb7.below (by have:=Bw6.size; omega) (fun k hk=>by have:=HDB.out k hk; omega))
  have hV7:V<w7.heap.size:=Nat.lt_of_lt_of_le hVl BT.size
  have HE:Hid ((w7.setCell ⟨V,5,none⟩ (.slice qa7 (j+1) qc7)).cell? ⟨V,5,none⟩=some (.slice qa7 (j+1) qc7)∧(w7.setCell ⟨V,5,none⟩ (.slice qa7 (j+1) qc7)).frozen? ⟨V,5,none⟩=false∧((w7.setCell ⟨V,5,none⟩ (.slice qa7 (j+1) qc7)).cell? ⟨V,0,none⟩=some (.slice ta f.terms.length tc)∧(w7.setCell ⟨V,5,none⟩ (.slice qa7 (j+1) qc7)).cell? ⟨V,1,none⟩=some (.slice na f.nons.length nc)∧(w7.setCell ⟨V,5,none⟩ (.slice qa7 (j+1) qc7)).cell? ⟨V,2,none⟩=some (.slice pa f.prods.length pc)∧(w7.setCell ⟨V,5,none⟩ (.slice qa7 (j+1) qc7)).cell? ⟨V,3,none⟩=some (.slice ea Le.length ec)∧(w7.setCell ⟨V,5,none⟩ (.slice qa7 (j+1) qc7)).cell? ⟨V,4,none⟩=some (.slice fa R.length fc))∧V<(w7.setCell ⟨V,5,none⟩ (.slice qa7 (j+1) qc7)).heap.size∧OwnLI (V+1) (ofsL f (j+1)) (.slice qa7 (j+1) qc7) (w7.setCell ⟨V,5,none⟩ (.slice qa7 (j+1) qc7))∧Below V W2 (w7.setCell ⟨V,5,none⟩ (.slice qa7 (j+1) qc7))):=by
    have oc:∀ {o:Nat} {v:Value},o≠5→wr.cell? ⟨V,o,none⟩=some v→(w7.setCell ⟨V,5,none⟩ (.slice qa7 (j+1) qc7)).cell? ⟨V,o,none⟩=some v:=fun {o v} ho hv=>by
      rw [World.cell?_setCell_other _ _ _ _ (fun e=>ho (by cases e; rfl)),BT.cell (p:=⟨V,o,none⟩) hVl (by simp only; omega)]
      exact hv
    have hc:=HVC.out
    refine ⟨World.cell?_setCell_same _ _ _ hS7.2.2.2,by rw [World.frozen?_setCell]; exact fz7,⟨oc (by omega) hc.1,oc (by omega) hc.2.1,oc (by omega) hc.2.2.1,oc (by omega) hc.2.2.2.1,oc (by omega) hc.2.2.2.2⟩,by simpa [World.setCell] using hV7,(HGR.out _ _ hq7 hb7).but (D:=fun k=>k=V) ((But.refl _ _).setCell _ _ (.inr rfl)) (fun k hk _=>by omega),BV7.setCell (Nat.le_refl _) _⟩
  clear HVC HO HSJ HQ HD HDB HGR HNW hq7 hb7 BT hS7 fz7 BV7 hV7 Bw6 Bw5 Bn hS5 HS0 k0 k1 k2 c5 fz
  generalize (w7.setCell ⟨V,5,none⟩ (.slice qa7 (j+1) qc7))=w8 at *
  go_wp2_with fail
  exact ⟨⟨j+1,_,by go_num,by omega,HE.out⟩,by simp [intOf]; omega⟩
def rowsM (f:Fl) (l:List Ir) (j:Nat):List (List Ir):=(List.range f.n).map fun (s:Nat)=>movedL f (l.take j) (s:Int)
theorem rowsM_len (f:Fl) (l:List Ir) (j:Nat):(rowsM f l j).length=f.n:=by simp [rowsM]
theorem rowsM_get {f:Fl} {l:List Ir} {j s:Nat} (h:s<f.n):(rowsM f l j)[s]?=some (movedL f (l.take j) (s:Int)):=by simp [rowsM,h]
theorem rowsM_zero (f:Fl) (l:List Ir):rowsM f l 0=List.replicate f.n []:=by
  unfold rowsM
  apply List.ext_getElem
  · simp
  · intro i h1 h2
    simp [movedL]
theorem rowsM_none {f:Fl} {l:List Ir} {j:Nat} (h:j<l.length) (hn:nextI f l[j]=none):rowsM f l (j+1)=rowsM f l j:=by
  unfold rowsM
  refine List.map_congr_left (fun s _=>?_)
  rw [movedL_take h,if_neg (by rw [hn]; simp),List.append_nil]
theorem rowsM_some {f:Fl} {l:List Ir} {j s:Nat} (h:j<l.length) (hs:s<f.n) (hn:nextI f l[j]=some (s:Int)):rowsM f l (j+1)=(rowsM f l j).set s (movedL f (l.take j) (s:Int)++[(l[j].1,l[j].2.1+1,l[j].2.2)]):=by
  apply List.ext_getElem?
  intro i
  rw [List.getElem?_set,rowsM_len]
  rcases Nat.lt_or_ge i f.n with hi | hi
  · rw [rowsM_get hi,movedL_take h]
    by_cases e:s=i
    · subst e
      rw [if_pos rfl,if_pos hs,if_pos hn]
    · rw [if_neg e,rowsM_get hi,if_neg (by rw [hn]; simp; omega),List.append_nil]
  · rw [if_neg (by omega),List.getElem?_eq_none (by rw [rowsM_len]; omega),List.getElem?_eq_none (by rw [rowsM_len]; omega)]
theorem rowsM_all (f:Fl) (l:List Ir):(rowsM f l l.length).filter (fun K=>!K.isEmpty)=kernsL f l:=by
  unfold rowsM kernsL kernsFrom
  rw [List.take_of_length_le (Nat.le_refl _),List.range_eq_range']
def ByAt (G:Nat) (Rs:List (List Ir)) (W:World):Prop :=
  G<W.heap.size∧∃ hv:List Value,hv.length=Rs.length∧(∀ (s:Nat) (u:Value),hv[s]?=some u→W.cell? ⟨G,s,none⟩=some u∧W.frozen? ⟨G,s,none⟩=false) ∧
    (∀ (s:Nat) (l:List Ir) (u:Value),Rs[s]?=some l→hv[s]?=some u→QRow (fun k=>G<k∧inB u k) 3 u l.length (l.flatMap encR) W) ∧
    (∀ (s s':Nat) (u u':Value) (k:Nat),hv[s]?=some u→hv[s']?=some u'→inB u k→inB u' k→s=s')
theorem ByAt.next {G:Nat} {Rs:List (List Ir)} {W W':World} (h:ByAt G Rs W) (hb:Below W.heap.size W W'):ByAt G Rs W':=by
  obtain ⟨h0,hv,h1,h2,h3,h4⟩:=h
  exact ⟨Nat.lt_of_lt_of_le h0 hb.size,hv,h1,fun s u hu=>⟨(hb.cell (p:=⟨G,s,none⟩) h0).trans (h2 s u hu).1,(World.frozen?_of_block (hb.block _ h0)).trans (h2 s u hu).2⟩,fun s l u hl hu=>(h3 s l u hl hu).next hb,h4⟩
theorem not_inB_nil (k:Nat):¬ inB (.slice none 0 0) k:=by
  rintro ⟨o,n,c,e,_⟩; cases e
theorem ByAt.made {W W1:World} {N:Nat} (h:W1.ownsRow W.heap.size 64 1 (.slice (some ⟨W.heap.size,0,none⟩) N N) N (madeCells #[Value.slice none 0 0] N).toList) (hlt:W.heap.size<W1.heap.size):ByAt W.heap.size (List.replicate N []) W1:=by
  rw [toList_madeCells_one] at h
  refine ⟨hlt,List.replicate N (.slice none 0 0),by simp,fun s u hu=>?_,fun s l u hl hu=>?_,fun s s' u u' k hu hu' hk=>?_⟩
  · have:=World.ownsRow.cells h (g:=W.heap.size) rfl s u hu
    rw [add_plain,Nat.zero_add] at this
    exact ⟨this,World.ownsRow.frozenAt h _⟩
  · rw [List.getElem?_replicate] at hl hu
    split at hl
    · cases hl
      rw [if_pos (by assumption)] at hu
      cases hu
      exact QRow.nil _ _ _
    · cases hl
  · rw [List.getElem?_replicate] at hu
    split at hu
    · cases hu; exact absurd hk (not_inB_nil k)
    · cases hu
theorem QRow.inb {D:Nat→Prop} {size:Nat} {v:Value} {n:Nat} {xs:List Value} {W:World} (h:QRow D size v n xs W) {k:Nat} (hk:inB v k):D k∧k<W.heap.size:=by
  obtain ⟨ao,b,off,cap,e,hc,hD⟩:=h
  obtain ⟨off',n',c',e',hcp⟩:=hk
  rw [e] at e'
  cases e'
  have:=hc.addr hcp
  cases this
  exact ⟨hD hcp,hc.lt hcp⟩
theorem ByAt.grow {G:Nat} {Rs:List (List Ir)} {W:World} {s:Nat} {l:List Ir} (h:ByAt G Rs W) (hl:Rs[s]?=some l) :
    ∃ u,W.cell? ⟨G,s,none⟩=some u∧W.frozen? ⟨G,s,none⟩=false∧(∃ ua uc,u=.slice ua l.length uc)∧QRow (fun k=>(G<k∧inB u k)∨W.heap.size≤k) 3 u l.length (l.flatMap encR) W ∧
      ∀ (x:Ir) (W1:World) (v':Value) (W':World),Below W.heap.size W W1→QRow (fun k=>(G<k∧inB u k)∨W.heap.size≤k) 3 v' (l.length+1) (l.flatMap encR++encR x) W'→But (fun k=>(G<k∧inB u k)∨W.heap.size≤k) W1 W' →
        W'.cell? ⟨G,s,none⟩=some u∧W'.frozen? ⟨G,s,none⟩=false∧ByAt G (Rs.set s (l++[x])) (W'.setCell ⟨G,s,none⟩ v')∧Below G W (W'.setCell ⟨G,s,none⟩ v'):=by
  obtain ⟨h0,hv,h1,h2,h3,h4⟩:=h
  have hs:=(List.getElem?_eq_some_iff.1 hl).1
  obtain ⟨u,hu⟩:∃ u,hv[s]?=some u:=⟨_,List.getElem?_eq_getElem (by omega)⟩
  have hq:=h3 s l u hl hu
  refine ⟨u,(h2 s u hu).1,(h2 s u hu).2,?_,hq.mono (fun k _ hk=>.inl hk),fun x W1 v' W' hb hq' hbt=>?_⟩
  · obtain ⟨ao,b,off,cap,e,_⟩:=hq
    exact ⟨ao,cap,e⟩
  have hb':But (fun k=>(G<k∧inB u k)∨W.heap.size≤k) W W':=(But.of_next hb).trans hbt
  have nG:¬ ((G<G∧inB u G)∨W.heap.size≤G):=by omega
  have hc:∀ s' u',hv[s']?=some u'→W'.cell? ⟨G,s',none⟩=some u'∧W'.frozen? ⟨G,s',none⟩=false:=fun s' u' hu'=>⟨(hb'.cell (p:=⟨G,s',none⟩) h0 nG).trans (h2 s' u' hu').1,(hb'.frozen (p:=⟨G,s',none⟩) h0 nG).trans (h2 s' u' hu').2⟩
  have hin:∀ k,inB v' k→(G<k∧inB u k)∨W.heap.size≤k:=fun k hk=>(hq'.inb hk).1
  have hGk:∀ k,inB v' k→G<k:=fun k hk=>by
    rcases hin k hk with h | h <;> omega
  have BS:But (fun k=>k=G) W' (W'.setCell ⟨G,s,none⟩ v'):=(But.refl _ _).setCell _ _ (.inr rfl)
  have hset:∀ s' u',(hv.set s v')[s']?=some u'→(s'=s∧u'=v')∨(s'≠s∧hv[s']?=some u'):=fun s' u' hu'=>by
    rw [List.getElem?_set] at hu'
    by_cases e:s=s'
    · rw [if_pos e,if_pos (by omega)] at hu'
      cases hu'; exact .inl ⟨e.symm,rfl⟩
    · rw [if_neg e] at hu'; exact .inr ⟨fun h=>e h.symm,hu'⟩
  refine ⟨(hc s u hu).1,(hc s u hu).2,⟨Nat.lt_of_lt_of_le h0 (Nat.le_trans hb'.size BS.size),hv.set s v',by simp [h1],fun s' u' hu'=>?_,fun s' l' u' hl' hu'=>?_,fun s' s'' u' u'' k hu' hu'' hk hk'=>?_⟩,(hb'.below (by omega) (fun k hk=>by omega)).trans (BS.below (by have:=hb'.size; omega) (fun k hk=>by omega))⟩
  · rw [World.frozen?_setCell]
    rcases hset s' u' hu' with ⟨rfl,rfl⟩ | ⟨hne,hu'⟩
    · exact ⟨World.cell?_setCell_same _ _ _ (hc s' u hu).1,(hc s' u hu).2⟩
    · exact ⟨(World.cell?_setCell_other _ _ _ _ (fun e=>hne (by cases e; rfl))).trans (hc s' u' hu').1,(hc s' u' hu').2⟩
  · rw [List.getElem?_set] at hl'
    rcases hset s' u' hu' with ⟨rfl,rfl⟩ | ⟨hne,hu'⟩
    · rw [if_pos rfl,if_pos hs] at hl'
      cases hl'
      have hq2:QRow (fun k=>(G<k∧inB u k)∨W.heap.size≤k) 3 u' (l++[x]).length ((l++[x]).flatMap encR) W':=by
        simpa using hq'
      exact (hq2.exact.mono (E:=fun k=>G<k∧inB u' k) (fun k _ hk=>⟨hGk k hk.2.1,hk.2.1⟩)).but BS (fun k hk e=>by omega)
    · rw [if_neg (fun e=>hne e.symm)] at hl'
      refine ((h3 s' l' u' hl' hu').exact.but hb' (fun k hk hd=>?_)).mono (fun k _ hk=>hk.1) |>.but BS (fun k hk e=>by omega)
      rcases hd with hd | hd
      · exact hne (h4 s' s u' u k hu' hu hk.1.2 hd.2)
      · omega
  · have key:∀ s' u' k,s'≠s→hv[s']?=some u'→inB u' k→¬ inB v' k:=fun s' u' k hne hu' hk hk'=>by
      have hl2:∃ l',Rs[s']?=some l':=⟨_,List.getElem?_eq_getElem (by have:=(List.getElem?_eq_some_iff.1 hu').1; omega)⟩
      obtain ⟨l',hl2⟩:=hl2
      have h5:=(h3 s' l' u' hl2 hu').inb hk
      rcases hin k hk' with hd | hd
      · exact hne (h4 s' s u' u k hu' hu hk hd.2)
      · omega
    rcases hset s' u' hu' with ⟨e1,e2⟩ | ⟨hne1,hw1⟩
    · rcases hset s'' u'' hu'' with ⟨e3,e4⟩ | ⟨hne2,hw2⟩
      · rw [e1,e3]
      · exact absurd (e2 ▸ hk) (key s'' u'' k hne2 hw2 hk')
    · rcases hset s'' u'' hu'' with ⟨e3,e4⟩ | ⟨hne2,hw2⟩
      · exact absurd (e4 ▸ hk') (key s' u' k hne1 hw1 hk)
      · exact h4 s' s'' u' u'' k hw1 hw2 hk hk'
theorem ByAt.row {G:Nat} {Rs:List (List Ir)} {W:World} {s:Nat} {l:List Ir} (h:ByAt G Rs W) (hl:Rs[s]?=some l) (hok:∀ x∈l,okR x):∃ ua uc,W.cell? ⟨G,s,none⟩=some (.slice ua l.length uc)∧SlL l (.slice ua l.length uc) W∧∀ ad,ua=some ad→l≠[]→G<ad.block∧ad.block<W.heap.size:=by
  obtain ⟨u,hc,_,⟨ua,uc,rfl⟩,hq,_⟩:=h.grow hl
  have hsl:SlL l (.slice ua l.length uc) W:=hq.irs hok
  refine ⟨ua,uc,hc,hsl,fun ad e hne=>?_⟩
  subst e
  have h1:=hsl.lt hne
  refine ⟨?_,h1⟩
  obtain ⟨ao,b,off,cap,e,hcm,hD⟩:=hq
  cases e
  have hcp:0<uc:=by
    have:=hcm.le
    have:=List.length_pos_iff.2 hne
    omega
  have:=hcm.addr hcp
  cases this
  have h0:=h.1
  rcases hD hcp with ⟨hd,_⟩ | hd
  · exact hd
  · exact Nat.lt_of_lt_of_le h0 hd
set_option maxRecDepth 100000 in
set_option maxHeartbeats 3200000 in
theorem rput_any (l:List Ir) (x:Ir) (v:Value) (w:World) (hc:SlL l v w) (hx:okR x) (hl:l.length≤100000000) :
    Calls Tryz.prog 106 #[v,valR x] w fun e w'=>∃ v',e=.returned v'∧SlL (putI x l) v' w'∧(v'=v∨Apart w.heap.size v')∧Below w.heap.size w w':=by
  have HOK:Hid (∀ y∈putI x l,okR y):=fun y hy=>by
    rcases mem_putI.1 hy with rfl | hy
    · exact hx
    · exact hc.ok y hy
  obtain ⟨i0,hi0,hz0,hz1,hz2⟩:=info_parts infoLr
  obtain ⟨ao,cap,rfl,hI,hn,hcap⟩:=hc
  obtain ⟨x0,x1,x2⟩:=x
  have Y0:=RBox.new (x0,x1,x2) 77 w
  have B0:Below w.heap.size w (w.alloc (Obj.cells #[.int .i64 x0,.int .i64 x1,.int .i64 x2] 77)):=(Below.refl _ _).alloc (Nat.le_refl _) _
  unfold valR
  simp only at *
  go_enter Tryz.func106,Tryz.ntmps106
  go_wp2_with fail
  generalize w.alloc (Obj.cells #[.int .i64 x0,.int .i64 x1,.int .i64 x2] 77)=w0 at *
  have HY:Hid (∀ W,Below w0.heap.size w0 W→RBox (x0,x1,x2) w.heap.size W):=fun W hb=>Y0.next hb
  have HI:Hid (∀ W,Below w0.heap.size w0 W→IrsAt l ao W):=fun W hb=>(hI.next B0).next hb
  have HB:Hid (∀ W,Below w0.heap.size w0 W→Below w.heap.size w W):=fun W hb=>below_then B0 hb B0.size
  have HBF:Hid (∀ (r:Ir) (W:World),Calls Tryz.prog 137 #[.agg #[.int .i64 r.1,.int .i64 r.2.1,.int .i64 r.2.2],.agg #[.int .i64 x0,.int .i64 x1,.int .i64 x2]] W fun e w'=>e=.returned (.bool (decide (ltI r (x0,x1,x2))))∧Below W.heap.size W w'):=fun r W=>rbefore_any r (x0,x1,x2) W
  clear Y0 B0 hI hx
  go_loopw [5] (fun i wr=>∃ (j:Nat),i=.int .i64 j∧j≤l.length∧(∀ y∈l.take j,ltI y (x0,x1,x2))∧Below w0.heap.size w0 wr) (fun i _=>l.length - (intOf i).toNat)
  case atStart=>exact ⟨0,rfl,Nat.zero_le _,by simp,Below.refl _ _⟩
  case round =>
  obtain ⟨j,rfl,hj,hrel,B1⟩:=hrel
  have HR:Hid (∀ y∈l.take j,ltI y (x0,x1,x2)):=hrel
  clear hrel
  obtain ⟨hxl,k0,k1,k2⟩:=HY.out _ B1
  simp only at k0 k1 k2
  by_cases hlt:j<l.length
  · obtain ⟨b,off,rfl,hbl,c0,c1,c2,_⟩:=(HI.out _ B1).at (Below.refl _ _) hlt
    have HT:Hid (l=l.take j++(l[j] :: l.drop (j+1))∧l.take (j+1)=l.take j++[l[j]]):=by
      refine ⟨?_,List.take_succ_eq_append_getElem hlt⟩
      rw [← List.drop_eq_getElem_cons hlt,List.take_append_drop]
    generalize l[j]=r at *
    obtain ⟨r0,r1,r2⟩:=r
    simp only at c0 c1 c2
    have HSI:Hid (∀ W,Below wr.heap.size wr W→(W.cell? ⟨w.heap.size,0,none⟩=some (.int .i64 x0)∧W.cell? ⟨w.heap.size,1,none⟩=some (.int .i64 x1)∧W.cell? ⟨w.heap.size,2,none⟩=some (.int .i64 x2)∧W.cell? ⟨b,off+j * 3,none⟩=some (.int .i64 r0)∧W.cell? ⟨b,off+j * 3+1,none⟩=some (.int .i64 r1)∧W.cell? ⟨b,off+j * 3+2,none⟩=some (.int .i64 r2)∧Below wr.heap.size wr W)):=fun W hb=>⟨(hb.cell (p:=⟨w.heap.size,0,none⟩) hxl).trans k0,(hb.cell (p:=⟨w.heap.size,1,none⟩) hxl).trans k1,(hb.cell (p:=⟨w.heap.size,2,none⟩) hxl).trans k2,(hb.cell (p:=⟨b,off+j * 3,none⟩) hbl).trans c0,(hb.cell (p:=⟨b,off+j * 3+1,none⟩) hbl).trans c1,(hb.cell (p:=⟨b,off+j * 3+2,none⟩) hbl).trans c2,hb⟩
    have HS0:Hid (wr.drew.cell? ⟨w.heap.size,0,none⟩=some (.int .i64 x0)∧wr.drew.cell? ⟨w.heap.size,1,none⟩=some (.int .i64 x1)∧wr.drew.cell? ⟨w.heap.size,2,none⟩=some (.int .i64 x2)∧wr.drew.cell? ⟨b,off+j * 3,none⟩=some (.int .i64 r0)∧wr.drew.cell? ⟨b,off+j * 3+1,none⟩=some (.int .i64 r1)∧wr.drew.cell? ⟨b,off+j * 3+2,none⟩=some (.int .i64 r2)∧Below wr.heap.size wr wr.drew):=HSI.out _ (Below.refl _ _).drew
    have HC:Hid (Calls Tryz.prog 137 #[.agg #[.int .i64 r0,.int .i64 r1,.int .i64 r2],.agg #[.int .i64 x0,.int .i64 x1,.int .i64 x2]] wr.drew fun e w'=>e=.returned (.bool (decide (ltI (r0,r1,r2) (x0,x1,x2))))∧(w'.cell? ⟨w.heap.size,0,none⟩=some (.int .i64 x0)∧w'.cell? ⟨w.heap.size,1,none⟩=some (.int .i64 x1)∧w'.cell? ⟨w.heap.size,2,none⟩=some (.int .i64 x2)∧w'.cell? ⟨b,off+j * 3,none⟩=some (.int .i64 r0)∧w'.cell? ⟨b,off+j * 3+1,none⟩=some (.int .i64 r1)∧w'.cell? ⟨b,off+j * 3+2,none⟩=some (.int .i64 r2)∧Below wr.heap.size wr w')):=by
      refine (HBF.out (r0,r1,r2) _).mono ?_
      rintro e w' ⟨rfl,hb⟩
      exact ⟨rfl,HSI.out _ (below_then (Below.refl _ _).drew hb (Nat.le_refl _))⟩
    clear HBF
    by_cases h1:ltI (r0,r1,r2) (x0,x1,x2)
    · rw [decide_eq_true h1] at HC
      have HR2:Hid (∀ y∈l.take (j+1),ltI y (x0,x1,x2)):=by
        show ∀ _,_
        rw [HT.out.2]
        intro y hy
        rcases List.mem_append.1 hy with h | h
        · exact HR.out y h
        · simp at h; rw [h]; exact h1
      clear HT HR h1 HOK
      go_wp2_with fail
      refine wp_region_L (fun W=>W.cell? ⟨w.heap.size,0,none⟩=some (.int .i64 x0)∧W.cell? ⟨w.heap.size,1,none⟩=some (.int .i64 x1)∧W.cell? ⟨w.heap.size,2,none⟩=some (.int .i64 x2)∧W.cell? ⟨b,off+j * 3,none⟩=some (.int .i64 r0)∧W.cell? ⟨b,off+j * 3+1,none⟩=some (.int .i64 r1)∧W.cell? ⟨b,off+j * 3+2,none⟩=some (.int .i64 r2)∧Below wr.heap.size wr W) 12 (by kernel_rfl) 12 rfl ?_
      refine tk 0 ⟨some 7,.move (.tmp 5),3, "ref.go:44",#[],none⟩ HS0.out ?_;simp only [Act.put,sA,s0,sS]
      refine tk 1 ⟨some 8,.move (.tmp 0),64, "ref.go:44",#[],none⟩ HS0.out ?_;simp only [Act.put,sA,s0,sS]
      refine tk 2 ⟨some 9,.call ⟨.builtin .len,#[.tmp 8],#[64]⟩,3, "ref.go:44",#[⟨1,.data⟩],none⟩ HS0.out ?_;simp only [Act.put,sA,s0,sS]
      refine tk 3 ⟨some 10,.binOp .lss 3 (.tmp 7) (.tmp 9) 3,4, "ref.go:44",#[⟨0,.data⟩,⟨2,.data⟩],none⟩ HS0.out ?_;simp only [Act.put,sA,s0,sS]
      refine tk 4 ⟨some 11,.move (.tmp 10),4, "ref.go:44",#[⟨3,.data⟩],none⟩ HS0.out ?_;simp only [Act.put,sA,s0,sS]
      refine tk 5 ⟨some 12,.move (.tmp 0),64, "ref.go:44",#[⟨4,.guard⟩],some (4,true)⟩ HS0.out ?_;simp only [Act.put,sA,s0,sS]
      refine tk 6 ⟨some 13,.move (.tmp 5),3, "ref.go:44",#[⟨4,.guard⟩],some (4,true)⟩ HS0.out ?_;simp only [Act.put,sA,s0,sS]
      refine tk 7 ⟨some 14,.indexAddr 64 (.tmp 12) (.tmp 13),0, "ref.go:44",#[⟨5,.data⟩,⟨6,.data⟩,⟨4,.guard⟩],some (4,true)⟩ HS0.out ?_;simp only [Act.put,sA,s0,sS]
      refine tk 8 ⟨some 15,.load 77 (.tmp 14),77, "ref.go:44",#[⟨7,.data⟩,⟨4,.guard⟩],some (4,true)⟩ HS0.out ?_;simp only [Act.put,sA,s0,sS]
      refine tk 9 ⟨some 16,.load 77 (.tmp 3),77, "ref.go:44",#[⟨4,.guard⟩],some (4,true)⟩ HS0.out ?_;simp only [Act.put,sA,s0,sS]
      refine wpAnyL_one' (i:=10) (o:=⟨some 17,.call ⟨.value (.func 137),#[.tmp 15,.tmp 16],#[77,77]⟩,4, "ref.go:44",#[⟨8,.data⟩,⟨9,.data⟩,⟨4,.chain⟩,⟨4,.guard⟩],some (4,true)⟩) (by kernel_rfl) rfl rfl (fun K hK=>?_)
      go_simp
      refine (HC.out).mono ?_
      rintro e w1 ⟨rfl,hS⟩
      refine hK.out _ _ (fun _=>hS) ?_
      clear hK
      refine tk 11 ⟨some 18,.pick (.tmp 11) (.tmp 17) (.const (.bool false)),4, "ref.go:44",#[⟨4,.data⟩,⟨10,.data⟩],none⟩ hS ?_;simp only [Act.put,sA,s0,sS]
      refine wpAnyL_done (by kernel_rfl) ?_ _
      have B2:=below_then B1 hS.2.2.2.2.2.2 B1.size
      clear hS HC HS0 HSI
      go_wp2_with fail
      exact ⟨⟨j+1,by go_num,by omega,HR2.out,B2⟩,by simp [intOf]; omega⟩
    · rw [decide_eq_false h1] at HC
      go_wp2_with fail
      refine wp_region_L (fun W=>W.cell? ⟨w.heap.size,0,none⟩=some (.int .i64 x0)∧W.cell? ⟨w.heap.size,1,none⟩=some (.int .i64 x1)∧W.cell? ⟨w.heap.size,2,none⟩=some (.int .i64 x2)∧W.cell? ⟨b,off+j * 3,none⟩=some (.int .i64 r0)∧W.cell? ⟨b,off+j * 3+1,none⟩=some (.int .i64 r1)∧W.cell? ⟨b,off+j * 3+2,none⟩=some (.int .i64 r2)∧Below wr.heap.size wr W) 12 (by kernel_rfl) 12 rfl ?_
      refine tk 0 ⟨some 7,.move (.tmp 5),3, "ref.go:44",#[],none⟩ HS0.out ?_;simp only [Act.put,sA,s0,sS]
      refine tk 1 ⟨some 8,.move (.tmp 0),64, "ref.go:44",#[],none⟩ HS0.out ?_;simp only [Act.put,sA,s0,sS]
      refine tk 2 ⟨some 9,.call ⟨.builtin .len,#[.tmp 8],#[64]⟩,3, "ref.go:44",#[⟨1,.data⟩],none⟩ HS0.out ?_;simp only [Act.put,sA,s0,sS]
      refine tk 3 ⟨some 10,.binOp .lss 3 (.tmp 7) (.tmp 9) 3,4, "ref.go:44",#[⟨0,.data⟩,⟨2,.data⟩],none⟩ HS0.out ?_;simp only [Act.put,sA,s0,sS]
      refine tk 4 ⟨some 11,.move (.tmp 10),4, "ref.go:44",#[⟨3,.data⟩],none⟩ HS0.out ?_;simp only [Act.put,sA,s0,sS]
      refine tk 5 ⟨some 12,.move (.tmp 0),64, "ref.go:44",#[⟨4,.guard⟩],some (4,true)⟩ HS0.out ?_;simp only [Act.put,sA,s0,sS]
      refine tk 6 ⟨some 13,.move (.tmp 5),3, "ref.go:44",#[⟨4,.guard⟩],some (4,true)⟩ HS0.out ?_;simp only [Act.put,sA,s0,sS]
      refine tk 7 ⟨some 14,.indexAddr 64 (.tmp 12) (.tmp 13),0, "ref.go:44",#[⟨5,.data⟩,⟨6,.data⟩,⟨4,.guard⟩],some (4,true)⟩ HS0.out ?_;simp only [Act.put,sA,s0,sS]
      refine tk 8 ⟨some 15,.load 77 (.tmp 14),77, "ref.go:44",#[⟨7,.data⟩,⟨4,.guard⟩],some (4,true)⟩ HS0.out ?_;simp only [Act.put,sA,s0,sS]
      refine tk 9 ⟨some 16,.load 77 (.tmp 3),77, "ref.go:44",#[⟨4,.guard⟩],some (4,true)⟩ HS0.out ?_;simp only [Act.put,sA,s0,sS]
      refine wpAnyL_one' (i:=10) (o:=⟨some 17,.call ⟨.value (.func 137),#[.tmp 15,.tmp 16],#[77,77]⟩,4, "ref.go:44",#[⟨8,.data⟩,⟨9,.data⟩,⟨4,.chain⟩,⟨4,.guard⟩],some (4,true)⟩) (by kernel_rfl) rfl rfl (fun K hK=>?_)
      go_simp
      refine (HC.out).mono ?_
      rintro e w1 ⟨rfl,hS⟩
      refine hK.out _ _ (fun _=>hS) ?_
      clear hK
      refine tk 11 ⟨some 18,.pick (.tmp 11) (.tmp 17) (.const (.bool false)),4, "ref.go:44",#[⟨4,.data⟩,⟨10,.data⟩],none⟩ hS ?_;simp only [Act.put,sA,s0,sS]
      refine wpAnyL_done (by kernel_rfl) ?_ _
      have hS1:(w1.drew.cell? ⟨w.heap.size,0,none⟩=some (.int .i64 x0)∧w1.drew.cell? ⟨w.heap.size,1,none⟩=some (.int .i64 x1)∧w1.drew.cell? ⟨w.heap.size,2,none⟩=some (.int .i64 x2)∧w1.drew.cell? ⟨b,off+j * 3,none⟩=some (.int .i64 r0)∧w1.drew.cell? ⟨b,off+j * 3+1,none⟩=some (.int .i64 r1)∧w1.drew.cell? ⟨b,off+j * 3+2,none⟩=some (.int .i64 r2)∧Below wr.heap.size wr w1.drew):=HSI.out _ hS.2.2.2.2.2.2.drew
      clear hS HC HS0
      have hxr:(r0 == x0 && (r1 == x1 && r2 == x2))=decide ((r0,r1,r2)=(x0,x1,x2)):=by
        rw [Bool.eq_iff_iff]; simp
      by_cases h2:(r0,r1,r2)=(x0,x1,x2)
      · have HP:Hid (putI (x0,x1,x2) l=l):=by
          show _=_
          rw [HT.out.1,putI_lt HR.out,putI,if_neg h1,if_pos h2]
        clear HT HR
        simp only [Prod.mk.injEq] at h2
        obtain ⟨rfl,rfl,rfl⟩:=h2
        clear hxr h1
        go_wp2_with fail
        refine wp_region_L (fun W=>W.cell? ⟨w.heap.size,0,none⟩=some (.int .i64 r0)∧W.cell? ⟨w.heap.size,1,none⟩=some (.int .i64 r1)∧W.cell? ⟨w.heap.size,2,none⟩=some (.int .i64 r2)∧W.cell? ⟨b,off+j * 3,none⟩=some (.int .i64 r0)∧W.cell? ⟨b,off+j * 3+1,none⟩=some (.int .i64 r1)∧W.cell? ⟨b,off+j * 3+2,none⟩=some (.int .i64 r2)∧Below wr.heap.size wr W) 12 (by kernel_rfl) 12 rfl ?_
        refine tk 0 ⟨some 21,.move (.tmp 5),3, "ref.go:47",#[],none⟩ hS1 ?_;simp only [Act.put,sA,s0,sS]
        refine tk 1 ⟨some 22,.move (.tmp 0),64, "ref.go:47",#[],none⟩ hS1 ?_;simp only [Act.put,sA,s0,sS]
        refine tk 2 ⟨some 23,.call ⟨.builtin .len,#[.tmp 22],#[64]⟩,3, "ref.go:47",#[⟨1,.data⟩],none⟩ hS1 ?_;simp only [Act.put,sA,s0,sS]
        refine tk 3 ⟨some 24,.binOp .lss 3 (.tmp 21) (.tmp 23) 3,4, "ref.go:47",#[⟨0,.data⟩,⟨2,.data⟩],none⟩ hS1 ?_;simp only [Act.put,sA,s0,sS]
        refine tk 4 ⟨some 25,.move (.tmp 24),4, "ref.go:47",#[⟨3,.data⟩],none⟩ hS1 ?_;simp only [Act.put,sA,s0,sS]
        refine tk 5 ⟨some 26,.move (.tmp 0),64, "ref.go:47",#[⟨4,.guard⟩],some (4,true)⟩ hS1 ?_;simp only [Act.put,sA,s0,sS]
        refine tk 6 ⟨some 27,.move (.tmp 5),3, "ref.go:47",#[⟨4,.guard⟩],some (4,true)⟩ hS1 ?_;simp only [Act.put,sA,s0,sS]
        refine tk 7 ⟨some 28,.indexAddr 64 (.tmp 26) (.tmp 27),0, "ref.go:47",#[⟨5,.data⟩,⟨6,.data⟩,⟨4,.guard⟩],some (4,true)⟩ hS1 ?_;simp only [Act.put,sA,s0,sS]
        refine tk 8 ⟨some 29,.load 77 (.tmp 28),77, "ref.go:47",#[⟨7,.data⟩,⟨4,.guard⟩],some (4,true)⟩ hS1 ?_;simp only [Act.put,sA,s0,sS]
        refine tk 9 ⟨some 30,.load 77 (.tmp 3),77, "ref.go:47",#[⟨4,.guard⟩],some (4,true)⟩ hS1 ?_;simp only [Act.put,sA,s0,sS]
        refine tk 10 ⟨some 31,.binOp .eql 77 (.tmp 29) (.tmp 30) 77,4, "ref.go:47",#[⟨8,.data⟩,⟨9,.data⟩,⟨4,.guard⟩],some (4,true)⟩ hS1 ?_;simp only [Act.put,sA,s0,sS]
        refine tk 11 ⟨some 32,.pick (.tmp 25) (.tmp 31) (.const (.bool false)),4, "ref.go:47",#[⟨4,.data⟩,⟨10,.data⟩],none⟩ hS1 ?_;simp only [Act.put,sA,s0,sS]
        refine wpAnyL_done (by kernel_rfl) ?_ _
        have HF:Hid (Below w.heap.size w w1.drew∧SlL l (.slice (some ⟨b,off,none⟩) l.length cap) w1.drew):=by
          have B2:=below_then B1 hS1.2.2.2.2.2.2 B1.size
          exact ⟨HB.out _ B2,⟨_,cap,rfl,HI.out _ B2,hn,hcap⟩⟩
        clear HSI
        go_wp2_with fail
        go_ret
        exact ⟨_,rfl,by rw [HP.out]; exact HF.out.2,.inl rfl,HF.out.1⟩
      · have HP:Hid (putI (x0,x1,x2) l=l.take j++(x0,x1,x2) :: l.drop j):=by
          show _=_
          have e:=HT.out.1
          have hd:l.drop j=(r0,r1,r2) :: l.drop (j+1):=by
            have:=congrArg (List.drop j) e
            rw [List.drop_append_of_le_length (by simp; omega)] at this
            simpa using this
          rw [hd]
          conv=>lhs; rw [e]
          rw [putI_lt HR.out,putI,if_neg h1,if_neg h2]
        have h3:Hid (¬ (r0=x0∧r1=x1∧r2=x2)):=fun ⟨e1,e2,e3⟩=>h2 (by rw [e1,e2,e3])
        clear HT HR h1 h2 hxr
        go_wp2_with fail
        refine wp_region_L (fun W=>W.cell? ⟨w.heap.size,0,none⟩=some (.int .i64 x0)∧W.cell? ⟨w.heap.size,1,none⟩=some (.int .i64 x1)∧W.cell? ⟨w.heap.size,2,none⟩=some (.int .i64 x2)∧W.cell? ⟨b,off+j * 3,none⟩=some (.int .i64 r0)∧W.cell? ⟨b,off+j * 3+1,none⟩=some (.int .i64 r1)∧W.cell? ⟨b,off+j * 3+2,none⟩=some (.int .i64 r2)∧Below wr.heap.size wr W) 12 (by kernel_rfl) 12 rfl ?_
        refine tk 0 ⟨some 21,.move (.tmp 5),3, "ref.go:47",#[],none⟩ hS1 ?_;simp only [Act.put,sA,s0,sS]
        refine tk 1 ⟨some 22,.move (.tmp 0),64, "ref.go:47",#[],none⟩ hS1 ?_;simp only [Act.put,sA,s0,sS]
        refine tk 2 ⟨some 23,.call ⟨.builtin .len,#[.tmp 22],#[64]⟩,3, "ref.go:47",#[⟨1,.data⟩],none⟩ hS1 ?_;simp only [Act.put,sA,s0,sS]
        refine tk 3 ⟨some 24,.binOp .lss 3 (.tmp 21) (.tmp 23) 3,4, "ref.go:47",#[⟨0,.data⟩,⟨2,.data⟩],none⟩ hS1 ?_;simp only [Act.put,sA,s0,sS]
        refine tk 4 ⟨some 25,.move (.tmp 24),4, "ref.go:47",#[⟨3,.data⟩],none⟩ hS1 ?_;simp only [Act.put,sA,s0,sS]
        refine tk 5 ⟨some 26,.move (.tmp 0),64, "ref.go:47",#[⟨4,.guard⟩],some (4,true)⟩ hS1 ?_;simp only [Act.put,sA,s0,sS]
        refine tk 6 ⟨some 27,.move (.tmp 5),3, "ref.go:47",#[⟨4,.guard⟩],some (4,true)⟩ hS1 ?_;simp only [Act.put,sA,s0,sS]
        refine tk 7 ⟨some 28,.indexAddr 64 (.tmp 26) (.tmp 27),0, "ref.go:47",#[⟨5,.data⟩,⟨6,.data⟩,⟨4,.guard⟩],some (4,true)⟩ hS1 ?_;simp only [Act.put,sA,s0,sS]
        refine tk 8 ⟨some 29,.load 77 (.tmp 28),77, "ref.go:47",#[⟨7,.data⟩,⟨4,.guard⟩],some (4,true)⟩ hS1 ?_;simp only [Act.put,sA,s0,sS]
        refine tk 9 ⟨some 30,.load 77 (.tmp 3),77, "ref.go:47",#[⟨4,.guard⟩],some (4,true)⟩ hS1 ?_;simp only [Act.put,sA,s0,sS]
        refine wpAnyL_take' (i:=10) (v:=.bool false) (oi:=⟨some 31,.binOp .eql 77 (.tmp 29) (.tmp 30) 77,4, "ref.go:47",#[⟨8,.data⟩,⟨9,.data⟩,⟨4,.guard⟩],some (4,true)⟩) rfl (by kernel_rfl) (by kernel_rfl) (by kernel_rfl) (by kernel_rfl) rfl (fun _ _ _ h=>h) (Or.inl ⟨by rfl,?_⟩) hS1 ?_
        · intro W hSW
          go_simp
          exact fun e0 e1 e2=>h3.out ⟨e0,e1,e2⟩
        simp only [Act.put,sA,s0,sS]
        refine tk 11 ⟨some 32,.pick (.tmp 25) (.tmp 31) (.const (.bool false)),4, "ref.go:47",#[⟨4,.data⟩,⟨10,.data⟩],none⟩ hS1 ?_;simp only [Act.put,sA,s0,sS]
        refine wpAnyL_done (by kernel_rfl) ?_ _
        have Bw:Below w0.heap.size w0 w1.drew:=below_then B1 hS1.2.2.2.2.2.2 B1.size
        obtain ⟨y0,y1,y2,_,_,_,_⟩:=id hS1
        have hIa:=HI.out _ Bw
        have hbl2:b<w1.drew.heap.size:=Nat.lt_of_lt_of_le hbl hS1.2.2.2.2.2.2.size
        have hxl2:w.heap.size<w1.drew.heap.size:=Nat.lt_of_lt_of_le hxl hS1.2.2.2.2.2.2.size
        clear HSI hS1 h3 HI HY
        generalize w1.drew=wq at *
        have n1:=newsR hIa 0 j
        have n3:=newsR hIa j (l.length - j)
        rw [List.drop_zero,Nat.zero_mul,Nat.add_zero] at n1
        rw [List.take_of_length_le (by simp)] at n3
        obtain ⟨T,hT⟩:∃ T,l.take j=T:=⟨_,rfl⟩
        obtain ⟨D,hD⟩:∃ D,l.drop j=D:=⟨_,rfl⟩
        have e1:T.length=j:=by rw [← hT]; simp; omega
        have e3:D.length=l.length - j:=by rw [← hD]; simp
        rw [hT] at n1
        rw [hD] at n3
        have HP2:Hid (putI (x0,x1,x2) l=T++(x0,x1,x2) :: D):=by show _=_; rw [← hT,← hD]; exact HP.out
        clear HP hT hD hIa
        have m1:(T.flatMap encR).length=j * 3:=by rw [flatR_len,e1]
        have m3:(D.flatMap encR).length=(l.length - j) * 3:=by rw [flatR_len,e3]
        have o1:=one_rowR T
        have o3:=one_rowR D
        obtain ⟨TV,hTV⟩:∃ TV,T.flatMap encR=TV:=⟨_,rfl⟩
        obtain ⟨DV,hDV⟩:∃ DV,D.flatMap encR=DV:=⟨_,rfl⟩
        have HTV:Hid (T.flatMap encR=TV):=hTV
        have HDV:Hid (D.flatMap encR=DV):=hDV
        rw [hTV] at n1 o1 m1
        rw [hDV] at n3 o3 m3
        clear hTV hDV
        obtain ⟨M,hM1,hM2⟩:∃ M,M≤wq.heap.size∧wq.heap.size≤M:=⟨_,Nat.le_refl _,Nat.le_refl _⟩
        have Bq:Below M wq wq:=Below.refl _ _
        have hjc:j<cap:=by omega
        have hjc2:¬ cap - j=0:=by omega
        go_wp2_with (at_builtin; refine wpList_append_own _ rfl (.tmp 34) (.tmp 37) 64 rfl M 77 i0 _ 3 24 Tryz.underlying64 hi0 hz0 hz1 hz2 rfl (by decide) _ 0 [] rfl (World.ownsRow_nil _ _ _ _) ⟨b,off,none⟩ j cap TV rfl m1 n1 o1 (by unfold maxLen; omega) (by omega) (by omega) ?_)
        intro v1 w2 hown1 hg1 _
        have B2:Below M wq w2:=Bq.grown hg1 (by omega) (fun k e=>by cases e)
        have hs1:=B2.size
        have w1own:w2.ownsRow M 77 3 v1 j TV:=by simpa using hown1
        obtain ⟨a1,c1,rfl⟩:=slice_of_ownK w1own
        have z0:=(B2.cell (p:=⟨w.heap.size,0,none⟩) (by show w.heap.size<M; omega)).trans y0
        have z1:=(B2.cell (p:=⟨w.heap.size,1,none⟩) (by show w.heap.size<M; omega)).trans y1
        have z2:=(B2.cell (p:=⟨w.heap.size,2,none⟩) (by show w.heap.size<M; omega)).trans y2
        clear hown1 hg1 y0 y1 y2
        go_wp2_with (at_builtin; refine wpList_append_own _ rfl (.tmp 39) (.tmp 41) 64 rfl M 77 i0 _ 3 24 Tryz.underlying64 hi0 hz0 hz1 hz2 rfl (by decide) _ j TV rfl (World.ownsRow.alloc w1own _) ⟨w2.heap.size,0,none⟩ 1 1 (encR (x0,x1,x2)) rfl rfl (new_cellR w2 (x0,x1,x2) _) (one_encR _) (by unfold maxLen; omega) (by omega) (by simp; omega) ?_)
        intro v2 w3 hown2 hg2 _
        have B3:Below M wq w3:=(B2.alloc (by omega) _).grown hg2 (by simp; omega) (fun k e=>(World.ownsRow.lt w1own k e).1)
        have hs2:=B3.size
        obtain ⟨a2,c2,rfl⟩:=slice_of_ownK hown2
        have n4:=own1_news n3 hbl2 (by have e:wq.heap.size=M:=(by omega); rw [e]; exact B3)
        clear hg2 w1own n1 n3 z0 z1 z2
        go_wp2_with (at_builtin; refine wpList_append_own _ rfl (.tmp 43) (.tmp 46) 64 rfl M 77 i0 _ 3 24 Tryz.underlying64 hi0 hz0 hz1 hz2 rfl (by decide) _ (j+1) (TV++encR (x0,x1,x2)) rfl hown2 ⟨b,off+j * 3,none⟩ (l.length - j) (cap - j) DV rfl m3 n4 o3 (by unfold maxLen; omega) (by omega) (by omega) ?_)
        intro v3 w4 hown3 hg3 _
        have B4:Below M wq w4:=B3.grown hg3 (by omega) (fun k e=>(World.ownsRow.lt hown2 k e).1)
        have HO:Hid (w4.ownsRow M 77 3 v3 (j+1+(l.length - j)) (TV++(encR (x0,x1,x2)++DV))):=hown3
        clear hg3 hown3 hown2
        obtain ⟨a3,c3,rfl⟩:=slice_of_ownK HO.out
        have HF:Hid (SlL (putI (x0,x1,x2) l) (.slice a3 (j+1+(l.length - j)) c3) w4∧Apart w.heap.size (.slice a3 (j+1+(l.length - j)) c3)∧Below w.heap.size w w4):=by
          refine ⟨OwnL.sl (B:=M) ?_ HOK.out,(apart_ownK HO.out).mono (by omega),HB.out _ (below_then Bw (by have e:wq.heap.size=M:=(by omega); rw [e]; exact B4) Bw.size)⟩
          have:=HO.out
          unfold OwnL
          rw [HP2.out]
          have q1:(T++(x0,x1,x2) :: D).length=j+1+(l.length - j):=by simp [e1,e3]; omega
          rw [q1,List.flatMap_append,List.flatMap_cons,HTV.out,HDV.out]
          simpa using this
        clear n4 B2 B3 B4
        go_wp2_with fail
        go_ret
        exact ⟨_,rfl,HF.out.1,.inr HF.out.2.1,HF.out.2.2⟩
  · obtain rfl:j=l.length:=by omega
    have hfal:decide ((l.length:Int)<l.length)=false:=decide_eq_false (by omega)
    have HP:Hid (putI (x0,x1,x2) l=l++[(x0,x1,x2)]):=by
      show _=_
      have:=putI_lt (b:=[]) (x:=(x0,x1,x2)) (fun y hy=>HR.out y (by simpa using hy))
      simpa [putI] using this
    clear HR HBF
    have HS0:Hid (wr.drew.cell? ⟨w.heap.size,0,none⟩=some (.int .i64 x0)∧wr.drew.cell? ⟨w.heap.size,1,none⟩=some (.int .i64 x1)∧wr.drew.cell? ⟨w.heap.size,2,none⟩=some (.int .i64 x2)):=⟨k0,k1,k2⟩
    have HS1:Hid (wr.drew.drew.cell? ⟨w.heap.size,0,none⟩=some (.int .i64 x0)∧wr.drew.drew.cell? ⟨w.heap.size,1,none⟩=some (.int .i64 x1)∧wr.drew.drew.cell? ⟨w.heap.size,2,none⟩=some (.int .i64 x2)):=⟨k0,k1,k2⟩
    go_wp2_with fail
    refine wp_region_L (fun W=>W.cell? ⟨w.heap.size,0,none⟩=some (.int .i64 x0)∧W.cell? ⟨w.heap.size,1,none⟩=some (.int .i64 x1)∧W.cell? ⟨w.heap.size,2,none⟩=some (.int .i64 x2)) 12 (by kernel_rfl) 12 rfl ?_
    refine tk 0 ⟨some 7,.move (.tmp 5),3, "ref.go:44",#[],none⟩ HS0.out ?_;simp only [Act.put,sA,s0,sS]
    refine tk 1 ⟨some 8,.move (.tmp 0),64, "ref.go:44",#[],none⟩ HS0.out ?_;simp only [Act.put,sA,s0,sS]
    refine tk 2 ⟨some 9,.call ⟨.builtin .len,#[.tmp 8],#[64]⟩,3, "ref.go:44",#[⟨1,.data⟩],none⟩ HS0.out ?_;simp only [Act.put,sA,s0,sS]
    refine tk 3 ⟨some 10,.binOp .lss 3 (.tmp 7) (.tmp 9) 3,4, "ref.go:44",#[⟨0,.data⟩,⟨2,.data⟩],none⟩ HS0.out ?_;simp only [Act.put,sA,s0,sS]
    refine tk 4 ⟨some 11,.move (.tmp 10),4, "ref.go:44",#[⟨3,.data⟩],none⟩ HS0.out ?_;simp only [Act.put,sA,s0,sS]
    refine tu 5 ⟨some 12,.move (.tmp 0),64, "ref.go:44",#[⟨4,.guard⟩],some (4,true)⟩ HS0.out ?_;simp only [Act.put,sA,s0,sS]
    refine tu 6 ⟨some 13,.move (.tmp 5),3, "ref.go:44",#[⟨4,.guard⟩],some (4,true)⟩ HS0.out ?_;simp only [Act.put,sA,s0,sS]
    refine tu 7 ⟨some 14,.indexAddr 64 (.tmp 12) (.tmp 13),0, "ref.go:44",#[⟨5,.data⟩,⟨6,.data⟩,⟨4,.guard⟩],some (4,true)⟩ HS0.out ?_;simp only [Act.put,sA,s0,sS]
    refine tu 8 ⟨some 15,.load 77 (.tmp 14),77, "ref.go:44",#[⟨7,.data⟩,⟨4,.guard⟩],some (4,true)⟩ HS0.out ?_;simp only [Act.put,sA,s0,sS]
    refine tu 9 ⟨some 16,.load 77 (.tmp 3),77, "ref.go:44",#[⟨4,.guard⟩],some (4,true)⟩ HS0.out ?_;simp only [Act.put,sA,s0,sS]
    refine tu 10 ⟨some 17,.call ⟨.value (.func 137),#[.tmp 15,.tmp 16],#[77,77]⟩,4, "ref.go:44",#[⟨8,.data⟩,⟨9,.data⟩,⟨4,.chain⟩,⟨4,.guard⟩],some (4,true)⟩ HS0.out ?_;simp only [Act.put,sA,s0,sS]
    refine tk 11 ⟨some 18,.pick (.tmp 11) (.tmp 17) (.const (.bool false)),4, "ref.go:44",#[⟨4,.data⟩,⟨10,.data⟩],none⟩ HS0.out ?_;simp only [Act.put,sA,s0,sS]
    refine wpAnyL_done (by kernel_rfl) ?_ _
    go_wp2_with fail
    refine wp_region_L (fun W=>W.cell? ⟨w.heap.size,0,none⟩=some (.int .i64 x0)∧W.cell? ⟨w.heap.size,1,none⟩=some (.int .i64 x1)∧W.cell? ⟨w.heap.size,2,none⟩=some (.int .i64 x2)) 12 (by kernel_rfl) 12 rfl ?_
    refine tk 0 ⟨some 21,.move (.tmp 5),3, "ref.go:47",#[],none⟩ HS1.out ?_;simp only [Act.put,sA,s0,sS]
    refine tk 1 ⟨some 22,.move (.tmp 0),64, "ref.go:47",#[],none⟩ HS1.out ?_;simp only [Act.put,sA,s0,sS]
    refine tk 2 ⟨some 23,.call ⟨.builtin .len,#[.tmp 22],#[64]⟩,3, "ref.go:47",#[⟨1,.data⟩],none⟩ HS1.out ?_;simp only [Act.put,sA,s0,sS]
    refine tk 3 ⟨some 24,.binOp .lss 3 (.tmp 21) (.tmp 23) 3,4, "ref.go:47",#[⟨0,.data⟩,⟨2,.data⟩],none⟩ HS1.out ?_;simp only [Act.put,sA,s0,sS]
    refine tk 4 ⟨some 25,.move (.tmp 24),4, "ref.go:47",#[⟨3,.data⟩],none⟩ HS1.out ?_;simp only [Act.put,sA,s0,sS]
    refine tu 5 ⟨some 26,.move (.tmp 0),64, "ref.go:47",#[⟨4,.guard⟩],some (4,true)⟩ HS1.out ?_;simp only [Act.put,sA,s0,sS]
    refine tu 6 ⟨some 27,.move (.tmp 5),3, "ref.go:47",#[⟨4,.guard⟩],some (4,true)⟩ HS1.out ?_;simp only [Act.put,sA,s0,sS]
    refine tu 7 ⟨some 28,.indexAddr 64 (.tmp 26) (.tmp 27),0, "ref.go:47",#[⟨5,.data⟩,⟨6,.data⟩,⟨4,.guard⟩],some (4,true)⟩ HS1.out ?_;simp only [Act.put,sA,s0,sS]
    refine tu 8 ⟨some 29,.load 77 (.tmp 28),77, "ref.go:47",#[⟨7,.data⟩,⟨4,.guard⟩],some (4,true)⟩ HS1.out ?_;simp only [Act.put,sA,s0,sS]
    refine tu 9 ⟨some 30,.load 77 (.tmp 3),77, "ref.go:47",#[⟨4,.guard⟩],some (4,true)⟩ HS1.out ?_;simp only [Act.put,sA,s0,sS]
    refine tu 10 ⟨some 31,.binOp .eql 77 (.tmp 29) (.tmp 30) 77,4, "ref.go:47",#[⟨8,.data⟩,⟨9,.data⟩,⟨4,.guard⟩],some (4,true)⟩ HS1.out ?_;simp only [Act.put,sA,s0,sS]
    refine tk 11 ⟨some 32,.pick (.tmp 25) (.tmp 31) (.const (.bool false)),4, "ref.go:47",#[⟨4,.data⟩,⟨10,.data⟩],none⟩ HS1.out ?_;simp only [Act.put,sA,s0,sS]
    refine wpAnyL_done (by kernel_rfl) ?_ _
    have Bw:Below w0.heap.size w0 wr.drew.drew:=B1.drew.drew
    obtain ⟨y0,y1,y2⟩:=HS1.out
    have hIa:=HI.out _ Bw
    have hxl2:w.heap.size<wr.drew.drew.heap.size:=hxl
    clear HS0 HS1 HI HY k0 k1 k2
    generalize wr.drew.drew=wq at *
    obtain ⟨M,hM1,hM2⟩:∃ M,M≤wq.heap.size∧wq.heap.size≤M:=⟨_,Nat.le_refl _,Nat.le_refl _⟩
    have Bq:Below M wq wq:=Below.refl _ _
    rcases ao with _ | ad
    · obtain rfl:l=[]:=by
        cases l with
        | nil=>rfl
        | cons z zs=>obtain ⟨b,off,h0,_⟩:=hIa 0 z rfl; cases h0
      obtain rfl:cap=0:=hn rfl
      clear hIa hn hcap
      go_wp2_with (at_builtin; first
        | (refine wpList_append_own_none rfl (.tmp 34) (.tmp 37) 64 rfl M 77 i0 3 Tryz.underlying64 hi0 _ 0 [] rfl (World.ownsRow_nil _ _ _ _) rfl ?_)
        | (refine wpList_append_own _ rfl (.tmp 39) (.tmp 41) 64 rfl M 77 i0 _ 3 24 Tryz.underlying64 hi0 hz0 hz1 hz2 rfl (by decide) _ 0 [] rfl (World.ownsRow_nil _ _ _ _) ⟨wq.heap.size,0,none⟩ 1 1 (encR (x0,x1,x2)) rfl rfl (new_cellR wq (x0,x1,x2) _) (one_encR _) (by unfold maxLen; omega) (by omega) (by simp; omega) ?_))
      intro v2 w2 hown2 hg2 _
      have B2:Below M wq w2:=(Bq.alloc (by omega) _).grown hg2 (by simp; omega) (fun k e=>by cases e)
      have w1own:w2.ownsRow M 77 3 v2 1 (encR (x0,x1,x2)):=hown2
      obtain ⟨a2,c2,rfl⟩:=slice_of_ownK w1own
      clear hg2 y0 y1 y2 hown2
      go_wp2_with (at_builtin; refine wpList_append_own_none rfl (.tmp 43) (.tmp 46) 64 rfl M 77 i0 3 Tryz.underlying64 hi0 _ 1 (encR (x0,x1,x2)) rfl w1own rfl ?_)
      have HF:Hid (SlL (putI (x0,x1,x2) []) (.slice a2 1 c2) w2∧Apart w.heap.size (.slice a2 1 c2)∧Below w.heap.size w w2):=by
        refine ⟨OwnL.sl (B:=M) ?_ HOK.out,(apart_ownK (by first | exact HO.out | exact w1own)).mono (by omega),HB.out _ (below_then Bw (by have e:wq.heap.size=M:=(by omega); rw [e]; exact B2) Bw.size)⟩
        rw [HP.out]
        exact w1own
      clear w1own
      go_wp2_with fail
      go_ret
      exact ⟨_,rfl,HF.out.1,.inr HF.out.2.1,HF.out.2.2⟩
    · have n1:∀ (k:Nat) (u:Value),(l.flatMap encR)[k]?=some u→wq.cell? (ad.add k)=some u:=by
        intro k u hk
        rcases Nat.eq_zero_or_pos l.length with hz | hz
        · obtain rfl:l=[]:=List.eq_nil_of_length_eq_zero hz
          simp at hk
        · obtain ⟨b,off,e,_⟩:=hIa.at (Below.refl _ _) hz
          cases e
          have:=newsR hIa 0 l.length k u (by simpa using hk)
          simpa using this
      have m1:(l.flatMap encR).length=l.length * 3:=flatR_len l
      have o1:=one_rowR l
      obtain ⟨TV,hTV⟩:∃ TV,l.flatMap encR=TV:=⟨_,rfl⟩
      have HTV:Hid (l.flatMap encR=TV):=hTV
      rw [hTV] at n1 o1 m1
      clear hTV hIa
      go_wp2_with (at_builtin; refine wpList_append_own _ rfl (.tmp 34) (.tmp 37) 64 rfl M 77 i0 _ 3 24 Tryz.underlying64 hi0 hz0 hz1 hz2 rfl (by decide) _ 0 [] rfl (World.ownsRow_nil _ _ _ _) ad l.length cap TV rfl m1 n1 o1 (by unfold maxLen; omega) (by omega) (by omega) ?_)
      intro v1 w2 hown1 hg1 _
      have B2:Below M wq w2:=Bq.grown hg1 (by omega) (fun k e=>by cases e)
      have hs1:=B2.size
      have w1own:w2.ownsRow M 77 3 v1 l.length TV:=by simpa using hown1
      obtain ⟨a1,c1,rfl⟩:=slice_of_ownK w1own
      have z0:=(B2.cell (p:=⟨w.heap.size,0,none⟩) (by show w.heap.size<M; omega)).trans y0
      have z1:=(B2.cell (p:=⟨w.heap.size,1,none⟩) (by show w.heap.size<M; omega)).trans y1
      have z2:=(B2.cell (p:=⟨w.heap.size,2,none⟩) (by show w.heap.size<M; omega)).trans y2
      clear hown1 hg1 y0 y1 y2
      go_wp2_with (at_builtin; refine wpList_append_own _ rfl (.tmp 39) (.tmp 41) 64 rfl M 77 i0 _ 3 24 Tryz.underlying64 hi0 hz0 hz1 hz2 rfl (by decide) _ l.length TV rfl (World.ownsRow.alloc w1own _) ⟨w2.heap.size,0,none⟩ 1 1 (encR (x0,x1,x2)) rfl rfl (new_cellR w2 (x0,x1,x2) _) (one_encR _) (by unfold maxLen; omega) (by omega) (by simp; omega) ?_)
      intro v2 w3 hown2 hg2 _
      have B3:Below M wq w3:=(B2.alloc (by omega) _).grown hg2 (by simp; omega) (fun k e=>(World.ownsRow.lt w1own k e).1)
      have hs2:=B3.size
      obtain ⟨a2,c2,rfl⟩:=slice_of_ownK hown2
      clear hg2 w1own n1 z0 z1 z2
      by_cases hcl:cap=l.length
      · subst hcl
        go_wp2_with (at_builtin; refine wpList_append_own _ rfl (.tmp 43) (.tmp 46) 64 rfl M 77 i0 _ 3 24 Tryz.underlying64 hi0 hz0 hz1 hz2 rfl (by decide) _ (l.length+1) (TV++encR (x0,x1,x2)) rfl hown2 ad 0 0 [] rfl rfl (by simp) (by simp) (by unfold maxLen; omega) (by omega) (by omega) ?_)
        intro v3 w4 hown3 hg3 _
        have B4:Below M wq w4:=B3.grown hg3 (by omega) (fun k e=>(World.ownsRow.lt hown2 k e).1)
        have HO:Hid (w4.ownsRow M 77 3 v3 (l.length+1) (TV++encR (x0,x1,x2))):=by show World.ownsRow _ _ _ _ _ _ _; simpa using hown3
        clear hg3 hown3 hown2
        obtain ⟨a3,c3,rfl⟩:=slice_of_ownK HO.out
        have HF:Hid (SlL (putI (x0,x1,x2) l) (.slice a3 (l.length+1) c3) w4∧Apart w.heap.size (.slice a3 (l.length+1) c3)∧Below w.heap.size w w4):=by
          refine ⟨OwnL.sl (B:=M) ?_ HOK.out,(apart_ownK (by first | exact HO.out | exact w1own)).mono (by omega),HB.out _ (below_then Bw (by have e:wq.heap.size=M:=(by omega); rw [e]; exact B4) Bw.size)⟩
          rw [HP.out]
          exact OwnL.more (by rw [HTV.out]; exact HO.out)
        clear B2 B3 B4
        go_wp2_with fail
        go_ret
        exact ⟨_,rfl,HF.out.1,.inr HF.out.2.1,HF.out.2.2⟩
      · have hcl2:¬ cap - l.length=0:=by omega
        have hcl3:l.length<cap:=by omega
        go_wp2_with (at_builtin; refine wpList_append_own _ rfl (.tmp 43) (.tmp 46) 64 rfl M 77 i0 _ 3 24 Tryz.underlying64 hi0 hz0 hz1 hz2 rfl (by decide) _ (l.length+1) (TV++encR (x0,x1,x2)) rfl hown2 (ad.add (l.length * 3)) 0 (cap - l.length) [] rfl rfl (by simp) (by simp) (by unfold maxLen; omega) (by omega) (by omega) ?_)
        intro v3 w4 hown3 hg3 _
        have B4:Below M wq w4:=B3.grown hg3 (by omega) (fun k e=>(World.ownsRow.lt hown2 k e).1)
        have HO:Hid (w4.ownsRow M 77 3 v3 (l.length+1) (TV++encR (x0,x1,x2))):=by show World.ownsRow _ _ _ _ _ _ _; simpa using hown3
        clear hg3 hown3 hown2
        obtain ⟨a3,c3,rfl⟩:=slice_of_ownK HO.out
        have HF:Hid (SlL (putI (x0,x1,x2) l) (.slice a3 (l.length+1) c3) w4∧Apart w.heap.size (.slice a3 (l.length+1) c3)∧Below w.heap.size w w4):=by
          refine ⟨OwnL.sl (B:=M) ?_ HOK.out,(apart_ownK (by first | exact HO.out | exact w1own)).mono (by omega),HB.out _ (below_then Bw (by have e:wq.heap.size=M:=(by omega); rw [e]; exact B4) Bw.size)⟩
          rw [HP.out]
          exact OwnL.more (by rw [HTV.out]; exact HO.out)
        clear B2 B3 B4
        go_wp2_with fail
        go_ret
        exact ⟨_,rfl,HF.out.1,.inr HF.out.2.1,HF.out.2.2⟩
end Go.Proofs.YtbilbgjojdlobaaGreatDoor
