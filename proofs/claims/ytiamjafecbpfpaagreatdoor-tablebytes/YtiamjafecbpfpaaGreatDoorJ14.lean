import Derived.Test.YtiamjafecbpfpaaGreatDoorRows
import Derived.Test.YtiamjafecbpfpaaGreatDoorTie
import Derived.Test.YtiamjafecbpfpaaGreatDoorCards
import Derived.Test.YtiamjafecbpfpaaGreatDoorJ01
import Derived.Test.YtiamjafecbpfpaaGreatDoorJ02
import Derived.Test.YtiamjafecbpfpaaGreatDoorJ03
import Derived.Test.YtiamjafecbpfpaaGreatDoorJ04
import Derived.Test.YtiamjafecbpfpaaGreatDoorJ06
import Derived.Test.YtiamjafecbpfpaaGreatDoorJ12
import Derived.Test.YtiamjafecbpfpaaGreatDoorJ13
import Derived.ProofKit
import Derived.OpenShut
import Derived.SizedLaws
import Derived.Lib.SmallJoins
import Derived.Deep.Slices
import Derived.Deep.Strs
import Derived.LaidMore
import Derived.LaidHandle
import Derived.Stop.Joined
import Derived.Stop.LaidErr
import Derived.Lib.LaidTab
import Derived.SevenTiedAt

namespace Go.Proofs.YtiamjafecbpfpaaGreatDoor
open Go.RowKit
def decT (s:List UInt8):List Rw:=match rdT s with
  | .ok T=>T
  | .error _=>[]
def decE (s:List UInt8):Int:=match rdT s with
  | .ok _=>0
  | .error c=>c
theorem Decoded.one {s:List UInt8} {W w':World} {e:Ending} (h:Decoded s W e w'):∃ ua uc,e=.returned (.tuple #[.agg #[.slice ua (decT s).length uc],.int .i64 (decE s)])∧SlW (decT s) (.slice ua (decT s).length uc) w'∧Below W.heap.size W w':=by
  obtain ⟨h1 | h1,hb⟩:=h
  · obtain ⟨T,u,h1,h2,h3⟩:=h1
    obtain ⟨ua,uc,rfl,_⟩:=id h3
    unfold decT decE
    rw [h1]
    exact ⟨ua,uc,h2,h3,hb⟩
  · obtain ⟨c,h1,h2⟩:=h1
    unfold decT decE
    rw [h1]
    exact ⟨none,0,h2,SlW.nil _,hb⟩
theorem numsT_len (l:List Rw):(numsT l).length≤1+4 * sizeTb l:=by
  have:=numsRs_len l
  unfold numsT
  rw [List.length_append]
  simp only [List.length_cons,List.length_nil]
  omega
theorem sizeA_red {l:List Ac} {a:Ac} (h:a∈l):a.red.length≤sizeA l:=by
  obtain ⟨k,hk,rfl⟩:=List.getElem_of_mem h
  have h1:=sizeA_succ hk
  have h2:=sizeA_le l (k+1)
  omega
theorem light_reds {l:List Rw} {n:Nat} (h:sizeTb l≤n) (hn:n≤1000000):∀ r∈l,redsOk r.acts:=fun r hr a ha=>by
  obtain ⟨k,hk,rfl⟩:=List.getElem_of_mem hr
  have h1:=sizeTb_acts hk
  have h2:=sizeA_red ha
  omega
set_option maxRecDepth 100000 in
set_option maxHeartbeats 4000000 in
theorem tableBytes_any (l:List Rw) (u:Value) (s:List UInt8) (w:World) (hl:SlW l u w) (hs:s.length≤140737488355328) (hT:Tb w) :
    Calls Tryz.prog 3 #[.agg #[u],.string ⟨s.toArray⟩] w fun e w'=>e=.returned (.bool true)∧Below w.heap.size w w':=by
  have HAW0:Hid (∀ W,Below w.heap.size w W→Calls Tryz.prog 6 #[] W fun e w'=>e=.returned (.bool true)∧Below W.heap.size W w'):=fun W hb=>awake12_any W (hT.next hb)
  have HS0:Hid (∀ W,Below w.heap.size w W→SlW l u W):=fun W hb=>hl.next hb
  have HD:Hid (∀ W,Calls Tryz.prog 7 #[.string ⟨s.toArray⟩] W fun e w'=>∃ ua uc,e=.returned (.tuple #[.agg #[.slice ua (decT s).length uc],.int .i64 (decE s)])∧SlW (decT s) (.slice ua (decT s).length uc) w'∧Below W.heap.size W w'):=fun W=>(decode_any s W).mono fun e w' h=>h.one
  have HRD:Hid (∀ W,Calls Tryz.prog 8 #[.string ⟨s.toArray⟩] W fun e w'=>∃ ua uc,e=.returned (.tuple #[.agg #[.slice ua (decT s).length uc],.int .i64 (decE s)])∧SlW (decT s) (.slice ua (decT s).length uc) w'∧Below W.heap.size W w'):=fun W=>(rdecode_any s W hs).mono fun e w' h=>h.one
  obtain ⟨la,lc,rfl,_⟩:=hl
  have B0:Below w.heap.size w (w.alloc (Obj.cells #[.slice la l.length lc] 24)):=(Below.refl _ _).alloc (Nat.le_refl _) _
  have b0:(w.alloc (Obj.cells #[.slice la l.length lc] 24)).heap[w.heap.size]?=some (Obj.cells #[.slice la l.length lc] 24):=heap_alloc_new _ _
  have e0:(w.alloc (Obj.cells #[.slice la l.length lc] 24)).cell? ⟨w.heap.size,0,none⟩=some (.slice la l.length lc):=by rw [Lib.cell_of_heap b0]; rfl
  have HL1:=rlight12_any l _ _ (HS0.out _ B0)
  clear hT
  go_enter Tryz.func3,Tryz.ntmps3
  go_upto_region 1 with fail
  generalize w.alloc (Obj.cells #[.slice la l.length lc] 24)=w0 at *
  have hz0:w.heap.size<w0.heap.size:=blk_lt b0
  have HK:Hid (∀ W,Below w0.heap.size w0 W→W.cell? ⟨w.heap.size,0,none⟩=some (.slice la l.length lc)∧SlW l (.slice la l.length lc) W∧Below w.heap.size w W):=fun W hW=>by
    have c:=B0.trans (hW.mono B0.size)
    exact ⟨(hW.cell (p:=⟨w.heap.size,0,none⟩) hz0).trans e0,HS0.out W c,c⟩
  clear HS0 b0
  go_wp2_with fail
  refine HL1.mono ?_
  rintro e w1 ⟨rfl,b1⟩
  obtain ⟨_,_,B1⟩:=HK.out w1 b1
  clear HL1 e0 B0
  by_cases hz1:sizeTb l≤20000
  case neg =>
    have hd:decide (sizeTb l≤20000)=false:=decide_eq_false hz1
    rw [hd]
    have HA:=HAW0.out _ B1
    clear HK HD HRD hd
    go_wp2_with fail
    refine HA.mono ?_
    rintro e w2 ⟨rfl,b2⟩
    have B2:=below_then B1 b2 B1.size
    clear HA b2 HAW0
    go_wp2_with fail
    go_ret
    exact ⟨rfl,B2⟩
  have hd:decide (sizeTb l≤20000)=true:=decide_eq_true hz1
  rw [hd]
  clear hd
  have HC:=HD.out w1
  clear HD
  go_wp2_with fail
  refine HC.mono ?_
  rintro e w2 ⟨ua,uc,rfl,k1,b2⟩
  have ba:Below w2.heap.size w2 (w2.alloc (Obj.cells #[.slice ua (decT s).length uc] 24)):=(Below.refl _ _).alloc (Nat.le_refl _) _
  have pu:(w2.alloc (Obj.cells #[.slice ua (decT s).length uc] 24)).heap[w2.heap.size]?=some (Obj.cells #[.slice ua (decT s).length uc] 24):=heap_alloc_new _ _
  have B3:Below w0.heap.size w0 (w2.alloc (Obj.cells #[.slice ua (decT s).length uc] 24)):=(b1.trans (b2.mono b1.size)).trans (ba.mono (Nat.le_trans b1.size b2.size))
  have HU:Hid (SlW (decT s) (.slice ua (decT s).length uc) (w2.alloc (Obj.cells #[.slice ua (decT s).length uc] 24))):=k1.next ba
  have HC2:=HRD.out (w2.alloc (Obj.cells #[.slice ua (decT s).length uc] 24))
  clear HC HRD k1 b2 ba
  go_upto_region 4 with fail
  obtain ⟨ub,hub⟩:∃ ub,w2.heap.size=ub:=⟨_,rfl⟩
  rw [hub] at pu ⊢
  clear hub
  generalize w2.alloc (Obj.cells #[.slice ua (decT s).length uc] 24)=w3 at *
  go_wp2_with fail
  refine HC2.mono ?_
  rintro e w4 ⟨va,vc,rfl,k1,b4⟩
  have ba:Below w4.heap.size w4 (w4.alloc (Obj.cells #[.slice va (decT s).length vc] 24)):=(Below.refl _ _).alloc (Nat.le_refl _) _
  have pv:(w4.alloc (Obj.cells #[.slice va (decT s).length vc] 24)).heap[w4.heap.size]?=some (Obj.cells #[.slice va (decT s).length vc] 24):=heap_alloc_new _ _
  have b5:Below w3.heap.size w3 (w4.alloc (Obj.cells #[.slice va (decT s).length vc] 24)):=b4.trans (ba.mono b4.size)
  have B5:Below w0.heap.size w0 (w4.alloc (Obj.cells #[.slice va (decT s).length vc] 24)):=B3.trans (b5.mono B3.size)
  have pu5:=(b5.block _ (blk_lt pu)).trans pu
  have HUV:Hid (SlW (decT s) (.slice ua (decT s).length uc) (w4.alloc (Obj.cells #[.slice va (decT s).length vc] 24))∧SlW (decT s) (.slice va (decT s).length vc) (w4.alloc (Obj.cells #[.slice va (decT s).length vc] 24))):=⟨HU.out.next b5,k1.next ba⟩
  clear HC2 k1 b4 ba pu HU b5 B3
  go_upto_region 5 with fail
  obtain ⟨vb,hvb⟩:∃ vb,w4.heap.size=vb:=⟨_,rfl⟩
  rw [hvb] at pv ⊢
  clear hvb
  generalize w4.alloc (Obj.cells #[.slice va (decT s).length vc] 24)=w6 at *
  have HS:Hid (∀ W,Below w6.heap.size w6 W→W.cell? ⟨w.heap.size,0,none⟩=some (.slice la l.length lc)∧W.cell? ⟨ub,0,none⟩=some (.slice ua (decT s).length uc)∧W.cell? ⟨vb,0,none⟩=some (.slice va (decT s).length vc)):=fun W hW=>⟨(HK.out W (B5.trans (hW.mono B5.size))).1,(hW.cell (p:=⟨ub,0,none⟩) (blk_lt pu5)).trans (by rw [Lib.cell_of_heap pu5]; rfl),(hW.cell (p:=⟨vb,0,none⟩) (blk_lt pv)).trans (by rw [Lib.cell_of_heap pv]; rfl)⟩
  have HEN:Hid (∀ W,Below w6.heap.size w6 W→Calls Tryz.prog 9 #[.agg #[.slice la l.length lc]] W fun e w'=>e=.returned (.string ⟨(encTab l).toArray⟩)∧Below W.heap.size W w'):=fun W hW=>encode_any l _ W (HK.out W (B5.trans (hW.mono B5.size))).2.1 (light_reds hz1 (by omega)) (by have:=numsT_len l; omega)
  have HRE:Hid (∀ W,Below w6.heap.size w6 W→Calls Tryz.prog 10 #[.agg #[.slice la l.length lc]] W fun e w'=>e=.returned (.string ⟨(encTab l).toArray⟩)∧Below W.heap.size W w'):=fun W hW=>rencode_any l _ W (HK.out W (B5.trans (hW.mono B5.size))).2.1 (by have:=numsT_len l; omega)
  have HSM:Hid (∀ W,Below w6.heap.size w6 W→Calls Tryz.prog 11 #[.agg #[.slice ua (decT s).length uc],.agg #[.slice va (decT s).length vc]] W fun e w'=>e=.returned (.bool true)∧Below W.heap.size W w'):=fun W hW=>by
    have:=rsame12_any (decT s) (decT s) _ _ W (HUV.out.1.next hW) (HUV.out.2.next hW)
    simpa using this
  have HAW:Hid (∀ W,Below w6.heap.size w6 W→Calls Tryz.prog 6 #[] W fun e w'=>e=.returned (.bool true)∧Below W.heap.size W w'):=fun W hW=>HAW0.out W (HK.out W (B5.trans (hW.mono B5.size))).2.2
  have HB:Hid (∀ W,Below w6.heap.size w6 W→Below w.heap.size w W):=fun W hW=>(HK.out W (B5.trans (hW.mono B5.size))).2.2
  clear HK HUV HAW0 pu5 pv B5 B1 b1 hz1 hz0
  generalize encTab l=E at *
  generalize decE s=er at *
  refine wp_region_L (fun W=>W.cell? ⟨w.heap.size,0,none⟩=some (.slice la l.length lc)∧W.cell? ⟨ub,0,none⟩=some (.slice ua (decT s).length uc)∧W.cell? ⟨vb,0,none⟩=some (.slice va (decT s).length vc)) 18 (by kernel_rfl) 19 rfl ?_
  refine wpAnyL_take' (i:=0) (v:=?_) (oi:=⟨some 23,.load 24 (.tmp 2),24, "law.go:67",#[],none⟩) rfl (by kernel_rfl) (by kernel_rfl) (by kernel_rfl) (by kernel_rfl) rfl (fun _ _ _ h=>h) (Or.inl ⟨by rfl,?_⟩) (HS.out _ (Below.refl _ _).drew) ?_
  rotate_left
  · intro W hSW
    go_simp
    try with_reducible rfl
  simp only [Act.put,sA,s0,sS]
  refine wpAnyL_take' (i:=2) (v:=?_) (oi:=⟨some 25,.load 24 (.tmp 2),24, "law.go:67",#[],none⟩) rfl (by kernel_rfl) (by kernel_rfl) (by kernel_rfl) (by kernel_rfl) rfl (fun _ _ _ h=>h) (Or.inl ⟨by rfl,?_⟩) (HS.out _ (Below.refl _ _).drew) ?_
  rotate_left
  · intro W hSW
    go_simp
    try with_reducible rfl
  simp only [Act.put,sA,s0,sS]
  refine wpAnyL_one' (i:=1) (o:=⟨some 24,.call ⟨.value (.func 9),#[.tmp 23],#[24]⟩,9, "law.go:67",#[⟨0,.data⟩],none⟩) (by kernel_rfl) rfl rfl (fun K hK=>?_)
  go_simp
  refine (HEN.out _ (Below.refl _ _).drew).mono ?_
  rintro e x1 ⟨rfl,hb1⟩
  refine hK.out _ _ (fun _=>(HS.out _ ((Below.refl _ _).drew.trans hb1))) ?_
  clear hK
  have g1:Below w6.heap.size w6 x1:=((Below.refl _ _).drew.trans hb1)
  refine wpAnyL_one' (i:=3) (o:=⟨some 26,.call ⟨.value (.func 10),#[.tmp 25],#[24]⟩,9, "law.go:67",#[⟨2,.data⟩,⟨1,.chain⟩],none⟩) (by kernel_rfl) rfl rfl (fun K hK=>?_)
  go_simp
  refine (HRE.out _ g1).mono ?_
  rintro e x2 ⟨rfl,hb2⟩
  refine hK.out _ _ (fun _=>(HS.out _ (g1.trans (hb2.mono g1.size)))) ?_
  clear hK
  have g2:Below w6.heap.size w6 x2:=(g1.trans (hb2.mono g1.size))
  refine wpAnyL_take' (i:=4) (v:=?_) (oi:=⟨some 27,.binOp .eql 9 (.tmp 24) (.tmp 26) 9,4, "law.go:67",#[⟨1,.data⟩,⟨3,.data⟩],none⟩) rfl (by kernel_rfl) (by kernel_rfl) (by kernel_rfl) (by kernel_rfl) rfl (fun _ _ _ h=>h) (Or.inl ⟨by rfl,?_⟩) (HS.out _ (g1.trans (hb2.mono g1.size))) ?_
  rotate_left
  · intro W hSW
    go_simp
    try with_reducible rfl
  simp only [Act.put,sA,s0,sS]
  refine wpAnyL_take' (i:=5) (v:=?_) (oi:=⟨some 28,.move (.tmp 27),4, "law.go:67",#[⟨4,.data⟩,⟨3,.chain⟩],none⟩) rfl (by kernel_rfl) (by kernel_rfl) (by kernel_rfl) (by kernel_rfl) rfl (fun _ _ _ h=>h) (Or.inl ⟨by rfl,?_⟩) (HS.out _ (g1.trans (hb2.mono g1.size))) ?_
  rotate_left
  · intro W hSW
    go_simp
    try with_reducible rfl
  simp only [Act.put,sA,s0,sS]
  refine wpAnyL_take' (i:=6) (v:=?_) (oi:=⟨some 29,.load 24 (.tmp 5),24, "law.go:67",#[⟨5,.guard⟩],some (5,true)⟩) rfl (by kernel_rfl) (by kernel_rfl) (by kernel_rfl) (by kernel_rfl) rfl (fun _ _ _ h=>h) (Or.inl ⟨by rfl,?_⟩) (HS.out _ (g1.trans (hb2.mono g1.size))) ?_
  rotate_left
  · intro W hSW
    go_simp
    try with_reducible rfl
  simp only [Act.put,sA,s0,sS]
  refine wpAnyL_take' (i:=7) (v:=?_) (oi:=⟨some 30,.load 24 (.tmp 7),24, "law.go:67",#[⟨5,.guard⟩],some (5,true)⟩) rfl (by kernel_rfl) (by kernel_rfl) (by kernel_rfl) (by kernel_rfl) rfl (fun _ _ _ h=>h) (Or.inl ⟨by rfl,?_⟩) (HS.out _ (g1.trans (hb2.mono g1.size))) ?_
  rotate_left
  · intro W hSW
    go_simp
    try with_reducible rfl
  simp only [Act.put,sA,s0,sS]
  refine wpAnyL_one' (i:=8) (o:=⟨some 31,.call ⟨.value (.func 11),#[.tmp 29,.tmp 30],#[24,24]⟩,4, "law.go:67",#[⟨6,.data⟩,⟨7,.data⟩,⟨5,.chain⟩,⟨5,.guard⟩],some (5,true)⟩) (by kernel_rfl) rfl rfl (fun K hK=>?_)
  go_simp
  refine (HSM.out _ g2).mono ?_
  rintro e x3 ⟨rfl,hb3⟩
  refine hK.out _ _ (fun _=>(HS.out _ (g2.trans (hb3.mono g2.size)))) ?_
  clear hK
  have g3:Below w6.heap.size w6 x3:=(g2.trans (hb3.mono g2.size))
  refine wpAnyL_take' (i:=9) (v:=?_) (oi:=⟨some 32,.pick (.tmp 28) (.tmp 31) (.const (.bool false)),4, "law.go:67",#[⟨5,.data⟩,⟨8,.data⟩],none⟩) rfl (by kernel_rfl) (by kernel_rfl) (by kernel_rfl) (by kernel_rfl) rfl (fun _ _ _ h=>h) (Or.inl ⟨by rfl,?_⟩) (HS.out _ (g2.trans (hb3.mono g2.size))) ?_
  rotate_left
  · intro W hSW
    go_simp
    try with_reducible rfl
  simp only [Act.put,sA,s0,sS]
  refine wpAnyL_take' (i:=10) (v:=?_) (oi:=⟨some 33,.move (.tmp 32),4, "law.go:67",#[⟨9,.data⟩,⟨8,.chain⟩],none⟩) rfl (by kernel_rfl) (by kernel_rfl) (by kernel_rfl) (by kernel_rfl) rfl (fun _ _ _ h=>h) (Or.inl ⟨by rfl,?_⟩) (HS.out _ (g2.trans (hb3.mono g2.size))) ?_
  rotate_left
  · intro W hSW
    go_simp
    try with_reducible rfl
  simp only [Act.put,sA,s0,sS]
  refine wpAnyL_take' (i:=11) (v:=?_) (oi:=⟨some 34,.move (.tmp 6),27, "law.go:67",#[⟨10,.guard⟩],some (10,true)⟩) rfl (by kernel_rfl) (by kernel_rfl) (by kernel_rfl) (by kernel_rfl) rfl (fun _ _ _ h=>h) (Or.inl ⟨by rfl,?_⟩) (HS.out _ (g2.trans (hb3.mono g2.size))) ?_
  rotate_left
  · intro W hSW
    go_simp
    try with_reducible rfl
  simp only [Act.put,sA,s0,sS]
  refine wpAnyL_take' (i:=12) (v:=?_) (oi:=⟨some 35,.move (.tmp 8),3, "law.go:67",#[⟨10,.guard⟩],some (10,true)⟩) rfl (by kernel_rfl) (by kernel_rfl) (by kernel_rfl) (by kernel_rfl) rfl (fun _ _ _ h=>h) (Or.inl ⟨by rfl,?_⟩) (HS.out _ (g2.trans (hb3.mono g2.size))) ?_
  rotate_left
  · intro W hSW
    go_simp
    try with_reducible rfl
  simp only [Act.put,sA,s0,sS]
  refine wpAnyL_take' (i:=13) (v:=?_) (oi:=⟨some 36,.binOp .eql 3 (.tmp 34) (.tmp 35) 3,4, "law.go:67",#[⟨11,.data⟩,⟨12,.data⟩,⟨10,.guard⟩],some (10,true)⟩) rfl (by kernel_rfl) (by kernel_rfl) (by kernel_rfl) (by kernel_rfl) rfl (fun _ _ _ h=>h) (Or.inl ⟨by rfl,?_⟩) (HS.out _ (g2.trans (hb3.mono g2.size))) ?_
  rotate_left
  · intro W hSW
    go_simp
    try with_reducible rfl
  simp only [Act.put,sA,s0,sS]
  refine wpAnyL_take' (i:=14) (v:=?_) (oi:=⟨some 37,.pick (.tmp 33) (.tmp 36) (.const (.bool false)),4, "law.go:67",#[⟨10,.data⟩,⟨13,.data⟩],none⟩) rfl (by kernel_rfl) (by kernel_rfl) (by kernel_rfl) (by kernel_rfl) rfl (fun _ _ _ h=>h) (Or.inl ⟨by rfl,?_⟩) (HS.out _ (g2.trans (hb3.mono g2.size))) ?_
  rotate_left
  · intro W hSW
    go_simp
    try with_reducible rfl
  simp only [Act.put,sA,s0,sS]
  refine wpAnyL_take' (i:=15) (v:=?_) (oi:=⟨some 38,.move (.tmp 37),4, "law.go:67",#[⟨14,.data⟩,⟨10,.chain⟩],none⟩) rfl (by kernel_rfl) (by kernel_rfl) (by kernel_rfl) (by kernel_rfl) rfl (fun _ _ _ h=>h) (Or.inl ⟨by rfl,?_⟩) (HS.out _ (g2.trans (hb3.mono g2.size))) ?_
  rotate_left
  · intro W hSW
    go_simp
    try with_reducible rfl
  simp only [Act.put,sA,s0,sS]
  refine wpAnyL_one' (i:=16) (o:=⟨some 39,.call ⟨.value (.func 6),#[],#[]⟩,4, "law.go:67",#[⟨15,.chain⟩,⟨15,.guard⟩],some (15,true)⟩) (by kernel_rfl) rfl rfl (fun K hK=>?_)
  go_simp
  refine (HAW.out _ (g3)).mono ?_
  rintro e x4 ⟨rfl,hb4⟩
  refine hK.out _ _ (fun _=>(HS.out _ (g3.trans (hb4.mono g3.size)))) ?_
  clear hK
  have g4:Below w6.heap.size w6 x4:=(g3.trans (hb4.mono g3.size))
  refine wpAnyL_take' (i:=17) (v:=?_) (oi:=⟨some 40,.pick (.tmp 38) (.tmp 39) (.const (.bool false)),4, "law.go:67",#[⟨15,.data⟩,⟨16,.data⟩],none⟩) rfl (by kernel_rfl) (by kernel_rfl) (by kernel_rfl) (by kernel_rfl) rfl (fun _ _ _ h=>h) (Or.inl ⟨by rfl,?_⟩) (HS.out _ (g3.trans (hb4.mono g3.size))) ?_
  rotate_left
  · intro W hSW
    go_simp
    try with_reducible rfl
  simp only [Act.put,sA,s0,sS]
  refine wpAnyL_one' (i:=18) (o:=⟨some 4,.assign (.tmp 40),4, "law.go:67",#[⟨17,.data⟩,⟨16,.chain⟩,⟨0,.phase⟩,⟨1,.phase⟩,⟨2,.phase⟩,⟨3,.phase⟩,⟨4,.phase⟩,⟨5,.phase⟩,⟨6,.phase⟩,⟨7,.phase⟩,⟨8,.phase⟩,⟨9,.phase⟩,⟨10,.phase⟩,⟨11,.phase⟩,⟨12,.phase⟩,⟨13,.phase⟩,⟨14,.phase⟩,⟨15,.phase⟩,⟨16,.phase⟩,⟨17,.phase⟩],none⟩) (by kernel_rfl) rfl rfl (fun K hK=>?_)
  go_simp
  refine hK.out _ _ (fun h=>absurd h (by omega)) ?_
  clear hK
  refine wpAnyL_done (by kernel_rfl) ?_ _
  have HZ:Hid (Below w.heap.size w x4):=HB.out _ g4
  clear g1 g2 g3 g4 hb1 hb2 hb3 hb4 HS HEN HRE HSM HAW HB
  go_wp2_with fail
  go_ret
  exact ⟨rfl,HZ.out⟩
theorem badN_iff {l:List Int}:badN l=false↔∀ n∈l,0≤n∧n≤65535:=by
  unfold badN
  rw [List.any_eq_false]
  constructor
  · intro h n hn
    have:=h n hn
    simp at this
    omega
  · intro h n hn
    have:=h n hn
    simp
    omega
def Inv {α:Type} (one:Rd α) (nums:α→List Int):Prop:=∀ s x r,one s=.ok (x,r)→s=encN (nums x)++r∧badN (nums x)=false
def Fwd {α:Type} (one:Rd α) (nums:α→List Int):Prop:=∀ x r,badN (nums x)=false→one (encN (nums x)++r)=.ok (x,r)
theorem inv_N:Inv rdN (fun n=>[n]):=fun s x r h=>by
  match s with
  | []=>simp [rdN] at h
  | [_]=>simp [rdN] at h
  | a :: b :: t =>
    have hl:=rdN_lt h
    simp only [rdN,Except.ok.injEq,Prod.mk.injEq] at h
    obtain ⟨hx,rfl⟩:=h
    have ha:=a.toNat_lt
    have hb:=b.toNat_lt
    refine ⟨?_,by rw [badN_iff]; intro n hn; simp at hn; omega⟩
    have e1:UInt8.ofNat ((x / 256) % 256).toNat=a:=by
      have:((x / 256) % 256).toNat=a.toNat:=by omega
      rw [this]; exact UInt8.ofNat_toNat
    have e2:UInt8.ofNat (x % 256).toNat=b:=by
      have:(x % 256).toNat=b.toNat:=by omega
      rw [this]; exact UInt8.ofNat_toNat
    simp only [encN,List.flatMap_cons,List.flatMap_nil,enc2,e1,e2,List.append_nil,List.cons_append,List.nil_append]
theorem fwd_N:Fwd rdN (fun n=>[n]):=fun x r h=>by
  have:=badN_iff.1 h x (by simp)
  have e1:((UInt8.ofNat ((x / 256) % 256).toNat).toNat:Int)=x / 256:=by simp; omega
  have e2:((UInt8.ofNat (x % 256).toNat).toNat:Int)=x % 256:=by simp; omega
  simp only [encN,List.flatMap_cons,List.flatMap_nil,enc2,List.append_nil,List.cons_append,List.nil_append,rdN,e1,e2,Except.ok.injEq,Prod.mk.injEq,and_true]
  omega
theorem inv_K {α:Type} {one:Rd α} {nums:α→List Int} (h1:Inv one nums):∀ (n:Nat) (s:List UInt8) (l:List α) (r:List UInt8),rdK one n s=.ok (l,r)→s=encN (l.flatMap nums)++r∧badN (l.flatMap nums)=false
  | 0,s,l,r,h=>by
    simp only [rdK,Except.ok.injEq,Prod.mk.injEq] at h
    obtain ⟨rfl,rfl⟩:=h
    exact ⟨rfl,rfl⟩
  | n+1,s,l,r,h=>by
    simp only [rdK] at h
    rcases ex_cases (one s) with ⟨e,e1⟩ | ⟨⟨x,s'⟩,e1⟩
    · simp [e1] at h
    · simp only [e1] at h
      rcases ex_cases (rdK one n s') with ⟨e,e2⟩ | ⟨⟨m,s2⟩,e2⟩
      · simp [e2] at h
      · simp only [e2,Except.ok.injEq,Prod.mk.injEq] at h
        obtain ⟨rfl,rfl⟩:=h
        obtain ⟨k1,k2⟩:=h1 _ _ _ e1
        obtain ⟨k3,k4⟩:=inv_K h1 n _ _ _ e2
        rw [List.flatMap_cons,encN_append,badN_append,k2,k4,List.append_assoc,← k3]
        exact ⟨k1,rfl⟩
theorem fwd_K {α:Type} {one:Rd α} {nums:α→List Int} (h1:Fwd one nums):∀ (l:List α) (r:List UInt8),badN (l.flatMap nums)=false→rdK one l.length (encN (l.flatMap nums)++r)=.ok (l,r)
  | [],r,_=>rfl
  | x :: l,r,h=>by
    rw [List.flatMap_cons,badN_append,Bool.or_eq_false_iff] at h
    rw [List.flatMap_cons,encN_append,List.append_assoc,List.length_cons,rdK,h1 x _ h.1]
    simp only
    rw [fwd_K h1 l r h.2]
def numsL {α:Type} (nums:α→List Int) (l:List α):List Int:=[(l.length:Int)]++l.flatMap nums
theorem inv_L {α:Type} {one:Rd α} {nums:α→List Int} (h1:Inv one nums):Inv (rdL one) (numsL nums):=fun s l r h=>by
  unfold rdL at h
  rcases ex_cases (rdN s) with ⟨e,e1⟩ | ⟨⟨n,s'⟩,e1⟩
  · simp [e1] at h
  · simp only [e1] at h
    have hn:=rdN_lt e1
    have hl:=rdK_len h
    obtain ⟨k1,k2⟩:=inv_N _ _ _ e1
    obtain ⟨k3,k4⟩:=inv_K h1 _ _ _ _ h
    have e:(l.length:Int)=n:=by omega
    unfold numsL
    rw [e,encN_append,badN_append,k2,k4,List.append_assoc,← k3]
    exact ⟨k1,rfl⟩
theorem fwd_L {α:Type} {one:Rd α} {nums:α→List Int} (h1:Fwd one nums):Fwd (rdL one) (numsL nums):=fun l r h=>by
  unfold numsL at h ⊢
  rw [badN_append,Bool.or_eq_false_iff] at h
  unfold rdL
  rw [encN_append,List.append_assoc,fwd_N _ _ h.1]
  simp only [Int.toNat_natCast]
  exact fwd_K h1 l r h.2
theorem inv_B:Inv rdB (fun b=>[accI b]):=fun s x r h=>by
  unfold rdB at h
  rcases ex_cases (rdN s) with ⟨e,e1⟩ | ⟨⟨n,s'⟩,e1⟩
  · simp [e1] at h
  · simp only [e1] at h
    have hn:=rdN_lt e1
    by_cases hx:n > 1
    · rw [if_pos hx] at h; cases h
    · rw [if_neg hx] at h
      simp only [Except.ok.injEq,Prod.mk.injEq] at h
      obtain ⟨rfl,rfl⟩:=h
      have e:accI (decide (n=1))=n:=by
        unfold accI
        by_cases h1:n=1
        · simp [h1]
        · simp [h1]; omega
      show s=encN [accI (decide (n=1))]++s'∧badN [accI (decide (n=1))]=false
      rw [e]
      exact inv_N _ _ _ e1
theorem fwd_B:Fwd rdB (fun b=>[accI b]):=fun x r h=>by
  unfold rdB
  rw [fwd_N _ _ h]
  cases x <;> simp [accI]
theorem inv_A:Inv rdA numsA:=fun s a r h=>by
  unfold rdA at h
  rcases ex_cases (rdN s) with ⟨e,e1⟩ | ⟨⟨look,s1⟩,e1⟩
  · simp [e1] at h
  simp only [e1] at h
  rcases ex_cases (rdN s1) with ⟨e,e2⟩ | ⟨⟨tv,s2⟩,e2⟩
  · simp [e2] at h
  simp only [e2] at h
  rcases ex_cases (rdL rdN s2) with ⟨e,e3⟩ | ⟨⟨red,s3⟩,e3⟩
  · simp [e3] at h
  simp only [e3] at h
  rcases ex_cases (rdB s3) with ⟨e,e4⟩ | ⟨⟨acc,s4⟩,e4⟩
  · simp [e4] at h
  simp only [e4,Except.ok.injEq,Prod.mk.injEq] at h
  obtain ⟨rfl,rfl⟩:=h
  have ht:=rdN_lt e2
  obtain ⟨k1,b1⟩:=inv_N _ _ _ e1
  obtain ⟨k2,b2⟩:=inv_N _ _ _ e2
  obtain ⟨k3,b3⟩:=inv_L inv_N _ _ _ e3
  obtain ⟨k4,b4⟩:=inv_B _ _ _ e4
  have hu:up1 (tv - 1)=tv:=by unfold up1; split <;> omega
  have hm:numsA ⟨look,tv - 1,red,acc⟩=[look]++([tv]++(numsL (fun n=>[n]) red++[accI acc])):=by
    unfold numsA numsL
    rw [hu]
    simp
  rw [hm]
  simp only [encN_append,badN_append,b1,b2,b3,b4,List.append_assoc]
  rw [← k4,← k3,← k2]
  exact ⟨k1,rfl⟩
theorem fwd_A:Fwd rdA numsA:=fun a r h=>by
  obtain ⟨look,tv,red,acc⟩:=a
  have hm:numsA ⟨look,tv,red,acc⟩=[look]++([up1 tv]++(numsL (fun n=>[n]) red++[accI acc])):=by
    unfold numsA numsL
    simp
  rw [hm] at h ⊢
  simp only [badN_append,Bool.or_eq_false_iff] at h
  obtain ⟨b1,b2,b3,b4⟩:=h
  have ht:=badN_iff.1 b2 (up1 tv) (by simp)
  have hu:up1 tv - 1=tv:=by
    unfold up1 at ht ⊢
    split at ht
    · omega
    · rw [if_neg (by assumption)]; omega
  unfold rdA
  simp only [encN_append,List.append_assoc]
  rw [fwd_N _ _ b1]
  simp only
  rw [fwd_N _ _ b2]
  simp only
  rw [fwd_L fwd_N _ _ b3]
  simp only
  rw [fwd_B _ _ b4]
  simp only [hu]
theorem inv_G:Inv rdG numsG:=fun s p r h=>by
  unfold rdG at h
  rcases ex_cases (rdN s) with ⟨e,e1⟩ | ⟨⟨x,s1⟩,e1⟩
  · simp [e1] at h
  simp only [e1] at h
  rcases ex_cases (rdN s1) with ⟨e,e2⟩ | ⟨⟨y,s2⟩,e2⟩
  · simp [e2] at h
  simp only [e2,Except.ok.injEq,Prod.mk.injEq] at h
  obtain ⟨rfl,rfl⟩:=h
  obtain ⟨k1,b1⟩:=inv_N _ _ _ e1
  obtain ⟨k2,b2⟩:=inv_N _ _ _ e2
  have hm:numsG (x,y)=[x]++[y]:=rfl
  rw [hm]
  simp only [encN_append,badN_append,b1,b2,List.append_assoc]
  rw [← k2]
  exact ⟨k1,rfl⟩
theorem fwd_G:Fwd rdG numsG:=fun p r h=>by
  obtain ⟨x,y⟩:=p
  have hm:numsG (x,y)=[x]++[y]:=rfl
  rw [hm] at h ⊢
  simp only [badN_append,Bool.or_eq_false_iff] at h
  unfold rdG
  simp only [encN_append,List.append_assoc]
  rw [fwd_N _ _ h.1]
  simp only
  rw [fwd_N _ _ h.2]
theorem numsR_eq (r:Rw):numsR r=numsL numsA r.acts++numsL numsG r.goes:=by
  unfold numsR numsL
  simp
theorem inv_R:Inv rdR numsR:=fun s p r h=>by
  unfold rdR at h
  rcases ex_cases (rdL rdA s) with ⟨e,e1⟩ | ⟨⟨x,s1⟩,e1⟩
  · simp [e1] at h
  simp only [e1] at h
  rcases ex_cases (rdL rdG s1) with ⟨e,e2⟩ | ⟨⟨y,s2⟩,e2⟩
  · simp [e2] at h
  simp only [e2,Except.ok.injEq,Prod.mk.injEq] at h
  obtain ⟨rfl,rfl⟩:=h
  obtain ⟨k1,b1⟩:=inv_L inv_A _ _ _ e1
  obtain ⟨k2,b2⟩:=inv_L inv_G _ _ _ e2
  rw [numsR_eq]
  simp only [encN_append,badN_append,b1,b2,List.append_assoc]
  rw [← k2]
  exact ⟨k1,rfl⟩
theorem fwd_R:Fwd rdR numsR:=fun p r h=>by
  obtain ⟨x,y⟩:=p
  rw [numsR_eq] at h ⊢
  simp only [badN_append,Bool.or_eq_false_iff] at h
  unfold rdR
  simp only [encN_append,List.append_assoc]
  rw [fwd_L fwd_A _ _ h.1]
  simp only
  rw [fwd_L fwd_G _ _ h.2]
theorem rdT_back {s:List UInt8} {T:List Rw} (h:rdT s=.ok T):encTab T=s∧badN (numsT T)=false∧s.length=2 * (numsT T).length:=by
  unfold rdT at h
  rcases ex_cases (rdL rdR s) with ⟨e,e1⟩ | ⟨⟨l,r⟩,e1⟩
  · simp [e1] at h
  simp only [e1] at h
  by_cases hr:r=[]
  · rw [if_pos hr] at h
    simp only [Except.ok.injEq] at h
    subst h hr
    obtain ⟨k1,b1⟩:=inv_L inv_R _ _ _ e1
    rw [List.append_nil] at k1
    have e:numsT l=numsL numsR l:=rfl
    refine ⟨?_,b1,by rw [k1,encN_len]; rfl⟩
    unfold encTab
    rw [e,b1,← k1]
    rfl
  · rw [if_neg hr] at h; cases h
theorem encTab_back {l:List Rw} (h:encTab l≠[]):rdT (encTab l)=.ok l:=by
  unfold encTab at h ⊢
  cases hb:badN (numsT l) with
  | true=>rw [hb] at h; exact absurd rfl h
  | false =>
    simp only [Bool.false_eq_true,if_false]
    have:=fwd_L fwd_R l [] hb
    rw [List.append_nil] at this
    unfold rdT
    rw [show numsT l=numsL numsR l from rfl,this]
    rfl
theorem bad_reds {T:List Rw} (h:badN (numsT T)=false):∀ r∈T,redsOk r.acts:=fun r hr a ha=>by
  have:=badN_iff.1 h (a.red.length:Int) (by
    unfold numsT
    refine List.mem_append.2 (.inr (List.mem_flatMap.2 ⟨r,hr,?_⟩))
    unfold numsR
    refine List.mem_append.2 (.inl (List.mem_append.2 (.inl (List.mem_append.2 (.inr (List.mem_flatMap.2 ⟨a,ha,?_⟩))))))
    unfold numsA
    simp)
  omega
def Nz {α:Type} (one:Rd α):Prop:=∀ s e,one s=.error e→e≠0
theorem nz_N:Nz rdN:=fun s e h=>by
  match s with
  | []=>simp [rdN] at h; omega
  | [_]=>simp [rdN] at h; omega
  | _ :: _ :: _=>simp [rdN] at h
theorem nz_K {α:Type} {one:Rd α} (h1:Nz one):∀ (n:Nat) (s:List UInt8) (e:Int),rdK one n s=.error e→e≠0
  | 0,s,e,h=>by simp [rdK] at h
  | n+1,s,e,h=>by
    simp only [rdK] at h
    rcases ex_cases (one s) with ⟨c,e1⟩ | ⟨⟨x,s'⟩,e1⟩
    · simp only [e1,Except.error.injEq] at h; rw [← h]; exact h1 _ _ e1
    · simp only [e1] at h
      rcases ex_cases (rdK one n s') with ⟨c,e2⟩ | ⟨⟨m,s2⟩,e2⟩
      · simp only [e2,Except.error.injEq] at h; rw [← h]; exact nz_K h1 n _ _ e2
      · simp [e2] at h
theorem nz_L {α:Type} {one:Rd α} (h1:Nz one):Nz (rdL one):=fun s e h=>by
  unfold rdL at h
  rcases ex_cases (rdN s) with ⟨c,e1⟩ | ⟨⟨n,s'⟩,e1⟩
  · simp only [e1,Except.error.injEq] at h; rw [← h]; exact nz_N _ _ e1
  · simp only [e1] at h; exact nz_K h1 _ _ _ h
theorem nz_B:Nz rdB:=fun s e h=>by
  unfold rdB at h
  rcases ex_cases (rdN s) with ⟨c,e1⟩ | ⟨⟨n,s'⟩,e1⟩
  · simp only [e1,Except.error.injEq] at h; rw [← h]; exact nz_N _ _ e1
  · simp only [e1] at h
    by_cases hx:n > 1
    · rw [if_pos hx] at h; simp only [Except.error.injEq] at h; omega
    · rw [if_neg hx] at h; cases h
theorem nz_A:Nz rdA:=fun s e h=>by
  unfold rdA at h
  rcases ex_cases (rdN s) with ⟨c,e1⟩ | ⟨⟨look,s1⟩,e1⟩
  · simp only [e1,Except.error.injEq] at h; rw [← h]; exact nz_N _ _ e1
  simp only [e1] at h
  rcases ex_cases (rdN s1) with ⟨c,e2⟩ | ⟨⟨tv,s2⟩,e2⟩
  · simp only [e2,Except.error.injEq] at h; rw [← h]; exact nz_N _ _ e2
  simp only [e2] at h
  rcases ex_cases (rdL rdN s2) with ⟨c,e3⟩ | ⟨⟨red,s3⟩,e3⟩
  · simp only [e3,Except.error.injEq] at h; rw [← h]; exact nz_L nz_N _ _ e3
  simp only [e3] at h
  rcases ex_cases (rdB s3) with ⟨c,e4⟩ | ⟨⟨acc,s4⟩,e4⟩
  · simp only [e4,Except.error.injEq] at h; rw [← h]; exact nz_B _ _ e4
  simp [e4] at h
theorem nz_G:Nz rdG:=fun s e h=>by
  unfold rdG at h
  rcases ex_cases (rdN s) with ⟨c,e1⟩ | ⟨⟨x,s1⟩,e1⟩
  · simp only [e1,Except.error.injEq] at h; rw [← h]; exact nz_N _ _ e1
  simp only [e1] at h
  rcases ex_cases (rdN s1) with ⟨c,e2⟩ | ⟨⟨y,s2⟩,e2⟩
  · simp only [e2,Except.error.injEq] at h; rw [← h]; exact nz_N _ _ e2
  simp [e2] at h
theorem nz_R:Nz rdR:=fun s e h=>by
  unfold rdR at h
  rcases ex_cases (rdL rdA s) with ⟨c,e1⟩ | ⟨⟨x,s1⟩,e1⟩
  · simp only [e1,Except.error.injEq] at h; rw [← h]; exact nz_L nz_A _ _ e1
  simp only [e1] at h
  rcases ex_cases (rdL rdG s1) with ⟨c,e2⟩ | ⟨⟨y,s2⟩,e2⟩
  · simp only [e2,Except.error.injEq] at h; rw [← h]; exact nz_L nz_G _ _ e2
  simp [e2] at h
theorem nz_T {s:List UInt8} {e:Int} (h:rdT s=.error e):e≠0:=by
  unfold rdT at h
  rcases ex_cases (rdL rdR s) with ⟨c,e1⟩ | ⟨⟨l,r⟩,e1⟩
  · simp only [e1,Except.error.injEq] at h; rw [← h]; exact nz_L nz_R _ _ e1
  simp only [e1] at h
  by_cases hr:r=[]
  · rw [if_pos hr] at h; cases h
  · rw [if_neg hr] at h; simp only [Except.error.injEq] at h; omega
set_option maxRecDepth 100000 in
set_option maxHeartbeats 4000000 in
theorem tableBack_any (l:List Rw) (u:Value) (s:List UInt8) (w:World) (hl:SlW l u w) (hs:s.length≤140737488355328) (hT:Tb w) :
    Calls Tryz.prog 4 #[.agg #[u],.string ⟨s.toArray⟩] w fun e w'=>e=.returned (.bool true)∧Below w.heap.size w w':=by
  have HAW:Hid (∀ W,Below w.heap.size w W→Calls Tryz.prog 6 #[] W fun e w'=>e=.returned (.bool true)∧Below W.heap.size W w'):=fun W hb=>awake12_any W (hT.next hb)
  have HS0:Hid (∀ W,Below w.heap.size w W→SlW l u W):=fun W hb=>hl.next hb
  have HD:Hid (∀ (s:List UInt8) W,Calls Tryz.prog 7 #[.string ⟨s.toArray⟩] W fun e w'=>∃ ua uc,e=.returned (.tuple #[.agg #[.slice ua (decT s).length uc],.int .i64 (decE s)])∧SlW (decT s) (.slice ua (decT s).length uc) w'∧Below W.heap.size W w'):=fun s W=>(decode_any s W).mono fun e w' h=>h.one
  obtain ⟨la,lc,rfl,_⟩:=hl
  have B0:Below w.heap.size w (w.alloc (Obj.cells #[.slice la l.length lc] 24)):=(Below.refl _ _).alloc (Nat.le_refl _) _
  have b0:(w.alloc (Obj.cells #[.slice la l.length lc] 24)).heap[w.heap.size]?=some (Obj.cells #[.slice la l.length lc] 24):=heap_alloc_new _ _
  have e0:(w.alloc (Obj.cells #[.slice la l.length lc] 24)).cell? ⟨w.heap.size,0,none⟩=some (.slice la l.length lc):=by rw [Lib.cell_of_heap b0]; rfl
  have HL1:=rlight12_any l _ _ (HS0.out _ B0)
  clear hT
  go_enter Tryz.func4,Tryz.ntmps4
  go_upto_region 1 with fail
  generalize w.alloc (Obj.cells #[.slice la l.length lc] 24)=w0 at *
  have hz0:w.heap.size<w0.heap.size:=blk_lt b0
  have HK:Hid (∀ W,Below w0.heap.size w0 W→W.cell? ⟨w.heap.size,0,none⟩=some (.slice la l.length lc)∧SlW l (.slice la l.length lc) W∧Below w.heap.size w W):=fun W hW=>by
    have c:=B0.trans (hW.mono B0.size)
    exact ⟨(hW.cell (p:=⟨w.heap.size,0,none⟩) hz0).trans e0,HS0.out W c,c⟩
  clear HS0 b0
  go_wp2_with fail
  refine HL1.mono ?_
  rintro e w1 ⟨rfl,b1⟩
  obtain ⟨_,_,B1⟩:=HK.out w1 b1
  clear HL1 e0 B0
  by_cases hz1:sizeTb l≤20000
  case neg =>
    have hd:decide (sizeTb l≤20000)=false:=decide_eq_false hz1
    rw [hd]
    have HA:=HAW.out _ B1
    clear HK HD hd
    go_wp2_with fail
    refine HA.mono ?_
    rintro e w2 ⟨rfl,b2⟩
    have B2:=below_then B1 b2 B1.size
    clear HA b2 HAW
    go_wp2_with fail
    go_ret
    exact ⟨rfl,B2⟩
  have hd:decide (sizeTb l≤20000)=true:=decide_eq_true hz1
  rw [hd]
  clear hd
  have HEN:Hid (∀ W,Below w0.heap.size w0 W→Calls Tryz.prog 9 #[.agg #[.slice la l.length lc]] W fun e w'=>e=.returned (.string ⟨(encTab l).toArray⟩)∧Below W.heap.size W w'):=fun W hW=>encode_any l _ W (HK.out W hW).2.1 (light_reds hz1 (by omega)) (by have:=numsT_len l; omega)
  have HC:=HD.out s w1
  go_wp2_with fail
  refine HC.mono ?_
  rintro e w2 ⟨ua,uc,rfl,k1,b2⟩
  have ba:Below w2.heap.size w2 (w2.alloc (Obj.cells #[.slice ua (decT s).length uc] 24)):=(Below.refl _ _).alloc (Nat.le_refl _) _
  have pu:(w2.alloc (Obj.cells #[.slice ua (decT s).length uc] 24)).heap[w2.heap.size]?=some (Obj.cells #[.slice ua (decT s).length uc] 24):=heap_alloc_new _ _
  have B3:Below w0.heap.size w0 (w2.alloc (Obj.cells #[.slice ua (decT s).length uc] 24)):=(b1.trans (b2.mono b1.size)).trans (ba.mono (Nat.le_trans b1.size b2.size))
  have HU:Hid (SlW (decT s) (.slice ua (decT s).length uc) (w2.alloc (Obj.cells #[.slice ua (decT s).length uc] 24))):=k1.next ba
  clear HC k1 b2 ba b1 B1
  go_upto_region 4 with fail
  obtain ⟨ub,hub⟩:∃ ub,w2.heap.size=ub:=⟨_,rfl⟩
  rw [hub] at pu ⊢
  clear hub
  generalize w2.alloc (Obj.cells #[.slice ua (decT s).length uc] 24)=w3 at *
  have cu:w3.cell? ⟨ub,0,none⟩=some (.slice ua (decT s).length uc):=by rw [Lib.cell_of_heap pu]; rfl
  -- behind the first test: world W
  rcases ex_cases (rdT s) with ⟨c,hc⟩ | ⟨T,hc⟩
  · have hE:decE s=c:=by unfold decE; rw [hc]
    have hcn:=nz_T hc
    have hcz:(c == 0)=false:=beq_eq_false_iff_ne.2 hcn
    rw [hE]
    obtain ⟨c0,_,_⟩:=HK.out w3 B3
    have HE3:=HEN.out w3 B3
    clear hE hc HU pu
    go_wp2_with fail
    refine HE3.mono ?_
    rintro e w5 ⟨rfl,b5⟩
    have B5:=B3.trans (b5.mono B3.size)
    obtain ⟨_,_,BB5⟩:=HK.out w5 B5
    clear HE3 b5 HEN c0
    by_cases hem:encTab l=[]
    · have HA:=HAW.out w5 BB5
      rw [hem]
      clear HK HD
      go_wp2_with fail
      refine HA.mono ?_
      rintro e w6 ⟨rfl,b6⟩
      have B6:=below_then BB5 b6 BB5.size
      clear HA b6 HAW
      go_wp2_with fail
      go_ret
      exact ⟨rfl,B6⟩
    · have hbk:=encTab_back hem
      have hE2:decE (encTab l)=0:=by unfold decE; rw [hbk]
      have hT2:decT (encTab l)=l:=by unfold decT; rw [hbk]
      have HC:=HD.out (encTab l) w5
      rw [hE2,hT2] at HC
      have hie:(encTab l).isEmpty=false:=by simpa using hem
      have hbe:(encTab l == [])=false:=by simpa using hem
      clear HD hE2 hT2 hbk
      generalize encTab l=E at *
      go_wp2_with fail
      refine HC.mono ?_
      rintro e w6 ⟨va,vc,rfl,k6,b6⟩
      have ba:Below w6.heap.size w6 (w6.alloc (Obj.cells #[.slice va l.length vc] 24)):=(Below.refl _ _).alloc (Nat.le_refl _) _
      have pv:(w6.alloc (Obj.cells #[.slice va l.length vc] 24)).heap[w6.heap.size]?=some (Obj.cells #[.slice va l.length vc] 24):=heap_alloc_new _ _
      have B7:Below w0.heap.size w0 (w6.alloc (Obj.cells #[.slice va l.length vc] 24)):=(B5.trans (b6.mono B5.size)).trans (ba.mono (Nat.le_trans B5.size b6.size))
      obtain ⟨c7,sl7,BB7⟩:=HK.out _ B7
      have HSM:=rsame12_any l l _ _ _ sl7 (k6.next ba)
      rw [decide_eq_true rfl] at HSM
      clear HC k6 b6 ba sl7 B5 BB5
      go_upto_region 10 with fail
      obtain ⟨vb,hvb⟩:∃ vb,w6.heap.size=vb:=⟨_,rfl⟩
      rw [hvb] at pv ⊢
      clear hvb
      generalize w6.alloc (Obj.cells #[.slice va l.length vc] 24)=w7 at *
      have cv:w7.cell? ⟨vb,0,none⟩=some (.slice va l.length vc):=by rw [Lib.cell_of_heap pv]; rfl
      go_wp2_with fail
      refine HSM.mono ?_
      rintro e w8 ⟨rfl,b8⟩
      have B8:=below_then BB7 b8 BB7.size
      have HA:=HAW.out w8 B8
      clear HSM b8 HAW HK cv c7 pv
      go_wp2_with fail
      refine HA.mono ?_
      rintro e w9 ⟨rfl,b9⟩
      have B9:=below_then B8 b9 B8.size
      clear HA b9
      go_wp2_with fail
      go_ret
      exact ⟨rfl,B9⟩
  · have hE:decE s=0:=by unfold decE; rw [hc]
    have hDT:decT s=T:=by unfold decT; rw [hc]
    obtain ⟨r1,r2,r3⟩:=rdT_back hc
    rw [hE]
    have HEU:Hid (Calls Tryz.prog 9 #[.agg #[.slice ua (decT s).length uc]] w3 fun e w'=>e=.returned (.string ⟨s.toArray⟩)∧Below w3.heap.size w3 w'):=by
      have:=encode_any (decT s) _ w3 HU.out (by rw [hDT]; exact bad_reds r2) (by rw [hDT]; omega)
      rw [hDT,r1] at this
      rw [hDT]
      exact this
    clear hE hc HU pu hDT r1 r2 r3
    go_wp2_with fail
    refine HEU.out.mono ?_
    rintro e w4 ⟨rfl,b4⟩
    have B4:=B3.trans (b4.mono B3.size)
    obtain ⟨c0,_,_⟩:=HK.out w4 B4
    have HE3:=HEN.out w4 B4
    clear HEU cu b4
    go_wp2_with fail
    refine HE3.mono ?_
    rintro e w5 ⟨rfl,b5⟩
    have B5:=B4.trans (b5.mono B4.size)
    obtain ⟨_,_,BB5⟩:=HK.out w5 B5
    clear HE3 b5 HEN c0
    by_cases hem:encTab l=[]
    · have HA:=HAW.out w5 BB5
      rw [hem]
      clear HK HD
      go_wp2_with fail
      refine HA.mono ?_
      rintro e w6 ⟨rfl,b6⟩
      have B6:=below_then BB5 b6 BB5.size
      clear HA b6 HAW
      go_wp2_with fail
      go_ret
      exact ⟨rfl,B6⟩
    · have hbk:=encTab_back hem
      have hE2:decE (encTab l)=0:=by unfold decE; rw [hbk]
      have hT2:decT (encTab l)=l:=by unfold decT; rw [hbk]
      have HC:=HD.out (encTab l) w5
      rw [hE2,hT2] at HC
      have hie:(encTab l).isEmpty=false:=by simpa using hem
      have hbe:(encTab l == [])=false:=by simpa using hem
      clear HD hE2 hT2 hbk
      generalize encTab l=E at *
      go_wp2_with fail
      refine HC.mono ?_
      rintro e w6 ⟨va,vc,rfl,k6,b6⟩
      have ba:Below w6.heap.size w6 (w6.alloc (Obj.cells #[.slice va l.length vc] 24)):=(Below.refl _ _).alloc (Nat.le_refl _) _
      have pv:(w6.alloc (Obj.cells #[.slice va l.length vc] 24)).heap[w6.heap.size]?=some (Obj.cells #[.slice va l.length vc] 24):=heap_alloc_new _ _
      have B7:Below w0.heap.size w0 (w6.alloc (Obj.cells #[.slice va l.length vc] 24)):=(B5.trans (b6.mono B5.size)).trans (ba.mono (Nat.le_trans B5.size b6.size))
      obtain ⟨c7,sl7,BB7⟩:=HK.out _ B7
      have HSM:=rsame12_any l l _ _ _ sl7 (k6.next ba)
      rw [decide_eq_true rfl] at HSM
      clear HC k6 b6 ba sl7 B5 BB5
      go_upto_region 10 with fail
      obtain ⟨vb,hvb⟩:∃ vb,w6.heap.size=vb:=⟨_,rfl⟩
      rw [hvb] at pv ⊢
      clear hvb
      generalize w6.alloc (Obj.cells #[.slice va l.length vc] 24)=w7 at *
      have cv:w7.cell? ⟨vb,0,none⟩=some (.slice va l.length vc):=by rw [Lib.cell_of_heap pv]; rfl
      go_wp2_with fail
      refine HSM.mono ?_
      rintro e w8 ⟨rfl,b8⟩
      have B8:=below_then BB7 b8 BB7.size
      have HA:=HAW.out w8 B8
      clear HSM b8 HAW HK cv c7 pv
      go_wp2_with fail
      refine HA.mono ?_
      rintro e w9 ⟨rfl,b9⟩
      have B9:=below_then B8 b9 B8.size
      clear HA b9
      go_wp2_with fail
      go_ret
      exact ⟨rfl,B9⟩
end Go.Proofs.YtiamjafecbpfpaaGreatDoor
namespace Go.Proofs.YtiamjafecbpfpaaGreatDoor
open Go.ChangeShapes Go.WideShapes Go.ChangeAt Go.RowKit Go.Joins Go.Deep
theorem own:ownKnob Tryz.prog.godebug=none:=by kernel_rfl
theorem cellsInt:Tryz.prog.cellsOf 3=1:=by kernel_rfl
theorem laidOut:laidOutB Tryz.prog=true:=by kernel_rfl
theorem cell_plain {W:World} {a:Addr} {v:Value} (h:W.cell? a=some v):∃ b off,a=⟨b,off,none⟩:=by
  obtain ⟨b,off,spot⟩:=a
  have hs:spot=none:=by simpa using World.cell?_spot h
  subst hs
  exact ⟨b,off,rfl⟩
theorem i64_of {a:Int} (w:(Lit.int .i64 a).wf=true):i64B a:=by
  have:=bounds_i64 w
  exact ⟨this.1,this.2⟩
theorem getR {α:Type} {l n:Nat} {q:Nat→α} (hl:l=n) {i:Nat} {x:α} (h:((List.range l).map q)[i]?=some x):i<n∧x=q i:=by
  have hi:i<l:=by
    have:=(List.getElem?_eq_some_iff.1 h).1
    simpa using this
  rw [List.getElem?_map,List.getElem?_range hi] at h
  exact ⟨by omega,(Option.some.inj h).symm⟩
variable {H:Type} {enc:TypeId × Value→H} {W:World}
theorem weights_all {P:Program} {e:TypeId}:∀ {l:List (DataW H)} {x:DataW H},x∈l→∀ n∈x.weights P e,n∈DataW.weightsAll P e l
  | d :: r,x,h,n,hn=>by
    rw [DataW.weightsAll,List.mem_append]
    rcases List.mem_cons.1 h with rfl | h
    · exact .inl hn
    · exact .inr (weights_all h n hn)
theorem weigh_slice {t e:TypeId} {l m:Nat} {D:Nat→DataW H} (hu:Tryz.prog.underlying t=some (.slice e)) (hlm:l≤m)
    (hw:∀ n∈(DataW.slice ((List.range l).map D) ((List.range (m - l)).map fun j=>D (l+j)):DataW H).weights Tryz.prog t,n≤reachBytes) :
    m * Tryz.prog.bytesOf e≤reachBytes∧∀ i,i<l→∀ n∈(D i).weights Tryz.prog e,n≤reachBytes:=by
  rw [DataW.weights,hu] at hw
  simp only at hw
  refine ⟨?_,fun i hi n hn=>hw n ?_⟩
  · have:=hw _ (List.mem_cons_self ..)
    simp only [List.length_map,List.length_range] at this
    rw [show l+(m - l)=m by omega] at this
    exact this
  · refine List.mem_cons_of_mem _ (List.mem_append.2 (.inl (weights_all (List.mem_map.2 ⟨i,List.mem_range.2 hi,rfl⟩) n hn)))
theorem open_nums {fuel:Nat} {sp:Nat→Bool} {cs:List Value} {x:DataW H × List MemPlace} (hf:DataW.trod enc Tryz.prog W 0 sp true fuel 39 cs=some x) :
    ∃ (es:List Int) (v:Value),cs=[v]∧SlI es v W:=by
  rcases open_slice Tryz.underlying39 hf with ⟨hcs,_⟩ | ⟨a,l,c,m,n,D,Pl,hcs,_,hl,hmx,hmm,hx,hel⟩
  · exact ⟨[],_,hcs,none,0,rfl,RowAt.nil _ _ _,fun _=>rfl,Nat.le_refl _,by simp⟩
  · have hlm:l≤m:=by rw [hmm]; split <;> omega
    have each:∀ i,i<l→∃ q:Int,W.cell? (a.add i)=some (.int .i64 q)∧i64B q:=by
      intro i hi
      obtain ⟨cs',h1,h2⟩:=hel i (by omega)
      rw [cellsInt] at h1
      obtain ⟨_,hlen',hcell⟩:=World.cells?_some h1
      obtain ⟨x0,e0,_,w0⟩:=DataW.trod_int Tryz.underlying3 h2
      subst e0
      have q0:=hcell 0 (by omega)
      rw [add_add] at q0
      exact ⟨x0,by simpa using q0,i64_of w0⟩
    obtain ⟨q,hq⟩:=choose_lt each
    refine ⟨(List.range l).map q,_,hcs,some a,c,by simp,fun i r hr=>?_,(fun h=>by cases h),by simpa using hl,fun y hy=>?_⟩
    · obtain ⟨hi,rfl⟩:=getR rfl hr
      have c0:=(hq i hi).1
      have hc':W.cell? a=some (.int .i64 (q 0)):=by simpa [Addr.add] using (hq 0 (by omega)).1
      obtain ⟨b,off,rfl⟩:=cell_plain hc'
      rw [add_plain] at c0
      exact ⟨b,off,rfl,World.block_lt_of_cell? W _ hc',c0⟩
    · obtain ⟨i,hi,rfl⟩:=List.mem_map.1 hy
      exact (hq i (List.mem_range.1 hi)).2
theorem cellsGo12:Tryz.prog.cellsOf 65=2:=by kernel_rfl
theorem cellsAct:Tryz.prog.cellsOf 41=4:=by kernel_rfl
theorem cellsRow:Tryz.prog.cellsOf 38=2:=by kernel_rfl
theorem cellsTab:Tryz.prog.cellsOf 24=1:=by kernel_rfl
theorem cellsBool12:Tryz.prog.cellsOf 4=1:=by kernel_rfl
theorem cellsInts12:Tryz.prog.cellsOf 39=1:=by kernel_rfl
theorem cellsActs:Tryz.prog.cellsOf 35=1:=by kernel_rfl
theorem cellsGos:Tryz.prog.cellsOf 36=1:=by kernel_rfl
theorem cellsRows:Tryz.prog.cellsOf 22=1:=by kernel_rfl
theorem bytesGo12:Tryz.prog.bytesOf 65=16:=by kernel_rfl
theorem bytesAct:Tryz.prog.bytesOf 41=48:=by kernel_rfl
theorem bytesRow12:Tryz.prog.bytesOf 38=48:=by kernel_rfl
theorem bytesInt12:Tryz.prog.bytesOf 3=8:=by kernel_rfl
theorem two_of12:∀ {l:List Value},l.length=2→∃ a b,l=[a,b]
  | [a,b],_=>⟨a,b,rfl⟩
theorem four_of12:∀ {l:List Value},l.length=4→∃ a b c d,l=[a,b,c,d]
  | [a,b,c,d],_=>⟨a,b,c,d,rfl⟩
variable {H:Type} {enc:TypeId × Value→H} {W:World}
theorem len_ints {fuel:Nat} {cs:List Value} {x:DataW H × List MemPlace} (hf:DataW.trod enc Tryz.prog W 0 (fun _=>true) true fuel 39 cs=some x) (hw:∀ n∈x.1.weights Tryz.prog 39,n≤reachBytes) :
    ∃ ao n c,cs=[.slice ao n c]∧n≤140737488351232:=by
  rcases open_slice Tryz.underlying39 hf with ⟨hcs,_⟩ | ⟨a,l,c,m,n,D,Pl,hcs,_,hl,hmx,hmm,hx,hel⟩
  · exact ⟨none,0,0,hcs,by omega⟩
  · have hm:m=c:=by simpa using hmm
    subst hm
    rw [hx] at hw
    have hwt:=(weigh_slice Tryz.underlying39 hl hw).1
    rw [bytesInt12] at hwt
    unfold reachBytes at hwt
    exact ⟨_,_,_,hcs,by omega⟩
set_option maxRecDepth 100000 in
theorem open_gos {fuel:Nat} {cs:List Value} {x:DataW H × List MemPlace} (hf:DataW.trod enc Tryz.prog W 0 (fun _=>true) true fuel 36 cs=some x) (hw:∀ n∈x.1.weights Tryz.prog 36,n≤reachBytes) :
    ∃ (es:List (Int × Int)) (v:Value),cs=[v]∧SlG es v W:=by
  rcases open_slice Tryz.underlying36 hf with ⟨hcs,_⟩ | ⟨a,l,c,m,n,D,Pl,hcs,_,hl,hmx,hmm,hx,hel⟩
  · exact ⟨[],_,hcs,SlG.nil W⟩
  · have hm:m=c:=by simpa using hmm
    subst hm
    rw [hx] at hw
    have hwt:=(weigh_slice Tryz.underlying36 hl hw).1
    rw [bytesGo12] at hwt
    unfold reachBytes at hwt
    have each:∀ i,i<l→∃ q:Int × Int,W.cell? (a.add (i * 2))=some (.int .i64 q.1)∧W.cell? (a.add (i * 2+1))=some (.int .i64 q.2)∧i64B q.1∧i64B q.2:=by
      intro i hi
      obtain ⟨cs',h1,h2⟩:=hel i (by omega)
      rw [cellsGo12] at h1
      obtain ⟨_,hlen',hcell⟩:=World.cells?_some h1
      obtain ⟨y0,y1,k,hy,_,g0,g1⟩:=trod_struct2 Tryz.underlying65 h2
      obtain ⟨v0,v1,rfl⟩:=two_of12 hlen'
      simp [cellsInt] at g0 g1
      obtain ⟨x0,e0,_,w0⟩:=DataW.trod_int Tryz.underlying3 g0
      obtain ⟨x1,e1,_,w1⟩:=DataW.trod_int Tryz.underlying3 g1
      simp at e0 e1
      subst e0 e1
      have q0:=hcell 0 (by omega)
      have q1:=hcell 1 (by omega)
      rw [add_add] at q0 q1
      exact ⟨(x0,x1),by simpa using q0,by simpa using q1,i64_of w0,i64_of w1⟩
    haveI:Inhabited (Int × Int):=⟨(0,0)⟩
    obtain ⟨q,hq⟩:=choose_lt each
    refine ⟨(List.range l).map q,_,hcs,some a,m,by simp,fun i r hr=>?_,(fun h=>by cases h),by simpa using hl,by simp; omega⟩
    obtain ⟨hi,rfl⟩:=getR rfl hr
    obtain ⟨c0,c1,c2,c3⟩:=hq i hi
    have hc':W.cell? a=some (.int .i64 (q 0).1):=by simpa [Addr.add] using (hq 0 (by omega)).1
    obtain ⟨b,off,rfl⟩:=cell_plain hc'
    rw [add_plain] at c0 c1
    exact ⟨b,off,rfl,World.block_lt_of_cell? W _ hc',c0,c1,c2,c3⟩
set_option maxRecDepth 100000 in
theorem open_acts {fuel:Nat} {cs:List Value} {x:DataW H × List MemPlace} (hf:DataW.trod enc Tryz.prog W 0 (fun _=>true) true fuel 35 cs=some x) (hw:∀ n∈x.1.weights Tryz.prog 35,n≤reachBytes) :
    ∃ (es:List Ac) (v:Value),cs=[v]∧SlA es v W:=by
  rcases open_slice Tryz.underlying35 hf with ⟨hcs,_⟩ | ⟨a,l,c,m,n,D,Pl,hcs,_,hl,hmx,hmm,hx,hel⟩
  · exact ⟨[],_,hcs,SlA.nil W⟩
  · have hm:m=c:=by simpa using hmm
    subst hm
    rw [hx] at hw
    have hwt:=weigh_slice Tryz.underlying35 hl hw
    rw [bytesAct] at hwt
    have hb:=hwt.1
    unfold reachBytes at hb
    have each:∀ i,i<l→∃ q:Ac × Value,W.cell? (a.add (i * 4))=some (.int .i64 q.1.look)∧W.cell? (a.add (i * 4+1))=some (.int .i64 q.1.to)∧W.cell? (a.add (i * 4+2))=some q.2∧W.cell? (a.add (i * 4+3))=some (.bool q.1.acc)∧SlI q.1.red q.2 W∧i64B q.1.look∧i64B q.1.to∧q.1.red.length≤140737488351232:=by
      intro i hi
      obtain ⟨cs',h1,h2⟩:=hel i (by omega)
      rw [cellsAct] at h1
      obtain ⟨_,hlen',hcell⟩:=World.cells?_some h1
      obtain ⟨y0,y1,y2,y3,k,hy,_,g0,g1,g2,g3⟩:=trod_struct4 Tryz.underlying41 h2
      have hwi:=hwt.2 i hi
      have hy1:D i=.agg [y0.1,y1.1,y2.1,y3.1]:=by have:=congrArg Prod.fst hy; exact this
      rw [hy1,DataW.weights,Tryz.underlying41] at hwi
      obtain ⟨v0,v1,v2,v3,rfl⟩:=four_of12 hlen'
      simp [cellsInt,cellsInts12,cellsBool12] at g0 g1 g2 g3
      obtain ⟨x0,e0,_,w0⟩:=DataW.trod_int Tryz.underlying3 g0
      obtain ⟨x1,e1,_,w1⟩:=DataW.trod_int Tryz.underlying3 g1
      obtain ⟨x3,e3,_⟩:=DataW.trod_bool Tryz.underlying4 g3
      obtain ⟨ns,vv,e2,hN⟩:=open_nums g2
      obtain ⟨_,nl,_,e4,hnl⟩:=len_ints g2 (fun n hn=>hwi n (by simp [DataW.weightsEach,hn]))
      simp at e0 e1 e2 e3 e4
      subst e0 e1 e2 e3
      have hnl2:ns.length≤140737488351232:=by
        obtain ⟨_,_,h0,_⟩:=hN
        rw [h0] at e4
        cases e4
        exact hnl
      have q0:=hcell 0 (by omega)
      have q1:=hcell 1 (by omega)
      have q2:=hcell 2 (by omega)
      have q3:=hcell 3 (by omega)
      rw [add_add] at q0 q1 q2 q3
      exact ⟨(⟨x0,x1,ns,x3⟩,v2),by simpa using q0,by simpa using q1,by simpa using q2,by simpa using q3,hN,i64_of w0,i64_of w1,hnl2⟩
    haveI:Inhabited (Ac × Value):=⟨(⟨0,0,[],false⟩,.bool false)⟩
    obtain ⟨q,hq⟩:=choose_lt each
    refine ⟨(List.range l).map fun i=>(q i).1,_,hcs,some a,m,by simp,fun i r hr=>?_,(fun h=>by cases h),by simpa using hl,by simp; omega⟩
    obtain ⟨hi,rfl⟩:=getR rfl hr
    obtain ⟨c0,c1,c2,c3,c4⟩:=hq i hi
    have hc':W.cell? a=some (.int .i64 (q 0).1.look):=by simpa [Addr.add] using (hq 0 (by omega)).1
    obtain ⟨b,off,rfl⟩:=cell_plain hc'
    rw [add_plain] at c0 c1 c2 c3
    exact ⟨b,off,_,rfl,World.block_lt_of_cell? W _ hc',c0,c1,c2,c3,c4⟩
set_option maxRecDepth 100000 in
theorem open_rws {fuel:Nat} {cs:List Value} {x:DataW H × List MemPlace} (hf:DataW.trod enc Tryz.prog W 0 (fun _=>true) true fuel 22 cs=some x) (hw:∀ n∈x.1.weights Tryz.prog 22,n≤reachBytes) :
    ∃ (es:List Rw) (v:Value),cs=[v]∧SlW es v W:=by
  rcases open_slice Tryz.underlying22 hf with ⟨hcs,_⟩ | ⟨a,l,c,m,n,D,Pl,hcs,_,hl,hmx,hmm,hx,hel⟩
  · exact ⟨[],_,hcs,SlW.nil W⟩
  · have hm:m=c:=by simpa using hmm
    subst hm
    rw [hx] at hw
    have hwt:=weigh_slice Tryz.underlying22 hl hw
    rw [bytesRow12] at hwt
    have hb:=hwt.1
    unfold reachBytes at hb
    have each:∀ i,i<l→∃ q:Rw × Value × Value,W.cell? (a.add (i * 2))=some q.2.1∧W.cell? (a.add (i * 2+1))=some q.2.2∧SlA q.1.acts q.2.1 W∧SlG q.1.goes q.2.2 W:=by
      intro i hi
      obtain ⟨cs',h1,h2⟩:=hel i (by omega)
      rw [cellsRow] at h1
      obtain ⟨_,hlen',hcell⟩:=World.cells?_some h1
      obtain ⟨y0,y1,k,hy,_,g0,g1⟩:=trod_struct2 Tryz.underlying38 h2
      have hwi:=hwt.2 i hi
      have hy1:D i=.agg [y0.1,y1.1]:=by have:=congrArg Prod.fst hy; exact this
      rw [hy1,DataW.weights,Tryz.underlying38] at hwi
      obtain ⟨v0,v1,rfl⟩:=two_of12 hlen'
      simp [cellsActs,cellsGos] at g0 g1
      obtain ⟨acs,va,e0,hA⟩:=open_acts g0 (fun n hn=>hwi n (by simp [DataW.weightsEach,hn]))
      obtain ⟨gs,vg,e1,hG⟩:=open_gos g1 (fun n hn=>hwi n (by simp [DataW.weightsEach,hn]))
      simp at e0 e1
      subst e0 e1
      have q0:=hcell 0 (by omega)
      have q1:=hcell 1 (by omega)
      rw [add_add] at q0 q1
      exact ⟨(⟨acs,gs⟩,v0,v1),by simpa using q0,by simpa using q1,hA,hG⟩
    haveI:Inhabited (Rw × Value × Value):=⟨(⟨[],[]⟩,.bool false,.bool false)⟩
    obtain ⟨q,hq⟩:=choose_lt each
    refine ⟨(List.range l).map fun i=>(q i).1,_,hcs,some a,m,by simp,fun i r hr=>?_,(fun h=>by cases h),by simpa using hl,by simp; omega⟩
    obtain ⟨hi,rfl⟩:=getR rfl hr
    obtain ⟨c0,c1,c2,c3⟩:=hq i hi
    have hc':W.cell? a=some (q 0).2.1:=by simpa [Addr.add] using (hq 0 (by omega)).1
    obtain ⟨b,off,rfl⟩:=cell_plain hc'
    rw [add_plain] at c0 c1
    exact ⟨b,off,_,_,rfl,World.block_lt_of_cell? W _ hc',c0,c1,c2,c3⟩
set_option maxRecDepth 100000 in
theorem open_table {r:Reach} {b0:Nat} {v:Value} {d:DataW H} {p:List MemPlace} (hv:Value.okWide Tryz.prog W r b0 24 v) (h:DataW.Trod enc Tryz.prog W 0 (fun _=>true) true 24 v d p) (hw:∀ n∈d.weights Tryz.prog 24,n≤reachBytes) :
    ∃ (l:List Rw) (u:Value),v=.agg #[u]∧SlW l u W:=by
  obtain ⟨cs,rfl,hsz⟩:=okWide_struct Tryz.underlying24 hv
  rw [cellsTab] at hsz
  obtain ⟨c0,rfl⟩:∃ c0,cs=#[c0]:=by
    obtain ⟨l⟩:=cs
    match l,hsz with
    | [c0],_=>exact ⟨c0,rfl⟩
  obtain ⟨fuel,hf⟩:=h
  obtain ⟨y0,n,hx,_,g0⟩:=trod_struct1 Tryz.underlying24 hf
  simp only [Prod.mk.injEq] at hx
  rw [hx.1,DataW.weights,Tryz.underlying24] at hw
  simp [Value.cells,cellsRows] at g0
  obtain ⟨l,u,e0,hl⟩:=open_rws g0 (fun n hn=>hw n (by simp [DataW.weightsEach,hn]))
  simp at e0
  subst e0
  exact ⟨l,_,rfl,hl⟩
abbrev laidL:List (String × DataW Unit):=[("math/bits.deBruijn64tab",Rows.laid_math_bits_deBruijn64tab)]
theorem Tryz.gTab:Tryz.prog.globalNamed "math/bits.deBruijn64tab" = some 0:=by kernel_rfl
theorem tTab:(Tryz.prog.globals[0]?).map (·.type)=some 223:=by kernel_rfl
theorem tb_of_laid {W:World} (h:laidMetH Tryz.prog laidL W):Tb W:=by
  rw [MakeChecks.laidMetH_plain _ _ _ (by kernel_rfl)] at h
  have htab:=Lib.tabIs_of_head (k:=.u8) (zs:=Lib.deBruijn64tab.map (fun n:Nat=>(n:Int))) Tryz.gTab tTab Tryz.underlying223 Tryz.underlying5 (by kernel_rfl) (by kernel_rfl) h
  unfold Lib.TabIs at htab
  have key:TabAt 0 Lib.deBruijn64tab W:=fun j hj=>by
    have:=World.var?_cell Tryz.gTab htab j
    rw [this]
    simp [hj]
  exact ⟨key,World.block_lt_of_cell? W _ (key 0 (by decide))⟩
theorem door_met (os:Os) (args:Array Value):laidMetH Tryz.prog laidL ((World.doorLaid Tryz.prog 200 os).forCall (fun _ _=>0) ⟨#[],args,[]⟩).memory :=
  laidMetH_of_parts3 (fuel:=8) (laidMet_of_run' 8 (by kernel_rfl) (by kernel_rfl)) (by kernel_rfl) (by kernel_rfl)
end Go.Proofs.YtiamjafecbpfpaaGreatDoor
