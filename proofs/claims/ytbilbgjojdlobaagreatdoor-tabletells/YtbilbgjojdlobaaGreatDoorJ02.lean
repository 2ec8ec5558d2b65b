import Derived.Test.YtbilbgjojdlobaaGreatDoorJ01
import Derived.Laws.AppendOwn
import Derived.Laws.OwnMore
import Derived.WalkKit
import Derived.RangeFuncNested
import Derived.RangeFuncBound
import Derived.RangeFuncCalls
import Derived.RangeFuncLeaves
import Derived.Shelf.Abstract
import Derived.Shelf.RegionOpen
import Derived.OwnWalkIn
import Derived.TacticsInMore
import Derived.LoopNIn
import Derived.LoopIn
import Derived.Scope
import Derived.Sort.LoopGhostIn

namespace Go.Proofs.YtbilbgjojdlobaaGreatDoor
open Go.RowKit
set_option maxRecDepth 100000 in
set_option maxHeartbeats 2000000 in
theorem fit_item (f:Fl) (a:FlA) (x:Ir) (w:World) (hf:FlAt f a w) (hn:f.n≤600) :
    Calls Tryz.prog 99 #[a.val f,valR x] w fun e w'=>e=.returned (.bool (fitI f x))∧Below w.heap.size w w':=by
  have hR:=fun W (hb:Below w.heap.size w W) (h1:-1≤x.1) (h2:x.1<f.prods.length)=>right_any f a x.1 W (hf.next hb) hn h1 h2
  have hE:=fun W=>end_any f a W
  obtain ⟨ta,tc,na,nc,pa,pc⟩:=a
  obtain ⟨x0,x1,x2⟩:=x
  have X0:=FBox.new f ⟨ta,tc,na,nc,pa,pc⟩ 25 w
  have B0:Below w.heap.size w (w.alloc (fobj f ⟨ta,tc,na,nc,pa,pc⟩ 25)):=(Below.refl _ _).alloc (Nat.le_refl _) _
  have Y0:=RBox.new (x0,x1,x2) 77 (w.alloc (fobj f ⟨ta,tc,na,nc,pa,pc⟩ 25))
  have X1:=X0.next ((Below.refl _ _).alloc (Nat.le_refl _) (Obj.cells #[.int .i64 x0,.int .i64 x1,.int .i64 x2] 77))
  have B1:=B0.alloc B0.size (Obj.cells #[.int .i64 x0,.int .i64 x1,.int .i64 x2] 77)
  have hz:(w.alloc (fobj f ⟨ta,tc,na,nc,pa,pc⟩ 25)).heap.size=w.heap.size+1:=by simp
  rw [hz] at Y0
  clear X0 B0 hf hz
  unfold fobj at X1 B1 Y0
  unfold FlA.val at hR hE ⊢
  unfold valR
  simp only at *
  have HW:Hid (fitI f (x0,x1,x2)=decide (-1≤x0∧x0<f.prods.length∧0≤x1∧x1≤(rightI f x0).length∧0≤x2∧x2≤f.terms.length)):=rfl
  obtain ⟨b1,y0,y1,y2⟩:=id Y0
  obtain ⟨b0,z0,z1,z2⟩:=id X1
  simp only at y0 y1 y2 z0 z1 z2
  by_cases g1:x0 < -1
  · have HZ:Hid (fitI f (x0,x1,x2)=false):=by show _=_; rw [HW.out]; exact decide_eq_false (by omega)
    clear hR hE HW X1 Y0
    go_enter Tryz.func99,Tryz.ntmps99
    go_wp2_with fail
    go_ret
    exact ⟨ret_bool HZ.out.symm,B1⟩
  by_cases g2:(f.prods.length:Int)≤x0
  · have HZ:Hid (fitI f (x0,x1,x2)=false):=by show _=_; rw [HW.out]; exact decide_eq_false (by omega)
    clear hR hE HW X1 Y0
    go_enter Tryz.func99,Tryz.ntmps99
    go_wp2_with fail
    go_ret
    exact ⟨ret_bool HZ.out.symm,B1⟩
  have g1':decide (x0 < -1)=false:=decide_eq_false g1
  have g2':decide ((f.prods.length:Int)≤x0)=false:=decide_eq_false g2
  go_enter Tryz.func99,Tryz.ntmps99
  go_wp2_with fail
  generalize (w.alloc (Obj.cells #[Value.slice ta f.terms.length tc,Value.slice na f.nons.length nc,Value.slice pa f.prods.length pc] 25)).alloc (Obj.cells #[.int .i64 x0,.int .i64 x1,.int .i64 x2] 77)=w0 at *
  have hstep:∀ W w',(W.cell? ⟨w.heap.size,0,none⟩=some (.slice ta f.terms.length tc)∧W.cell? ⟨w.heap.size,1,none⟩=some (.slice na f.nons.length nc)∧W.cell? ⟨w.heap.size,2,none⟩=some (.slice pa f.prods.length pc)∧W.cell? ⟨w.heap.size+1,0,none⟩=some (.int .i64 x0)∧W.cell? ⟨w.heap.size+1,1,none⟩=some (.int .i64 x1)∧W.cell? ⟨w.heap.size+1,2,none⟩=some (.int .i64 x2)∧Below w0.heap.size w0 W)→Below W.heap.size W w'→(w'.cell? ⟨w.heap.size,0,none⟩=some (.slice ta f.terms.length tc)∧w'.cell? ⟨w.heap.size,1,none⟩=some (.slice na f.nons.length nc)∧w'.cell? ⟨w.heap.size,2,none⟩=some (.slice pa f.prods.length pc)∧w'.cell? ⟨w.heap.size+1,0,none⟩=some (.int .i64 x0)∧w'.cell? ⟨w.heap.size+1,1,none⟩=some (.int .i64 x1)∧w'.cell? ⟨w.heap.size+1,2,none⟩=some (.int .i64 x2)∧Below w0.heap.size w0 w'):=by
    rintro W w' ⟨_,_,_,_,_,_,h⟩ hb
    have h':=below_then h hb h.size
    obtain ⟨_,k0,k1,k2⟩:=X1.next h'
    obtain ⟨_,l0,l1,l2⟩:=Y0.next h'
    exact ⟨k0,k1,k2,l0,l1,l2,h'⟩
  have hR':∀ W,(W.cell? ⟨w.heap.size,0,none⟩=some (.slice ta f.terms.length tc)∧W.cell? ⟨w.heap.size,1,none⟩=some (.slice na f.nons.length nc)∧W.cell? ⟨w.heap.size,2,none⟩=some (.slice pa f.prods.length pc)∧W.cell? ⟨w.heap.size+1,0,none⟩=some (.int .i64 x0)∧W.cell? ⟨w.heap.size+1,1,none⟩=some (.int .i64 x1)∧W.cell? ⟨w.heap.size+1,2,none⟩=some (.int .i64 x2)∧Below w0.heap.size w0 W)→Calls Tryz.prog 100 #[.agg #[.slice ta f.terms.length tc,.slice na f.nons.length nc,.slice pa f.prods.length pc],.int .i64 x0] W fun e w'=>∃ va vc,e=.returned (.slice va (rightI f x0).length vc)∧(w'.cell? ⟨w.heap.size,0,none⟩=some (.slice ta f.terms.length tc)∧w'.cell? ⟨w.heap.size,1,none⟩=some (.slice na f.nons.length nc)∧w'.cell? ⟨w.heap.size,2,none⟩=some (.slice pa f.prods.length pc)∧w'.cell? ⟨w.heap.size+1,0,none⟩=some (.int .i64 x0)∧w'.cell? ⟨w.heap.size+1,1,none⟩=some (.int .i64 x1)∧w'.cell? ⟨w.heap.size+1,2,none⟩=some (.int .i64 x2)∧Below w0.heap.size w0 w'):=by
    intro W hS
    refine (hR W (below_then B1 hS.2.2.2.2.2.2 B1.size) (by omega) (by omega)).mono ?_
    rintro e w' ⟨v,rfl,⟨va,vc,rfl,_⟩,hb⟩
    exact ⟨va,vc,rfl,hstep _ _ hS hb⟩
  have hE':∀ W,(W.cell? ⟨w.heap.size,0,none⟩=some (.slice ta f.terms.length tc)∧W.cell? ⟨w.heap.size,1,none⟩=some (.slice na f.nons.length nc)∧W.cell? ⟨w.heap.size,2,none⟩=some (.slice pa f.prods.length pc)∧W.cell? ⟨w.heap.size+1,0,none⟩=some (.int .i64 x0)∧W.cell? ⟨w.heap.size+1,1,none⟩=some (.int .i64 x1)∧W.cell? ⟨w.heap.size+1,2,none⟩=some (.int .i64 x2)∧Below w0.heap.size w0 W)→Calls Tryz.prog 127 #[.agg #[.slice ta f.terms.length tc,.slice na f.nons.length nc,.slice pa f.prods.length pc]] W fun e w'=>e=.returned (.int .i64 f.terms.length)∧(w'.cell? ⟨w.heap.size,0,none⟩=some (.slice ta f.terms.length tc)∧w'.cell? ⟨w.heap.size,1,none⟩=some (.slice na f.nons.length nc)∧w'.cell? ⟨w.heap.size,2,none⟩=some (.slice pa f.prods.length pc)∧w'.cell? ⟨w.heap.size+1,0,none⟩=some (.int .i64 x0)∧w'.cell? ⟨w.heap.size+1,1,none⟩=some (.int .i64 x1)∧w'.cell? ⟨w.heap.size+1,2,none⟩=some (.int .i64 x2)∧Below w0.heap.size w0 w'):=by
    intro W hS
    refine (hE W).mono ?_
    rintro e w' ⟨rfl,hb⟩
    exact ⟨rfl,hstep _ _ hS hb⟩
  have HS0:Hid (w0.drew.cell? ⟨w.heap.size,0,none⟩=some (.slice ta f.terms.length tc)∧w0.drew.cell? ⟨w.heap.size,1,none⟩=some (.slice na f.nons.length nc)∧w0.drew.cell? ⟨w.heap.size,2,none⟩=some (.slice pa f.prods.length pc)∧w0.drew.cell? ⟨w.heap.size+1,0,none⟩=some (.int .i64 x0)∧w0.drew.cell? ⟨w.heap.size+1,1,none⟩=some (.int .i64 x1)∧w0.drew.cell? ⟨w.heap.size+1,2,none⟩=some (.int .i64 x2)∧Below w0.heap.size w0 w0.drew):=⟨z0,z1,z2,y0,y1,y2,(Below.refl _ _).drew⟩
  have HBB:Hid (∀ W,Below w0.heap.size w0 W→Below w.heap.size w W):=fun W hb=>below_then B1 hb B1.size
  generalize (rightI f x0).length=L at *
  clear hR hE hstep X1 Y0 B1 b0 b1 z0 z1 z2 y0 y1 y2
  by_cases d1:0≤x1
  · by_cases d2:x1≤L
    · by_cases d3:0≤x2
      · have HZ:Hid (fitI f (x0,x1,x2)=decide (x2≤f.terms.length)):=by
          show _=_; rw [HW.out,Bool.eq_iff_iff,decide_eq_true_eq,decide_eq_true_eq]; omega
        have d1':decide (0≤x1)=true:=decide_eq_true d1
        have d2':decide (x1≤(L:Int))=true:=decide_eq_true d2
        have d3':decide (0≤x2)=true:=decide_eq_true d3
        clear HW
        go_region_held3 (fun W=>W.cell? ⟨w.heap.size,0,none⟩=some (.slice ta f.terms.length tc)∧W.cell? ⟨w.heap.size,1,none⟩=some (.slice na f.nons.length nc)∧W.cell? ⟨w.heap.size,2,none⟩=some (.slice pa f.prods.length pc)∧W.cell? ⟨w.heap.size+1,0,none⟩=some (.int .i64 x0)∧W.cell? ⟨w.heap.size+1,1,none⟩=some (.int .i64 x1)∧W.cell? ⟨w.heap.size+1,2,none⟩=some (.int .i64 x2)∧Below w0.heap.size w0 W) (first | exact HS0.out | assumption) (first
          | (go_at_call 100; refine (hR' _ (by assumption)).mono ?_; rintro e w' ⟨va,vc,rfl,hS⟩)
          | (go_at_call 127; refine (hE' _ (by assumption)).mono ?_; rintro e w'' ⟨rfl,hS2⟩))
        have HBx:Hid (Below w.heap.size w w''):=HBB.out _ hS2.2.2.2.2.2.2
        clear hS2 hR' hE' HBB
        go_wp2_with fail
        go_ret
        exact ⟨ret_bool HZ.out.symm,HBx.out⟩
      · have HZ:Hid (fitI f (x0,x1,x2)=false):=by show _=_; rw [HW.out]; exact decide_eq_false (by omega)
        have d1':decide (0≤x1)=true:=decide_eq_true d1
        have d2':decide (x1≤(L:Int))=true:=decide_eq_true d2
        have d3':decide (0≤x2)=false:=decide_eq_false d3
        clear HW hE'
        refine wp_region_L (fun W=>W.cell? ⟨w.heap.size,0,none⟩=some (.slice ta f.terms.length tc)∧W.cell? ⟨w.heap.size,1,none⟩=some (.slice na f.nons.length nc)∧W.cell? ⟨w.heap.size,2,none⟩=some (.slice pa f.prods.length pc)∧W.cell? ⟨w.heap.size+1,0,none⟩=some (.int .i64 x0)∧W.cell? ⟨w.heap.size+1,1,none⟩=some (.int .i64 x1)∧W.cell? ⟨w.heap.size+1,2,none⟩=some (.int .i64 x2)∧Below w0.heap.size w0 W) 26 (by kernel_rfl) 26 rfl ?_
        refine lk ⟨some 16,.fieldAddr 77 (.tmp 3) 1,0, "item.go:52",#[],none⟩ HS0.out ?_;simp only [Act.put,sA,s0,sS]
        refine lk ⟨some 17,.load 3 (.tmp 16),3, "item.go:52",#[⟨0,.data⟩],none⟩ HS0.out ?_;simp only [Act.put,sA,s0,sS]
        refine lk ⟨some 18,.binOp .leq 3 (.const (.int .i64 0)) (.tmp 17) 3,4, "item.go:52",#[⟨1,.data⟩],none⟩ HS0.out ?_;simp only [Act.put,sA,s0,sS]
        refine lk ⟨some 19,.move (.tmp 18),4, "item.go:52",#[⟨2,.data⟩],none⟩ HS0.out ?_;simp only [Act.put,sA,s0,sS]
        refine lk ⟨some 20,.fieldAddr 77 (.tmp 3) 1,0, "item.go:52",#[⟨3,.guard⟩],some (3,true)⟩ HS0.out ?_;simp only [Act.put,sA,s0,sS]
        refine lk ⟨some 21,.load 3 (.tmp 20),3, "item.go:52",#[⟨4,.data⟩,⟨3,.guard⟩],some (3,true)⟩ HS0.out ?_;simp only [Act.put,sA,s0,sS]
        refine lk ⟨some 22,.load 25 (.tmp 2),25, "item.go:52",#[⟨3,.guard⟩],some (3,true)⟩ HS0.out ?_;simp only [Act.put,sA,s0,sS]
        refine lk ⟨some 23,.fieldAddr 77 (.tmp 3) 0,0, "item.go:52",#[⟨3,.guard⟩],some (3,true)⟩ HS0.out ?_;simp only [Act.put,sA,s0,sS]
        refine lk ⟨some 24,.load 3 (.tmp 23),3, "item.go:52",#[⟨7,.data⟩,⟨3,.guard⟩],some (3,true)⟩ HS0.out ?_;simp only [Act.put,sA,s0,sS]
        refine wpL_one (o:=⟨some 25,.call ⟨.value (.func 100),#[.tmp 22,.tmp 24],#[25,3]⟩,56, "item.go:52",#[⟨6,.data⟩,⟨8,.data⟩,⟨3,.chain⟩,⟨3,.guard⟩],some (3,true)⟩) (by decide) (by kernel_rfl) rfl (fun K hK=>?_)
        go_simp
        refine (hR' _ HS0.out).mono ?_
        rintro e w' ⟨va,vc,rfl,hS⟩
        refine hK.out _ _ (fun _=>hS) ?_
        clear hK
        refine lk ⟨some 26,.call ⟨.builtin .len,#[.tmp 25],#[56]⟩,3, "item.go:52",#[⟨9,.data⟩,⟨3,.guard⟩],some (3,true)⟩ hS ?_;simp only [Act.put,sA,s0,sS]
        refine lk ⟨some 27,.binOp .leq 3 (.tmp 21) (.tmp 26) 3,4, "item.go:52",#[⟨5,.data⟩,⟨10,.data⟩,⟨3,.guard⟩],some (3,true)⟩ hS ?_;simp only [Act.put,sA,s0,sS]
        refine lk ⟨some 28,.pick (.tmp 19) (.tmp 27) (.const (.bool false)),4, "item.go:52",#[⟨3,.data⟩,⟨11,.data⟩],none⟩ hS ?_;simp only [Act.put,sA,s0,sS]
        refine lk ⟨some 29,.move (.tmp 28),4, "item.go:52",#[⟨12,.data⟩,⟨9,.chain⟩],none⟩ hS ?_;simp only [Act.put,sA,s0,sS]
        refine lk ⟨some 30,.fieldAddr 77 (.tmp 3) 2,0, "item.go:52",#[⟨13,.guard⟩],some (13,true)⟩ hS ?_;simp only [Act.put,sA,s0,sS]
        refine lk ⟨some 31,.load 3 (.tmp 30),3, "item.go:52",#[⟨14,.data⟩,⟨13,.guard⟩],some (13,true)⟩ hS ?_;simp only [Act.put,sA,s0,sS]
        refine lk ⟨some 32,.binOp .leq 3 (.const (.int .i64 0)) (.tmp 31) 3,4, "item.go:52",#[⟨15,.data⟩,⟨13,.guard⟩],some (13,true)⟩ hS ?_;simp only [Act.put,sA,s0,sS]
        refine lk ⟨some 33,.pick (.tmp 29) (.tmp 32) (.const (.bool false)),4, "item.go:52",#[⟨13,.data⟩,⟨16,.data⟩],none⟩ hS ?_;simp only [Act.put,sA,s0,sS]
        refine lk ⟨some 34,.move (.tmp 33),4, "item.go:52",#[⟨17,.data⟩,⟨13,.chain⟩],none⟩ hS ?_;simp only [Act.put,sA,s0,sS]
        refine lu ⟨some 35,.fieldAddr 77 (.tmp 3) 2,0, "item.go:52",#[⟨18,.guard⟩],some (18,true)⟩ hS ?_;simp only [Act.put,sA,s0,sS]
        refine lu ⟨some 36,.load 3 (.tmp 35),3, "item.go:52",#[⟨19,.data⟩,⟨18,.guard⟩],some (18,true)⟩ hS ?_;simp only [Act.put,sA,s0,sS]
        refine lu ⟨some 37,.load 25 (.tmp 2),25, "item.go:52",#[⟨18,.guard⟩],some (18,true)⟩ hS ?_;simp only [Act.put,sA,s0,sS]
        refine lu ⟨some 38,.call ⟨.value (.func 127),#[.tmp 37],#[25]⟩,3, "item.go:52",#[⟨21,.data⟩,⟨18,.chain⟩,⟨18,.guard⟩],some (18,true)⟩ hS ?_;simp only [Act.put,sA,s0,sS]
        refine lu ⟨some 39,.binOp .leq 3 (.tmp 36) (.tmp 38) 3,4, "item.go:52",#[⟨20,.data⟩,⟨22,.data⟩,⟨18,.guard⟩],some (18,true)⟩ hS ?_;simp only [Act.put,sA,s0,sS]
        refine lk ⟨some 40,.pick (.tmp 34) (.tmp 39) (.const (.bool false)),4, "item.go:52",#[⟨18,.data⟩,⟨23,.data⟩],none⟩ hS ?_;simp only [Act.put,sA,s0,sS]
        refine lk ⟨some 4,.assign (.tmp 40),4, "item.go:52",#[⟨24,.data⟩,⟨22,.chain⟩,⟨0,.phase⟩,⟨1,.phase⟩,⟨2,.phase⟩,⟨3,.phase⟩,⟨4,.phase⟩,⟨5,.phase⟩,⟨6,.phase⟩,⟨7,.phase⟩,⟨8,.phase⟩,⟨9,.phase⟩,⟨10,.phase⟩,⟨11,.phase⟩,⟨12,.phase⟩,⟨13,.phase⟩,⟨14,.phase⟩,⟨15,.phase⟩,⟨16,.phase⟩,⟨17,.phase⟩,⟨18,.phase⟩,⟨19,.phase⟩,⟨20,.phase⟩,⟨21,.phase⟩,⟨22,.phase⟩,⟨23,.phase⟩,⟨24,.phase⟩],none⟩ hS ?_;simp only [Act.put,sA,s0,sS]
        refine wpAnyL_done (by kernel_rfl) ?_ _
        have HBx:Hid (Below w.heap.size w w'):=HBB.out _ hS.2.2.2.2.2.2
        clear hS hR' HBB
        go_wp2_with fail
        go_ret
        exact ⟨ret_bool HZ.out.symm,HBx.out⟩
    · have HZ:Hid (fitI f (x0,x1,x2)=false):=by show _=_; rw [HW.out]; exact decide_eq_false (by omega)
      have d1':decide (0≤x1)=true:=decide_eq_true d1
      have d2':decide (x1≤(L:Int))=false:=decide_eq_false d2
      clear HW hE'
      refine wp_region_L (fun W=>W.cell? ⟨w.heap.size,0,none⟩=some (.slice ta f.terms.length tc)∧W.cell? ⟨w.heap.size,1,none⟩=some (.slice na f.nons.length nc)∧W.cell? ⟨w.heap.size,2,none⟩=some (.slice pa f.prods.length pc)∧W.cell? ⟨w.heap.size+1,0,none⟩=some (.int .i64 x0)∧W.cell? ⟨w.heap.size+1,1,none⟩=some (.int .i64 x1)∧W.cell? ⟨w.heap.size+1,2,none⟩=some (.int .i64 x2)∧Below w0.heap.size w0 W) 26 (by kernel_rfl) 26 rfl ?_
      refine lk ⟨some 16,.fieldAddr 77 (.tmp 3) 1,0, "item.go:52",#[],none⟩ HS0.out ?_;simp only [Act.put,sA,s0,sS]
      refine lk ⟨some 17,.load 3 (.tmp 16),3, "item.go:52",#[⟨0,.data⟩],none⟩ HS0.out ?_;simp only [Act.put,sA,s0,sS]
      refine lk ⟨some 18,.binOp .leq 3 (.const (.int .i64 0)) (.tmp 17) 3,4, "item.go:52",#[⟨1,.data⟩],none⟩ HS0.out ?_;simp only [Act.put,sA,s0,sS]
      refine lk ⟨some 19,.move (.tmp 18),4, "item.go:52",#[⟨2,.data⟩],none⟩ HS0.out ?_;simp only [Act.put,sA,s0,sS]
      refine lk ⟨some 20,.fieldAddr 77 (.tmp 3) 1,0, "item.go:52",#[⟨3,.guard⟩],some (3,true)⟩ HS0.out ?_;simp only [Act.put,sA,s0,sS]
      refine lk ⟨some 21,.load 3 (.tmp 20),3, "item.go:52",#[⟨4,.data⟩,⟨3,.guard⟩],some (3,true)⟩ HS0.out ?_;simp only [Act.put,sA,s0,sS]
      refine lk ⟨some 22,.load 25 (.tmp 2),25, "item.go:52",#[⟨3,.guard⟩],some (3,true)⟩ HS0.out ?_;simp only [Act.put,sA,s0,sS]
      refine lk ⟨some 23,.fieldAddr 77 (.tmp 3) 0,0, "item.go:52",#[⟨3,.guard⟩],some (3,true)⟩ HS0.out ?_;simp only [Act.put,sA,s0,sS]
      refine lk ⟨some 24,.load 3 (.tmp 23),3, "item.go:52",#[⟨7,.data⟩,⟨3,.guard⟩],some (3,true)⟩ HS0.out ?_;simp only [Act.put,sA,s0,sS]
      refine wpL_one (o:=⟨some 25,.call ⟨.value (.func 100),#[.tmp 22,.tmp 24],#[25,3]⟩,56, "item.go:52",#[⟨6,.data⟩,⟨8,.data⟩,⟨3,.chain⟩,⟨3,.guard⟩],some (3,true)⟩) (by decide) (by kernel_rfl) rfl (fun K hK=>?_)
      go_simp
      refine (hR' _ HS0.out).mono ?_
      rintro e w' ⟨va,vc,rfl,hS⟩
      refine hK.out _ _ (fun _=>hS) ?_
      clear hK
      refine lk ⟨some 26,.call ⟨.builtin .len,#[.tmp 25],#[56]⟩,3, "item.go:52",#[⟨9,.data⟩,⟨3,.guard⟩],some (3,true)⟩ hS ?_;simp only [Act.put,sA,s0,sS]
      refine lk ⟨some 27,.binOp .leq 3 (.tmp 21) (.tmp 26) 3,4, "item.go:52",#[⟨5,.data⟩,⟨10,.data⟩,⟨3,.guard⟩],some (3,true)⟩ hS ?_;simp only [Act.put,sA,s0,sS]
      refine lk ⟨some 28,.pick (.tmp 19) (.tmp 27) (.const (.bool false)),4, "item.go:52",#[⟨3,.data⟩,⟨11,.data⟩],none⟩ hS ?_;simp only [Act.put,sA,s0,sS]
      refine lk ⟨some 29,.move (.tmp 28),4, "item.go:52",#[⟨12,.data⟩,⟨9,.chain⟩],none⟩ hS ?_;simp only [Act.put,sA,s0,sS]
      refine lu ⟨some 30,.fieldAddr 77 (.tmp 3) 2,0, "item.go:52",#[⟨13,.guard⟩],some (13,true)⟩ hS ?_;simp only [Act.put,sA,s0,sS]
      refine lu ⟨some 31,.load 3 (.tmp 30),3, "item.go:52",#[⟨14,.data⟩,⟨13,.guard⟩],some (13,true)⟩ hS ?_;simp only [Act.put,sA,s0,sS]
      refine lu ⟨some 32,.binOp .leq 3 (.const (.int .i64 0)) (.tmp 31) 3,4, "item.go:52",#[⟨15,.data⟩,⟨13,.guard⟩],some (13,true)⟩ hS ?_;simp only [Act.put,sA,s0,sS]
      refine lk ⟨some 33,.pick (.tmp 29) (.tmp 32) (.const (.bool false)),4, "item.go:52",#[⟨13,.data⟩,⟨16,.data⟩],none⟩ hS ?_;simp only [Act.put,sA,s0,sS]
      refine lk ⟨some 34,.move (.tmp 33),4, "item.go:52",#[⟨17,.data⟩,⟨13,.chain⟩],none⟩ hS ?_;simp only [Act.put,sA,s0,sS]
      refine lu ⟨some 35,.fieldAddr 77 (.tmp 3) 2,0, "item.go:52",#[⟨18,.guard⟩],some (18,true)⟩ hS ?_;simp only [Act.put,sA,s0,sS]
      refine lu ⟨some 36,.load 3 (.tmp 35),3, "item.go:52",#[⟨19,.data⟩,⟨18,.guard⟩],some (18,true)⟩ hS ?_;simp only [Act.put,sA,s0,sS]
      refine lu ⟨some 37,.load 25 (.tmp 2),25, "item.go:52",#[⟨18,.guard⟩],some (18,true)⟩ hS ?_;simp only [Act.put,sA,s0,sS]
      refine lu ⟨some 38,.call ⟨.value (.func 127),#[.tmp 37],#[25]⟩,3, "item.go:52",#[⟨21,.data⟩,⟨18,.chain⟩,⟨18,.guard⟩],some (18,true)⟩ hS ?_;simp only [Act.put,sA,s0,sS]
      refine lu ⟨some 39,.binOp .leq 3 (.tmp 36) (.tmp 38) 3,4, "item.go:52",#[⟨20,.data⟩,⟨22,.data⟩,⟨18,.guard⟩],some (18,true)⟩ hS ?_;simp only [Act.put,sA,s0,sS]
      refine lk ⟨some 40,.pick (.tmp 34) (.tmp 39) (.const (.bool false)),4, "item.go:52",#[⟨18,.data⟩,⟨23,.data⟩],none⟩ hS ?_;simp only [Act.put,sA,s0,sS]
      refine lk ⟨some 4,.assign (.tmp 40),4, "item.go:52",#[⟨24,.data⟩,⟨22,.chain⟩,⟨0,.phase⟩,⟨1,.phase⟩,⟨2,.phase⟩,⟨3,.phase⟩,⟨4,.phase⟩,⟨5,.phase⟩,⟨6,.phase⟩,⟨7,.phase⟩,⟨8,.phase⟩,⟨9,.phase⟩,⟨10,.phase⟩,⟨11,.phase⟩,⟨12,.phase⟩,⟨13,.phase⟩,⟨14,.phase⟩,⟨15,.phase⟩,⟨16,.phase⟩,⟨17,.phase⟩,⟨18,.phase⟩,⟨19,.phase⟩,⟨20,.phase⟩,⟨21,.phase⟩,⟨22,.phase⟩,⟨23,.phase⟩,⟨24,.phase⟩],none⟩ hS ?_;simp only [Act.put,sA,s0,sS]
      refine wpAnyL_done (by kernel_rfl) ?_ _
      have HBx:Hid (Below w.heap.size w w'):=HBB.out _ hS.2.2.2.2.2.2
      clear hS hR' HBB
      go_wp2_with fail
      go_ret
      exact ⟨ret_bool HZ.out.symm,HBx.out⟩
  · have HZ:Hid (fitI f (x0,x1,x2)=false):=by show _=_; rw [HW.out]; exact decide_eq_false (by omega)
    have d1':decide (0≤x1)=false:=decide_eq_false d1
    obtain ⟨z0,z1,z2,y0,y1,y2,hb0⟩:=HS0.out
    have HBx:Hid (Below w.heap.size w w0.drew):=HBB.out _ hb0
    clear HW hE' hR' HBB hb0
    refine wp_region_L (fun W=>W.cell? ⟨w.heap.size,0,none⟩=some (.slice ta f.terms.length tc)∧W.cell? ⟨w.heap.size,1,none⟩=some (.slice na f.nons.length nc)∧W.cell? ⟨w.heap.size,2,none⟩=some (.slice pa f.prods.length pc)∧W.cell? ⟨w.heap.size+1,0,none⟩=some (.int .i64 x0)∧W.cell? ⟨w.heap.size+1,1,none⟩=some (.int .i64 x1)∧W.cell? ⟨w.heap.size+1,2,none⟩=some (.int .i64 x2)∧Below w0.heap.size w0 W) 26 (by kernel_rfl) 26 rfl ?_
    refine lk ⟨some 16,.fieldAddr 77 (.tmp 3) 1,0, "item.go:52",#[],none⟩ HS0.out ?_;simp only [Act.put,sA,s0,sS]
    refine lk ⟨some 17,.load 3 (.tmp 16),3, "item.go:52",#[⟨0,.data⟩],none⟩ HS0.out ?_;simp only [Act.put,sA,s0,sS]
    refine lk ⟨some 18,.binOp .leq 3 (.const (.int .i64 0)) (.tmp 17) 3,4, "item.go:52",#[⟨1,.data⟩],none⟩ HS0.out ?_;simp only [Act.put,sA,s0,sS]
    refine lk ⟨some 19,.move (.tmp 18),4, "item.go:52",#[⟨2,.data⟩],none⟩ HS0.out ?_;simp only [Act.put,sA,s0,sS]
    refine lu ⟨some 20,.fieldAddr 77 (.tmp 3) 1,0, "item.go:52",#[⟨3,.guard⟩],some (3,true)⟩ HS0.out ?_;simp only [Act.put,sA,s0,sS]
    refine lu ⟨some 21,.load 3 (.tmp 20),3, "item.go:52",#[⟨4,.data⟩,⟨3,.guard⟩],some (3,true)⟩ HS0.out ?_;simp only [Act.put,sA,s0,sS]
    refine lu ⟨some 22,.load 25 (.tmp 2),25, "item.go:52",#[⟨3,.guard⟩],some (3,true)⟩ HS0.out ?_;simp only [Act.put,sA,s0,sS]
    refine lu ⟨some 23,.fieldAddr 77 (.tmp 3) 0,0, "item.go:52",#[⟨3,.guard⟩],some (3,true)⟩ HS0.out ?_;simp only [Act.put,sA,s0,sS]
    refine lu ⟨some 24,.load 3 (.tmp 23),3, "item.go:52",#[⟨7,.data⟩,⟨3,.guard⟩],some (3,true)⟩ HS0.out ?_;simp only [Act.put,sA,s0,sS]
    refine lu ⟨some 25,.call ⟨.value (.func 100),#[.tmp 22,.tmp 24],#[25,3]⟩,56, "item.go:52",#[⟨6,.data⟩,⟨8,.data⟩,⟨3,.chain⟩,⟨3,.guard⟩],some (3,true)⟩ HS0.out ?_;simp only [Act.put,sA,s0,sS]
    refine lu ⟨some 26,.call ⟨.builtin .len,#[.tmp 25],#[56]⟩,3, "item.go:52",#[⟨9,.data⟩,⟨3,.guard⟩],some (3,true)⟩ HS0.out ?_;simp only [Act.put,sA,s0,sS]
    refine lu ⟨some 27,.binOp .leq 3 (.tmp 21) (.tmp 26) 3,4, "item.go:52",#[⟨5,.data⟩,⟨10,.data⟩,⟨3,.guard⟩],some (3,true)⟩ HS0.out ?_;simp only [Act.put,sA,s0,sS]
    refine lk ⟨some 28,.pick (.tmp 19) (.tmp 27) (.const (.bool false)),4, "item.go:52",#[⟨3,.data⟩,⟨11,.data⟩],none⟩ HS0.out ?_;simp only [Act.put,sA,s0,sS]
    refine lk ⟨some 29,.move (.tmp 28),4, "item.go:52",#[⟨12,.data⟩,⟨9,.chain⟩],none⟩ HS0.out ?_;simp only [Act.put,sA,s0,sS]
    refine lu ⟨some 30,.fieldAddr 77 (.tmp 3) 2,0, "item.go:52",#[⟨13,.guard⟩],some (13,true)⟩ HS0.out ?_;simp only [Act.put,sA,s0,sS]
    refine lu ⟨some 31,.load 3 (.tmp 30),3, "item.go:52",#[⟨14,.data⟩,⟨13,.guard⟩],some (13,true)⟩ HS0.out ?_;simp only [Act.put,sA,s0,sS]
    refine lu ⟨some 32,.binOp .leq 3 (.const (.int .i64 0)) (.tmp 31) 3,4, "item.go:52",#[⟨15,.data⟩,⟨13,.guard⟩],some (13,true)⟩ HS0.out ?_;simp only [Act.put,sA,s0,sS]
    refine lk ⟨some 33,.pick (.tmp 29) (.tmp 32) (.const (.bool false)),4, "item.go:52",#[⟨13,.data⟩,⟨16,.data⟩],none⟩ HS0.out ?_;simp only [Act.put,sA,s0,sS]
    refine lk ⟨some 34,.move (.tmp 33),4, "item.go:52",#[⟨17,.data⟩,⟨13,.chain⟩],none⟩ HS0.out ?_;simp only [Act.put,sA,s0,sS]
    refine lu ⟨some 35,.fieldAddr 77 (.tmp 3) 2,0, "item.go:52",#[⟨18,.guard⟩],some (18,true)⟩ HS0.out ?_;simp only [Act.put,sA,s0,sS]
    refine lu ⟨some 36,.load 3 (.tmp 35),3, "item.go:52",#[⟨19,.data⟩,⟨18,.guard⟩],some (18,true)⟩ HS0.out ?_;simp only [Act.put,sA,s0,sS]
    refine lu ⟨some 37,.load 25 (.tmp 2),25, "item.go:52",#[⟨18,.guard⟩],some (18,true)⟩ HS0.out ?_;simp only [Act.put,sA,s0,sS]
    refine lu ⟨some 38,.call ⟨.value (.func 127),#[.tmp 37],#[25]⟩,3, "item.go:52",#[⟨21,.data⟩,⟨18,.chain⟩,⟨18,.guard⟩],some (18,true)⟩ HS0.out ?_;simp only [Act.put,sA,s0,sS]
    refine lu ⟨some 39,.binOp .leq 3 (.tmp 36) (.tmp 38) 3,4, "item.go:52",#[⟨20,.data⟩,⟨22,.data⟩,⟨18,.guard⟩],some (18,true)⟩ HS0.out ?_;simp only [Act.put,sA,s0,sS]
    refine lk ⟨some 40,.pick (.tmp 34) (.tmp 39) (.const (.bool false)),4, "item.go:52",#[⟨18,.data⟩,⟨23,.data⟩],none⟩ HS0.out ?_;simp only [Act.put,sA,s0,sS]
    refine lk ⟨some 4,.assign (.tmp 40),4, "item.go:52",#[⟨24,.data⟩,⟨22,.chain⟩,⟨0,.phase⟩,⟨1,.phase⟩,⟨2,.phase⟩,⟨3,.phase⟩,⟨4,.phase⟩,⟨5,.phase⟩,⟨6,.phase⟩,⟨7,.phase⟩,⟨8,.phase⟩,⟨9,.phase⟩,⟨10,.phase⟩,⟨11,.phase⟩,⟨12,.phase⟩,⟨13,.phase⟩,⟨14,.phase⟩,⟨15,.phase⟩,⟨16,.phase⟩,⟨17,.phase⟩,⟨18,.phase⟩,⟨19,.phase⟩,⟨20,.phase⟩,⟨21,.phase⟩,⟨22,.phase⟩,⟨23,.phase⟩,⟨24,.phase⟩],none⟩ HS0.out ?_;simp only [Act.put,sA,s0,sS]
    refine wpAnyL_done (by kernel_rfl) ?_ _
    go_wp2_with fail
    go_ret
    exact ⟨ret_bool HZ.out.symm,HBx.out⟩
end Go.Proofs.YtbilbgjojdlobaaGreatDoor
namespace Go.Proofs.YtbilbgjojdlobaaGreatDoor
open Go.RowKit
end Go.Proofs.YtbilbgjojdlobaaGreatDoor
namespace Go.Proofs.YtbilbgjojdlobaaGreatDoor
open Go.RowKit
section
variable {P:Program} {ops:Array Oper} {Q:Exit→Act→World→Prop} {md:Region.Mode} {S:World→Prop} {n:Nat}
theorem wpAnyL_two {i j:Nat} {oi oj:Oper} {fuel:Nat} {listed l1 l2:Array Bool} {a:Act} {w:World} (hr:Region.ready md ops listed=[i,j]) (hi:ops[i]?=some oi) (hj:ops[j]?=some oj)
    (hl1:listed.setIfInBounds i true=l1) (hl2:listed.setIfInBounds j true=l2)
    (h1:∀ K':Act→World→Prop,Shut (∀ a w,(i<n→S w)→wpAnyL P md ops Q S n fuel l1 a w→K' a w)→if Region.wanted oi (yielded ops a.tmps)=true then Oper.wp P oi a w K' Q else K' (a.put oi.dst undef) w)
    (h2:∀ K':Act→World→Prop,Shut (∀ a w,(j<n→S w)→wpAnyL P md ops Q S n fuel l2 a w→K' a w)→if Region.wanted oj (yielded ops a.tmps)=true then Oper.wp P oj a w K' Q else K' (a.put oj.dst undef) w) :
    wpAnyL P md ops Q S n (fuel+1) listed a w:=by
  subst hl1 hl2
  refine ⟨fun h0=>(by rw [hr] at h0; cases h0),fun k hk=>?_⟩
  rw [hr] at hk
  simp at hk
  rcases hk with rfl | rfl
  · exact wpOp_step hi (fun K' hK=>h1 K' (fun a w hS hW=>hK a w ⟨hS,hW⟩))
  · exact wpOp_step hj (fun K' hK=>h2 K' (fun a w hS hW=>hK a w ⟨hS,hW⟩))
theorem wpAnyL_one' {i:Nat} {o:Oper} {fuel:Nat} {listed l1:Array Bool} {a:Act} {w:World} (hr:Region.ready md ops listed=[i]) (ho:ops[i]?=some o) (hl1:listed.setIfInBounds i true=l1)
    (h:∀ K':Act→World→Prop,Shut (∀ a w,(i<n→S w)→wpAnyL P md ops Q S n fuel l1 a w→K' a w)→if Region.wanted o (yielded ops a.tmps)=true then Oper.wp P o a w K' Q else K' (a.put o.dst undef) w) :
    wpAnyL P md ops Q S n (fuel+1) listed a w:=by
  subst hl1
  exact wpAnyL_one hr ho h
theorem wpAnyL_take' {i:Nat} {oi:Oper} {v:Value} {fuel:Nat} {listed l1:Array Bool} {a:Act} {w:World} (hi:ops[i]?=some oi)
    (hs:Region.noSelect ops=true) (hf:Region.free md ops listed i=true) (hr:(Region.ready md ops listed).contains i=true) (hl:lateB md ops n i=true) (hl1:listed.setIfInBounds i true=l1)
    (hQ:∀ c a w,Q (.panic c) (a.put oi.dst v) w→Q (.panic c) a w) (hy:YieldsIf P ops S oi v a) (hS:S w)
    (h:wpAnyL P md ops Q S n fuel l1 (a.put oi.dst v) w):wpAnyL P md ops Q S n (fuel+1) listed a w:=by
  subst hl1
  exact wpAnyL_take hi hs hf hr hl hQ hy hS h
end
theorem tk {P:Program} {md:Region.Mode} {ops:Array Oper} {Q:Exit→Act→World→Prop} {S:World→Prop} {n:Nat} (i:Nat) (oi:Oper) {v:Value} {fuel:Nat} {listed l1:Array Bool} {a:Act} {w:World} (hS:S w) (h:wpAnyL P md ops Q S n fuel l1 (a.put oi.dst v) w)
 (hy:∀ w,S w→(execOp a.eval oi).run P w=.ok (.value v) w:=by intro W hSW; go_simp; try with_reducible rfl)
 (hi:ops[i]?=some oi:=by rfl) (hs:Region.noSelect ops=true:=by kernel_rfl) (hf:Region.free md ops listed i=true:=by kernel_rfl) (hr:(Region.ready md ops listed).contains i=true:=by kernel_rfl) (hl:lateB md ops n i=true:=by kernel_rfl) (hl1:listed.setIfInBounds i true=l1:=by rfl)
 (hQ:∀ c a w,Q (.panic c) (a.put oi.dst v) w→Q (.panic c) a w:=by first | exact fun _ _ _ h=>h | exact fun _ _ _ h=>(And.left (show (∀ c,_≠Exit.panic c)∧_ from h) _ rfl).elim) (hw:Region.wanted oi (yielded ops a.tmps)=true:=by rfl):wpAnyL P md ops Q S n (fuel+1) listed a w :=
 wpAnyL_take' hi hs hf hr hl hl1 hQ (Or.inl ⟨hw,hy⟩) hS h
theorem tu {P:Program} {md:Region.Mode} {ops:Array Oper} {Q:Exit→Act→World→Prop} {S:World→Prop} {n:Nat} (i:Nat) (oi:Oper) {fuel:Nat} {listed l1:Array Bool} {a:Act} {w:World} (hS:S w) (h:wpAnyL P md ops Q S n fuel l1 (a.put oi.dst undef) w)
 (hi:ops[i]?=some oi:=by rfl) (hs:Region.noSelect ops=true:=by kernel_rfl) (hf:Region.free md ops listed i=true:=by kernel_rfl) (hr:(Region.ready md ops listed).contains i=true:=by kernel_rfl) (hl:lateB md ops n i=true:=by kernel_rfl) (hl1:listed.setIfInBounds i true=l1:=by rfl)
 (hQ:∀ c a w,Q (.panic c) (a.put oi.dst undef) w→Q (.panic c) a w:=by first | exact fun _ _ _ h=>h | exact fun _ _ _ h=>(And.left (show (∀ c,_≠Exit.panic c)∧_ from h) _ rfl).elim) (hw:Region.wanted oi (yielded ops a.tmps)=false:=by rfl):wpAnyL P md ops Q S n (fuel+1) listed a w :=
 wpAnyL_take' hi hs hf hr hl hl1 hQ (Or.inr ⟨hw,rfl⟩) hS h
theorem wp_append_any {P:Program} {w:World} {o:Oper} {a:Act} {K:Act→World→Prop} {Q:Exit→Act→World→Prop} (s x:Operand) (t:TypeId)
    (ho:o.op=.call { callee:=.builtin .append,args:=#[s,x],argTypes:=#[t,t] })
    (base:Nat) (e:TypeId) (i:TypeInfo) (z:Value) (size bytes:Nat) (ht:P.underlying t=some (.slice e)) (hi:P.info? e=some i) (hz:i.zero=some z)
    (hsize:i.size=size) (hby:i.bytes=bytes) (hzs:z.cells.size=size) (hsz:0<size)
    (v:Value) (n:Nat) (xs:List Value) (hs:a.eval s=v) (hown:w.ownsRow base e size v n xs)
    (ao:Option Addr) (m c:Nat) (news:List Value) (hx:a.eval x=.slice ao m c) (hn:ao=none→m=0∧c=0) (hl:news.length=m * size) (hnews:∀ ad,ao=some ad→∀ j u,news[j]?=some u→w.cell? (ad.add j)=some u) (h1:∀ u∈news,u.oneCell'=true)
    (h63:n+m≤maxLen) (hbytes:(n+m) * bytes≤140737488355328) (hbase:base≤w.heap.size)
    (h:∀ v' w',w'.ownsRow base e size v' (n+m) (xs++news)→w.grownBy w' v.ownBlock→K (a.put o.dst v') w'):o.wp P a w K Q:=by
  cases ao with
  | some ad=>exact wp_append_own w s x t ho base e i z size bytes ht hi hz hsize hby hzs hsz v n xs hs hown ad m c news hx hl (hnews ad rfl) h1 h63 hbytes hbase (fun v' w' h2 h3 _=>h v' w' h2 h3)
  | none =>
    obtain ⟨rfl,rfl⟩:=hn rfl
    obtain rfl:news=[]:=List.eq_nil_of_length_eq_zero (by simpa using hl)
    have hrun:=run_append_owned_none (P:=P) (w:=w) base t o.type e i size ht hi v n xs hown
    unfold Oper.wp
    simp [execOp,ho,resolve,invoke,builtin,hs,hx,hrun,Result.andThen]
    exact h v w (by simpa using hown) ⟨rfl,rfl,rfl,Nat.le_refl _,fun _ _ _=>rfl⟩
theorem wpList_append_any {P:Program} {w:World} {ops:Array Oper} {rest:List Oper} {o:Oper} {a:Act} {Q:Exit→Act→World→Prop} (hgd:o.guard=none) (s x:Operand) (t:TypeId)
    (ho:o.op=.call { callee:=.builtin .append,args:=#[s,x],argTypes:=#[t,t] })
    (base:Nat) (e:TypeId) (i:TypeInfo) (z:Value) (size bytes:Nat) (ht:P.underlying t=some (.slice e)) (hi:P.info? e=some i) (hz:i.zero=some z)
    (hsize:i.size=size) (hby:i.bytes=bytes) (hzs:z.cells.size=size) (hsz:0<size)
    (v:Value) (n:Nat) (xs:List Value) (hs:a.eval s=v) (hown:w.ownsRow base e size v n xs)
    (ao:Option Addr) (m c:Nat) (news:List Value) (hx:a.eval x=.slice ao m c) (hn:ao=none→m=0∧c=0) (hl:news.length=m * size) (hnews:∀ ad,ao=some ad→∀ j u,news[j]?=some u→w.cell? (ad.add j)=some u) (h1:∀ u∈news,u.oneCell'=true)
    (h63:n+m≤maxLen) (hbytes:(n+m) * bytes≤140737488355328) (hbase:base≤w.heap.size)
    (h:∀ v' w',w'.ownsRow base e size v' (n+m) (xs++news)→w.grownBy w' v.ownBlock→wpList P ops Q rest (a.put o.dst v') w'):wpList P ops Q (o :: rest) a w :=
  wpList_plain hgd fun _ hK=>wp_append_any s x t ho base e i z size bytes ht hi hz hsize hby hzs hsz v n xs hs hown ao m c news hx hn hl hnews h1 h63 hbytes hbase fun v' w' h2 h3=>hK _ _ (h v' w' h2 h3)
set_option maxRecDepth 100000 in
set_option maxHeartbeats 4000000 in
theorem next_item (f:Fl) (a:FlA) (x:Ir) (w:World) (hf:FlAt f a w) (hn:f.n≤600) :
    Calls Tryz.prog 61 #[a.val f,valR x] w fun e w'=>e=.returned (.tuple #[.int .i64 ((nextI f x).getD 0),.bool (nextI f x).isSome])∧Below w.heap.size w w':=by
  have hR:=fun W (hb:Below w.heap.size w W) (h1:-1≤x.1) (h2:x.1<f.prods.length)=>right_any f a x.1 W (hf.next hb) hn h1 h2
  have hF:=fun W (hb:Below w.heap.size w W)=>fit_item f a x W (hf.next hb) hn
  obtain ⟨ta,tc,na,nc,pa,pc⟩:=a
  obtain ⟨x0,x1,x2⟩:=x
  have X0:=FBox.new f ⟨ta,tc,na,nc,pa,pc⟩ 25 w
  have B0:Below w.heap.size w (w.alloc (fobj f ⟨ta,tc,na,nc,pa,pc⟩ 25)):=(Below.refl _ _).alloc (Nat.le_refl _) _
  have Y0:=RBox.new (x0,x1,x2) 77 (w.alloc (fobj f ⟨ta,tc,na,nc,pa,pc⟩ 25))
  have X1:=X0.next ((Below.refl _ _).alloc (Nat.le_refl _) (Obj.cells #[.int .i64 x0,.int .i64 x1,.int .i64 x2] 77))
  have B1:=B0.alloc B0.size (Obj.cells #[.int .i64 x0,.int .i64 x1,.int .i64 x2] 77)
  have hz:(w.alloc (fobj f ⟨ta,tc,na,nc,pa,pc⟩ 25)).heap.size=w.heap.size+1:=by simp
  rw [hz] at Y0
  clear X0 B0 hz
  unfold fobj at X1 B1 Y0
  clear hf
  unfold FlA.val at hR hF ⊢
  unfold valR at hF ⊢
  simp only at *
  obtain ⟨b1,y0,y1,y2⟩:=id Y0
  obtain ⟨b0,z0,z1,z2⟩:=id X1
  simp only at y0 y1 y2 z0 z1 z2
  have HFI:Hid (∀ W,Below w.heap.size w W→Calls Tryz.prog 99 #[.agg #[.slice ta f.terms.length tc,.slice na f.nons.length nc,.slice pa f.prods.length pc],.agg #[.int .i64 x0,.int .i64 x1,.int .i64 x2]] W fun e w'=>e=.returned (.bool (fitI f (x0,x1,x2)))∧Below W.heap.size W w'):=hF
  have HRI:Hid (∀ W,Below w.heap.size w W→-1≤x0→x0<f.prods.length→Calls Tryz.prog 100 #[.agg #[.slice ta f.terms.length tc,.slice na f.nons.length nc,.slice pa f.prods.length pc],.int .i64 x0] W fun e w'=>∃ v,e=.returned v∧SlT (rightI f x0) v w'∧Below W.heap.size W w'):=hR
  clear hF hR
  go_enter Tryz.func61,Tryz.ntmps61
  go_wp2_with fail
  refine (HFI.out _ B1).mono ?_
  rintro e w0 ⟨rfl,hb0⟩
  have X2:=X1.next hb0
  have Y2:=Y0.next hb0
  have B2:=below_then B1 hb0 B1.size
  clear HFI X1 Y0 B1 b0 b1 z0 z1 z2 y0 y1 y2 hb0
  cases hft:fitI f (x0,x1,x2) with
  | false =>
    have HNI:Hid (nextI f (x0,x1,x2)=none):=by show _=_; unfold nextI; rw [hft]; rfl
    clear hft X2 Y2 HRI
    go_wp2_with fail
    go_ret2
    exact ⟨by rw [HNI.out]; rfl,B2⟩
  | true =>
  have hfi:=fitI_iff.1 hft
  simp only at hfi
  obtain ⟨p1,p2,p3,p4,p5,p6⟩:=hfi
  obtain ⟨d,rfl⟩:∃ d:Nat,x1=d:=⟨x1.toNat,by omega⟩
  have HNI:Hid (nextI f (x0,(d:Int),x2)=((rightI f x0)[d]?).map (·.sym)):=by show _=_; unfold nextI; rw [hft,if_pos rfl]; simp only; rw [Int.toNat_natCast]
  clear hft
  obtain ⟨_,y0,y1,y2⟩:=id Y2
  obtain ⟨_,z0,z1,z2⟩:=id X2
  simp only at y0 y1 y2 z0 z1 z2
  have HSI:Hid (∀ W,Below w0.heap.size w0 W→(W.cell? ⟨w.heap.size,0,none⟩=some (.slice ta f.terms.length tc)∧W.cell? ⟨w.heap.size,1,none⟩=some (.slice na f.nons.length nc)∧W.cell? ⟨w.heap.size,2,none⟩=some (.slice pa f.prods.length pc)∧W.cell? ⟨w.heap.size+1,0,none⟩=some (.int .i64 x0)∧W.cell? ⟨w.heap.size+1,1,none⟩=some (.int .i64 d)∧W.cell? ⟨w.heap.size+1,2,none⟩=some (.int .i64 x2)∧Below w0.heap.size w0 W)):=fun W hb=>by
    obtain ⟨_,l0,l1,l2⟩:=Y2.next hb
    obtain ⟨_,k0,k1,k2⟩:=X2.next hb
    exact ⟨k0,k1,k2,l0,l1,l2,hb⟩
  have HS0:Hid (w0.drew.cell? ⟨w.heap.size,0,none⟩=some (.slice ta f.terms.length tc)∧w0.drew.cell? ⟨w.heap.size,1,none⟩=some (.slice na f.nons.length nc)∧w0.drew.cell? ⟨w.heap.size,2,none⟩=some (.slice pa f.prods.length pc)∧w0.drew.cell? ⟨w.heap.size+1,0,none⟩=some (.int .i64 x0)∧w0.drew.cell? ⟨w.heap.size+1,1,none⟩=some (.int .i64 d)∧w0.drew.cell? ⟨w.heap.size+1,2,none⟩=some (.int .i64 x2)∧Below w0.heap.size w0 w0.drew):=HSI.out _ (Below.refl _ _).drew
  have HRR:Hid (Calls Tryz.prog 100 #[.agg #[.slice ta f.terms.length tc,.slice na f.nons.length nc,.slice pa f.prods.length pc],.int .i64 x0] w0.drew fun e w'=>∃ va vc,e=.returned (.slice va (rightI f x0).length vc)∧Hid (SlT (rightI f x0) (.slice va (rightI f x0).length vc) w')∧(rightI f x0).length≤vc∧vc≤140737488351232∧(va=none→vc=0)∧(w'.cell? ⟨w.heap.size,0,none⟩=some (.slice ta f.terms.length tc)∧w'.cell? ⟨w.heap.size,1,none⟩=some (.slice na f.nons.length nc)∧w'.cell? ⟨w.heap.size,2,none⟩=some (.slice pa f.prods.length pc)∧w'.cell? ⟨w.heap.size+1,0,none⟩=some (.int .i64 x0)∧w'.cell? ⟨w.heap.size+1,1,none⟩=some (.int .i64 d)∧w'.cell? ⟨w.heap.size+1,2,none⟩=some (.int .i64 x2)∧Below w0.heap.size w0 w')):=by
    refine (HRI.out _ (below_then B2 (Below.refl _ _).drew B2.size) p1 p2).mono ?_
    rintro e w' ⟨v,rfl,hv,hb⟩
    obtain ⟨va,vc,rfl,k1,k2,k3,k4⟩:=id hv
    exact ⟨va,vc,rfl,hv,k3,k4,k2,HSI.out _ (below_then (Below.refl _ _).drew hb (Nat.le_refl _))⟩
  have HBB:Hid (∀ W,Below w0.heap.size w0 W→Below w.heap.size w W):=fun W hb=>below_then B2 hb B2.size
  obtain ⟨r,hr⟩:∃ r,rightI f x0=r:=⟨_,rfl⟩
  rw [hr] at HRR HNI p4
  have hdr:d≤r.length:=by omega
  clear hr HSI HRI X2 Y2 B2 y0 y1 y2 z0 z1 z2
  have hd0:(d:Int)≤r.length:=by omega
  go_wp2_with fail
  refine wp_region_L (fun W=>W.cell? ⟨w.heap.size,0,none⟩=some (.slice ta f.terms.length tc)∧W.cell? ⟨w.heap.size,1,none⟩=some (.slice na f.nons.length nc)∧W.cell? ⟨w.heap.size,2,none⟩=some (.slice pa f.prods.length pc)∧W.cell? ⟨w.heap.size+1,0,none⟩=some (.int .i64 x0)∧W.cell? ⟨w.heap.size+1,1,none⟩=some (.int .i64 d)∧W.cell? ⟨w.heap.size+1,2,none⟩=some (.int .i64 x2)∧Below w0.heap.size w0 W) 8 (by kernel_rfl) 8 rfl ?_
  refine tk 0 ⟨some 11,.load 25 (.tmp 2),25, "item.go:40",#[],none⟩ HS0.out ?_;simp only [Act.put,sA,s0,sS]
  refine tk 1 ⟨some 12,.fieldAddr 77 (.tmp 3) 0,0, "item.go:40",#[],none⟩ HS0.out ?_;simp only [Act.put,sA,s0,sS]
  refine tk 2 ⟨some 13,.load 3 (.tmp 12),3, "item.go:40",#[⟨1,.data⟩],none⟩ HS0.out ?_;simp only [Act.put,sA,s0,sS]
  refine tk 4 ⟨some 15,.fieldAddr 77 (.tmp 3) 1,0, "item.go:40",#[],none⟩ HS0.out ?_;simp only [Act.put,sA,s0,sS]
  refine tk 5 ⟨some 16,.load 3 (.tmp 15),3, "item.go:40",#[⟨4,.data⟩],none⟩ HS0.out ?_;simp only [Act.put,sA,s0,sS]
  refine wpAnyL_one' (i:=3) (o:=⟨some 14,.call ⟨.value (.func 100),#[.tmp 11,.tmp 13],#[25,3]⟩,56, "item.go:40",#[⟨0,.data⟩,⟨2,.data⟩],none⟩) (by kernel_rfl) rfl rfl (fun K hK=>?_)
  go_simp
  refine (HRR.out).mono ?_
  rintro e w' ⟨va,vc,rfl,hSl,hvc,hvm,hvn,hS⟩
  refine hK.out _ _ (fun _=>hS) ?_
  clear hK
  have HSL:Hid (SlT r (.slice va r.length vc) w'):=hSl
  clear hSl HRR
  have hdv:(d:Int)≤vc:=by omega
  rcases Nat.lt_or_ge d r.length with hlt | hge
  · obtain ⟨ao,cap,e,hI,_⟩:=HSL.out
    cases e
    obtain ⟨b,off,rfl,hb,c0,c1,c2,_⟩:=hI.at (Below.refl _ _) hlt
    have HNX:Hid (nextI f (x0,(d:Int),x2)=some r[d].sym):=by show _=_; rw [HNI.out,List.getElem?_eq_getElem hlt]; rfl
    generalize r[d]=it at *
    have hdc:d<vc:=by omega
    have hdc2:¬ vc - d=0:=by omega
    have HF:Hid (Below w.heap.size w w'):=HBB.out _ hS.2.2.2.2.2.2
    have hrl:¬ r.length - d=0:=by omega
    have hrl2:(((r.length - d:Nat):Int) == 0)=false:=by simp; omega
    clear HNI HSL hI HBB
    refine tk 6 ⟨some 17,.slice 56 (.tmp 14) (some (.tmp 16)) none none,56, "item.go:40",#[⟨3,.data⟩,⟨5,.data⟩],none⟩ hS ?_;simp only [Act.put,sA,s0,sS]
    refine tk 7 ⟨some 6,.assign (.tmp 17),56, "item.go:40",#[⟨6,.data⟩,⟨3,.chain⟩,⟨0,.phase⟩,⟨1,.phase⟩,⟨2,.phase⟩,⟨3,.phase⟩,⟨4,.phase⟩,⟨5,.phase⟩,⟨6,.phase⟩],none⟩ hS ?_;simp only [Act.put,sA,s0,sS]
    refine wpAnyL_done (by kernel_rfl) ?_ _
    clear hS
    go_wp2_with fail
    go_ret2
    exact ⟨by rw [HNX.out]; rfl,HF.out⟩
  · obtain rfl:d=r.length:=by omega
    have HNX:Hid (nextI f (x0,(r.length:Int),x2)=none):=by show _=_; rw [HNI.out]; simp
    have HF:Hid (Below w.heap.size w w'):=HBB.out _ hS.2.2.2.2.2.2
    clear HNI HSL HBB
    rcases Nat.lt_or_ge r.length vc with hdc | hdc
    · cases va with
      | none=>exfalso; have:=hvn rfl; omega
      | some ad =>
      have hdc2:¬ vc - r.length=0:=by omega
      clear hvn
      refine tk 6 ⟨some 17,.slice 56 (.tmp 14) (some (.tmp 16)) none none,56, "item.go:40",#[⟨3,.data⟩,⟨5,.data⟩],none⟩ hS ?_;simp only [Act.put,sA,s0,sS]
      refine tk 7 ⟨some 6,.assign (.tmp 17),56, "item.go:40",#[⟨6,.data⟩,⟨3,.chain⟩,⟨0,.phase⟩,⟨1,.phase⟩,⟨2,.phase⟩,⟨3,.phase⟩,⟨4,.phase⟩,⟨5,.phase⟩,⟨6,.phase⟩],none⟩ hS ?_;simp only [Act.put,sA,s0,sS]
      refine wpAnyL_done (by kernel_rfl) ?_ _
      clear hS
      go_wp2_with fail
      go_ret2
      exact ⟨by rw [HNX.out]; rfl,HF.out⟩
    · obtain rfl:vc=r.length:=by omega
      clear hvn
      refine tk 6 ⟨some 17,.slice 56 (.tmp 14) (some (.tmp 16)) none none,56, "item.go:40",#[⟨3,.data⟩,⟨5,.data⟩],none⟩ hS ?_;simp only [Act.put,sA,s0,sS]
      refine tk 7 ⟨some 6,.assign (.tmp 17),56, "item.go:40",#[⟨6,.data⟩,⟨3,.chain⟩,⟨0,.phase⟩,⟨1,.phase⟩,⟨2,.phase⟩,⟨3,.phase⟩,⟨4,.phase⟩,⟨5,.phase⟩,⟨6,.phase⟩],none⟩ hS ?_;simp only [Act.put,sA,s0,sS]
      refine wpAnyL_done (by kernel_rfl) ?_ _
      clear hS
      go_wp2_with fail
      go_ret2
      exact ⟨by rw [HNX.out]; rfl,HF.out⟩
end Go.Proofs.YtbilbgjojdlobaaGreatDoor
namespace Go.Proofs.YtbilbgjojdlobaaGreatDoor
open Go.RowKit
end Go.Proofs.YtbilbgjojdlobaaGreatDoor
namespace Go.Proofs.YtbilbgjojdlobaaGreatDoor
open Go.RowKit
set_option maxHeartbeats 400000 in
theorem begins_any (c:Nat) (w:World):Calls Tryz.prog 165 #[.int .u8 c] w fun e w'=>e=.returned (.bool (letB c))∧w'=w:=by
  go_enter Tryz.func165,Tryz.ntmps165
  go_wp2
  all_goals
    go_ret
    refine ⟨ret_bool ?_,rfl⟩
    unfold letB
    rw [Bool.eq_iff_iff]
    simp
    omega
set_option maxHeartbeats 400000 in
theorem isDigit_any (c:Nat) (w:World):Calls Tryz.prog 192 #[.int .u8 c] w fun e w'=>e=.returned (.bool (digB c))∧w'=w:=by
  go_enter Tryz.func192,Tryz.ntmps192
  go_wp2
  all_goals
    go_ret
    refine ⟨ret_bool ?_,rfl⟩
    unfold digB
    rw [Bool.eq_iff_iff]
    simp
    omega
theorem name_facts {s:ByteArray} (h:nameB s=true):s.size≠0∧s.size≤32∧∀ k (hk:k<s.size),okB k s[k].toNat=true:=by
  unfold nameB at h
  simp only [Bool.and_eq_true,decide_eq_true_eq] at h
  refine ⟨h.1.1,h.1.2,fun k hk=>?_⟩
  have:=List.all_eq_true.1 h.2 k (List.mem_range.2 hk)
  unfold okAt at this
  rwa [dif_pos hk] at this
set_option maxHeartbeats 1600000 in
theorem nameLen_any (s:ByteArray) (w:World) (h:nameB s=true):Calls Tryz.prog 166 #[.string s] w fun e w'=>e=.returned (.int .i64 s.size)∧w'=w:=by
  obtain ⟨h0,h1,h2⟩:=name_facts h
  have HO:Hid (∀ k (hk:k<s.size),okB k s[k].toNat=true):=h2
  clear h h2
  go_enter Tryz.func166,Tryz.ntmps166
  go_wp2
  go_loopw [3] (fun i wr=>∃ (j:Nat),i=.int .i64 j∧j≤s.size∧wr=w) (fun i _=>s.size - (intOf i).toNat)
  case atStart=>exact ⟨0,rfl,Nat.zero_le _,rfl⟩
  case round =>
    obtain ⟨j,rfl,hj,rfl⟩:=hrel
    by_cases hlt:j<s.size
    · have hL:=begins_any (s[j].toNat) wr
      have hD:=isDigit_any (s[j].toNat) wr
      have hok:=HO.out j hlt
      unfold okB at hok
      cases hl:letB s[j].toNat with
      | true =>
        rw [hl] at hL
        clear hl hok hD
        go_wp2_with (go_at_call 165; refine hL.mono ?_; rintro e w1 ⟨rfl,rfl⟩)
        exact ⟨⟨j+1,by go_num,by omega,trivial⟩,by simp [intOf]; omega⟩
      | false =>
        rw [hl] at hL hok
        simp at hok
        rw [hok.2] at hD
        clear hl hok
        go_wp2_with (first | (go_at_call 165; refine hL.mono ?_; rintro e w1 ⟨rfl,rfl⟩) | (go_at_call 192; refine hD.mono ?_; rintro e w1 ⟨rfl,rfl⟩))
        exact ⟨⟨j+1,by go_num,by omega,trivial⟩,by simp [intOf]; omega⟩
    · obtain rfl:j=s.size:=by omega
      go_wp2
      go_ret
      exact ⟨rfl,rfl⟩
set_option maxHeartbeats 1600000 in
theorem gname_any (s:ByteArray) (w:World) (h:nameB s=true):Calls Tryz.prog 142 #[.string s] w fun e w'=>e=.returned (.bool true)∧w'=w:=by
  have hN:=nameLen_any s w h
  obtain ⟨h0,h1,h2⟩:=name_facts h
  have hpos:0<s.size:=by omega
  have hok:=h2 0 hpos
  unfold okB at hok
  simp at hok
  have hL:=begins_any (s[0].toNat) w
  rw [hok] at hL
  have hnil:¬ s.toList=[]:=fun e=>h0 ((toList_nil s).1 e)
  have h3:s.toList.isEmpty=false:=by simpa using hnil
  clear h h2 hok
  go_enter Tryz.func142,Tryz.ntmps142
  go_wp2_with (first | (go_at_call 165; refine hL.mono ?_; rintro e w1 ⟨rfl,rfl⟩) | (go_at_call 166; refine hN.mono ?_; rintro e w1 ⟨rfl,rfl⟩))
  go_ret
  exact ⟨rfl,rfl⟩
set_option maxHeartbeats 1600000 in
theorem nameOr_any (s:ByteArray) (w:World) (h:nameN s=true):Calls Tryz.prog 122 #[.string s] w fun e w'=>e=.returned (.bool true)∧w'=w:=by
  unfold nameN at h
  by_cases hz:s.size=0
  · have h0:s.toList=[]:=(toList_nil s).2 hz
    clear h
    go_enter Tryz.func122,Tryz.ntmps122
    go_wp2
    go_ret
    exact ⟨rfl,rfl⟩
  · have hn:nameB s=true:=by rw [decide_eq_false hz] at h; simpa using h
    have hG:=gname_any s w hn
    have hnil:¬ s.toList=[]:=fun e=>hz ((toList_nil s).1 e)
    have h3:s.toList.isEmpty=false:=by simpa using hnil
    clear h hn
    go_enter Tryz.func122,Tryz.ntmps122
    go_wp2_with (go_at_call 142; refine hG.mono ?_; rintro e w1 ⟨rfl,rfl⟩)
    go_ret
    exact ⟨rfl,rfl⟩
set_option maxHeartbeats 1600000 in
theorem fitTexts_any (l:List ByteArray) (ao:Option Addr) (cap:Nat) (w:World) (hc:RowAt Value.string l ao w) (h:titlesB l=true) (hl:l.length≤1000000) :
    Calls Tryz.prog 89 #[.slice ao l.length cap] w fun e w'=>e=.returned (.bool true)∧w'=w:=by
  have HT:Hid (∀ s∈l,s.size≠0∧s.size≤80):=fun s hs=>by
    have:=List.all_eq_true.1 h s hs
    simpa using this
  clear h
  go_enter Tryz.func89,Tryz.ntmps89
  go_wp2
  go_loopw [7] (fun i wr=>∃ (j:Nat),i=.int .i64 j∧j≤l.length∧wr=w) (fun i _=>l.length - (intOf i).toNat)
  case atStart=>exact ⟨0,rfl,Nat.zero_le _,rfl⟩
  case round =>
    obtain ⟨j,rfl,hj,rfl⟩:=hrel
    by_cases hlt:j<l.length
    · obtain ⟨b,off,rfl,_,c0⟩:=hc.at (Below.refl _ _) hlt
      have h0:=HT.out _ (List.getElem_mem hlt)
      generalize l[j]=s at *
      have hnil:¬ s.toList=[]:=fun e=>h0.1 ((toList_nil s).1 e)
      have h3:s.toList.isEmpty=false:=by simpa using hnil
      obtain ⟨_,h80⟩:=h0
      clear hc
      go_wp2
      exact ⟨⟨j+1,by go_num,by omega,trivial⟩,by simp [intOf]; omega⟩
    · go_wp2
      go_ret
      exact ⟨rfl,rfl⟩
set_option maxRecDepth 100000 in
set_option maxHeartbeats 800000 in
theorem fsymbols_any (f:Fl) (a:FlA) (w:World) (hp:f.n≤600) :
    Calls Tryz.prog 88 #[a.val f] w fun e w'=>e=.returned (.int .i64 f.n)∧Below w.heap.size w w':=by
  obtain ⟨ta,tc,na,nc,pa,pc⟩:=a
  unfold FlA.val
  simp only
  unfold Fl.n at *
  go_enter Tryz.func88,Tryz.ntmps88
  go_wp2_with fail
  go_ret
  exact ⟨ret_int (by omega),(Below.refl _ _).alloc (Nat.le_refl _) _⟩
set_option maxRecDepth 100000 in
set_option maxHeartbeats 800000 in
theorem fisSymbol_any (f:Fl) (a:FlA) (x:Int) (w:World) (hp:f.n≤600) (hx:0≤x∧x<(f.n:Int)) :
    Calls Tryz.prog 121 #[a.val f,.int .i64 x] w fun e w'=>e=.returned (.bool true)∧Below w.heap.size w w':=by
  have hS:=fun W=>fsymbols_any f a W hp
  obtain ⟨ta,tc,na,nc,pa,pc⟩:=a
  unfold FlA.val at hS ⊢
  simp only at *
  have HS:Hid (∀ W,Calls Tryz.prog 88 #[.agg #[.slice ta f.terms.length tc,.slice na f.nons.length nc,.slice pa f.prods.length pc]] W fun e w'=>e=.returned (.int .i64 f.n)∧Below W.heap.size W w'):=hS
  clear hS
  have B0:Below w.heap.size w (w.alloc (Obj.cells #[Value.slice ta f.terms.length tc,Value.slice na f.nons.length nc,Value.slice pa f.prods.length pc] 25)):=(Below.refl _ _).alloc (Nat.le_refl _) _
  obtain ⟨h1,h2⟩:=hx
  have hd:decide (0≤x)=true:=decide_eq_true h1
  go_enter Tryz.func121,Tryz.ntmps121
  go_wp2_with fail
  refine (HS.out _).mono ?_
  rintro e w1 ⟨rfl,hb1⟩
  have HB:Hid (Below w.heap.size w w1):=below_then B0 hb1 B0.size
  clear B0 hb1
  go_wp2_with fail
  go_ret
  exact ⟨ret_bool (by simp),HB.out⟩
theorem prod_facts {t n:Int} {p:Pr} (h:prodB t n p=true):t≤p.left∧p.left<n∧p.right.length≤64∧-10000≤p.prec∧p.prec≤10000∧∀ x∈p.right,(0≤x.sym∧x.sym<n)∧nameN x.fld=true∧nameN x.als=true:=by
  unfold prodB at h
  simp only [Bool.and_eq_true,decide_eq_true_eq] at h
  refine ⟨h.1.1,h.1.2.1,h.1.2.2.1,h.1.2.2.2.1,h.1.2.2.2.2,fun x hx=>?_⟩
  have:=List.all_eq_true.1 h.2 x hx
  unfold itemB at this
  simp only [Bool.and_eq_true,decide_eq_true_eq] at this
  exact ⟨this.1.1,this.1.2,this.2⟩
set_option maxRecDepth 100000 in
set_option maxHeartbeats 1600000 in
theorem fitProd_any (f:Fl) (a:FlA) (p:Pr) (v:Value) (w:World) (hn:f.n≤600) (hv:SlT p.right v w) (h:prodB f.terms.length (f.n:Int) p=true) :
    Calls Tryz.prog 90 #[a.val f,.agg #[.int .i64 p.left,v,.int .i64 p.prec]] w fun e w'=>e=.returned (.bool true)∧Below w.heap.size w w':=by
  obtain ⟨p1,p2,p3,p4,p5,p6⟩:=prod_facts h
  have HI:Hid (∀ x W,0≤x→x<(f.n:Int)→Calls Tryz.prog 121 #[a.val f,.int .i64 x] W fun e w'=>e=.returned (.bool true)∧Below W.heap.size W w'):=fun x W h1 h2=>fisSymbol_any f a x W hn ⟨h1,h2⟩
  have HNM:Hid (∀ s W,nameN s=true→Calls Tryz.prog 122 #[.string s] W fun e w'=>e=.returned (.bool true)∧w'=W):=fun s W h=>nameOr_any s W h
  have HX:Hid (∀ x∈p.right,(0≤x.sym∧x.sym<(f.n:Int))∧nameN x.fld=true∧nameN x.als=true):=p6
  obtain ⟨ra,rc,rfl,hI,_,hr1,hr2⟩:=hv
  obtain ⟨ta,tc,na,nc,pa,pc⟩:=a
  have X0:=FBox.new f ⟨ta,tc,na,nc,pa,pc⟩ 25 w
  have B0:Below w.heap.size w (w.alloc (fobj f ⟨ta,tc,na,nc,pa,pc⟩ 25)):=(Below.refl _ _).alloc (Nat.le_refl _) _
  have X1:=X0.next ((Below.refl _ _).alloc (Nat.le_refl _) (Obj.cells #[.int .i64 p.left,.slice ra p.right.length rc,.int .i64 p.prec] 58))
  have B1:=B0.alloc B0.size (Obj.cells #[.int .i64 p.left,.slice ra p.right.length rc,.int .i64 p.prec] 58)
  have q0:((w.alloc (fobj f ⟨ta,tc,na,nc,pa,pc⟩ 25)).alloc (Obj.cells #[.int .i64 p.left,.slice ra p.right.length rc,.int .i64 p.prec] 58)).cell? ⟨w.heap.size+1,0,none⟩=some (.int .i64 p.left):=by simp [fobj]
  have q1:((w.alloc (fobj f ⟨ta,tc,na,nc,pa,pc⟩ 25)).alloc (Obj.cells #[.int .i64 p.left,.slice ra p.right.length rc,.int .i64 p.prec] 58)).cell? ⟨w.heap.size+1,1,none⟩=some (.slice ra p.right.length rc):=by simp [fobj]
  have q2:((w.alloc (fobj f ⟨ta,tc,na,nc,pa,pc⟩ 25)).alloc (Obj.cells #[.int .i64 p.left,.slice ra p.right.length rc,.int .i64 p.prec] 58)).cell? ⟨w.heap.size+1,2,none⟩=some (.int .i64 p.prec):=by simp [fobj]
  have hz:w.heap.size+1<((w.alloc (fobj f ⟨ta,tc,na,nc,pa,pc⟩ 25)).alloc (Obj.cells #[.int .i64 p.left,.slice ra p.right.length rc,.int .i64 p.prec] 58)).heap.size:=by simp
  unfold fobj at X1 B1 q0 q1 q2 hz
  unfold FlA.val at HI ⊢
  simp only at *
  clear X0 B0 h p6
  have pl:0≤p.left:=by omega
  go_enter Tryz.func90,Tryz.ntmps90
  go_wp2_with fail
  generalize ((w.alloc (Obj.cells #[Value.slice ta f.terms.length tc,Value.slice na f.nons.length nc,Value.slice pa f.prods.length pc] 25)).alloc (Obj.cells #[.int .i64 p.left,.slice ra p.right.length rc,.int .i64 p.prec] 58))=w0 at *
  refine (HI.out _ _ pl p2).mono ?_
  rintro e w1 ⟨rfl,hb1⟩
  have B2:=below_then B1 hb1 B1.size
  have X2:=X1.next hb1
  have r0:=(hb1.cell (p:=⟨w.heap.size+1,0,none⟩) hz).trans q0
  have r1:=(hb1.cell (p:=⟨w.heap.size+1,1,none⟩) hz).trans q1
  have r2:=(hb1.cell (p:=⟨w.heap.size+1,2,none⟩) hz).trans q2
  clear X1 B1 q0 q1 q2 hb1 hz
  go_wp2_with fail
  have HXF:Hid (∀ W,Below w1.heap.size w1 W→FBox f ⟨ta,tc,na,nc,pa,pc⟩ w.heap.size W):=fun W hb=>X2.next hb
  have HIT:Hid (∀ W,Below w1.heap.size w1 W→ItsAt p.right ra W):=fun W hb=>(hI.next B2).next hb
  clear X2 hI r0 r1 r2
  go_loopw [31] (fun i wr=>∃ (j:Nat),i=.int .i64 j∧j≤p.right.length∧Below w1.heap.size w1 wr) (fun i _=>p.right.length - (intOf i).toNat)
  case atStart=>exact ⟨0,rfl,Nat.zero_le _,Below.refl _ _⟩
  case round =>
    obtain ⟨j,rfl,hj,hbr⟩:=hrel
    by_cases hlt:j<p.right.length
    · obtain ⟨b,off,rfl,_,c0,c1,c2,_⟩:=(HIT.out _ hbr).at (Below.refl _ _) hlt
      obtain ⟨⟨s1,s2⟩,s3,s4⟩:=HX.out _ (List.getElem_mem hlt)
      generalize p.right[j]=x at *
      obtain ⟨_,k0,k1,k2⟩:=HXF.out _ hbr
      simp only at k0 k1 k2
      have Bx:Below w1.heap.size w1 (wr.alloc (Obj.cells #[.int .i64 x.sym,.string x.fld,.string x.als] 55)):=hbr.alloc hbr.size _
      have hz:wr.heap.size<(wr.alloc (Obj.cells #[.int .i64 x.sym,.string x.fld,.string x.als] 55)).heap.size:=by simp
      have t1:(wr.alloc (Obj.cells #[.int .i64 x.sym,.string x.fld,.string x.als] 55)).cell? ⟨wr.heap.size,1,none⟩=some (.string x.fld):=by simp
      have t2:(wr.alloc (Obj.cells #[.int .i64 x.sym,.string x.fld,.string x.als] 55)).cell? ⟨wr.heap.size,2,none⟩=some (.string x.als):=by simp
      go_wp2_with fail
      generalize (wr.alloc (Obj.cells #[.int .i64 x.sym,.string x.fld,.string x.als] 55))=W1 at *
      refine (HI.out _ _ s1 s2).mono ?_
      rintro e W2 ⟨rfl,hb2⟩
      have By:=below_then Bx hb2 Bx.size
      have u1:=(hb2.cell (p:=⟨wr.heap.size,1,none⟩) hz).trans t1
      have u2:=(hb2.cell (p:=⟨wr.heap.size,2,none⟩) hz).trans t2
      clear Bx t1 t2 hb2 hz
      have n1:=HNM.out x.fld W2 s3
      have n2:=HNM.out x.als W2 s4
      go_wp2_with fail
      refine n1.mono ?_
      rintro e W3 ⟨rfl,rfl⟩
      go_wp2_with fail
      refine n2.mono ?_
      rintro e W4 ⟨rfl,rfl⟩
      clear n1 n2
      go_wp2_with fail
      exact ⟨⟨j+1,by go_num,by omega,By⟩,by simp [intOf]; omega⟩
    · go_wp2_with fail
      go_ret
      exact ⟨rfl,below_then B2 hbr B2.size⟩
theorem fitB_parts {f:Fl} (h:fitB f=true):titlesB f.terms=true∧titlesB f.nons=true∧prodsB f.terms.length (f.n:Int) f.terms.length f.prods=true:=by
  unfold fitB headB at h
  simp only [Bool.and_eq_true] at h
  exact ⟨h.1.1.2,h.1.2,h.2⟩
theorem prodsB_drop {t n:Int} {l:List Pr} {j:Nat} {prev:Int} (hj:j<l.length) (h:prodsB t n prev (l.drop j)=true):prev≤l[j].left∧prodB t n l[j]=true∧prodsB t n l[j].left (l.drop (j+1))=true:=by
  rw [List.drop_eq_getElem_cons hj,prodsB] at h
  simp only [Bool.and_eq_true,decide_eq_true_eq] at h
  exact ⟨h.1.1,h.1.2,h.2⟩
set_option maxRecDepth 100000 in
set_option maxHeartbeats 1600000 in
theorem flatFit_any (f:Fl) (a:FlA) (w:World) (hf:FlAt f a w) (h:fitB f=true) :
    Calls Tryz.prog 57 #[a.val f] w fun e w'=>e=.returned (.bool true)∧Below w.heap.size w w':=by
  have hp:=fit_facts h
  have hn:f.n≤600:=hp.size
  obtain ⟨h1,h2,h3⟩:=fitB_parts h
  have HSY:Hid (∀ W,Calls Tryz.prog 88 #[a.val f] W fun e w'=>e=.returned (.int .i64 f.n)∧Below W.heap.size W w'):=fun W=>fsymbols_any f a W hn
  have HT1:Hid (∀ W,Below w.heap.size w W→Calls Tryz.prog 89 #[.slice a.ta f.terms.length a.tc] W fun e w'=>e=.returned (.bool true)∧w'=W):=fun W hb=>fitTexts_any f.terms a.ta a.tc W (hf.1.next hb) h1 (by have:=hp.size; omega)
  have HT2:Hid (∀ W,Below w.heap.size w W→Calls Tryz.prog 89 #[.slice a.na f.nons.length a.nc] W fun e w'=>e=.returned (.bool true)∧w'=W):=fun W hb=>fitTexts_any f.nons a.na a.nc W (hf.2.1.next hb) h2 (by have:=hp.size; omega)
  have HFP:Hid (∀ (p:Pr) (v:Value) (W:World),SlT p.right v W→prodB f.terms.length (f.n:Int) p=true→Calls Tryz.prog 90 #[a.val f,.agg #[.int .i64 p.left,v,.int .i64 p.prec]] W fun e w'=>e=.returned (.bool true)∧Below W.heap.size W w'):=fun p v W hv hB=>fitProd_any f a p v W hn hv hB
  have HPR:Hid (∀ W,Below w.heap.size w W→PrsAt f.prods a.pa W):=fun W hb=>hf.2.2.1.next hb
  have g1:=hp.nons
  have g2:=hp.size
  have g3:=hp.prods
  obtain ⟨ta,tc,na,nc,pa,pc⟩:=a
  have X0:=FBox.new f ⟨ta,tc,na,nc,pa,pc⟩ 25 w
  have B0:Below w.heap.size w (w.alloc (fobj f ⟨ta,tc,na,nc,pa,pc⟩ 25)):=(Below.refl _ _).alloc (Nat.le_refl _) _
  unfold fobj at X0 B0
  unfold FlA.val at HSY HFP ⊢
  simp only at *
  have g1':((f.nons.length:Int) == 0)=false:=beq_eq_false_iff_ne.2 (by omega)
  have HP0:Hid (prodsB f.terms.length (f.n:Int) f.terms.length f.prods=true):=h3
  clear hf h hp h1 h2 h3
  go_enter Tryz.func57,Tryz.ntmps57
  go_wp2_with fail
  generalize (w.alloc (Obj.cells #[Value.slice ta f.terms.length tc,Value.slice na f.nons.length nc,Value.slice pa f.prods.length pc] 25))=W0 at *
  refine (HSY.out _).mono ?_
  rintro e w1 ⟨rfl,hb1⟩
  have X1:=X0.next hb1
  have B1:=below_then B0 hb1 B0.size
  obtain ⟨_,k0,k1,k2⟩:=id X1
  simp only at k0 k1 k2
  clear X0 B0 hb1 HSY
  go_wp2_with fail
  refine (HT1.out _ B1).mono ?_
  rintro e w2 ⟨rfl,rfl⟩
  go_wp2_with fail
  refine (HT2.out _ B1).mono ?_
  rintro e w3 ⟨rfl,rfl⟩
  clear HT1 HT2
  go_wp2_with fail
  have HXF:Hid (∀ W,Below w3.heap.size w3 W→FBox f ⟨ta,tc,na,nc,pa,pc⟩ w.heap.size W):=fun W hb=>X1.next hb
  have HPX:Hid (∀ W,Below w3.heap.size w3 W→PrsAt f.prods pa W):=fun W hb=>HPR.out _ (below_then B1 hb B1.size)
  clear X1 HPR k0 k1 k2
  go_loopw [3,37] (fun q i wr=>∃ (j:Nat) (prev:Int),q=.int .i64 prev∧i=.int .i64 j∧j≤f.prods.length∧prodsB f.terms.length (f.n:Int) prev (f.prods.drop j)=true∧Below w3.heap.size w3 wr) (fun _ i _=>f.prods.length - (intOf i).toNat)
  case atStart=>exact ⟨0,_,rfl,rfl,Nat.zero_le _,HP0.out,Below.refl _ _⟩
  case round =>
    clear HP0
    obtain ⟨j,prev,rfl,rfl,hj,hpr,hbr⟩:=hrel
    by_cases hlt:j<f.prods.length
    · obtain ⟨b,off,v,rfl,_,c0,c1,c2,hv,_⟩:=(HPX.out _ hbr).at (Below.refl _ _) hlt
      obtain ⟨s1,s2,s3⟩:=prodsB_drop hlt hpr
      have HS3:Hid (prodsB f.terms.length (f.n:Int) f.prods[j].left (f.prods.drop (j+1))=true):=s3
      clear s3 hpr
      generalize f.prods[j]=x at *
      obtain ⟨_,k0,k1,k2⟩:=HXF.out _ hbr
      simp only at k0 k1 k2
      obtain ⟨ra,rc,rfl,_⟩:=id hv
      have Bx:Below w3.heap.size w3 (wr.alloc (Obj.cells #[.int .i64 x.left,.slice ra x.right.length rc,.int .i64 x.prec] 58)):=hbr.alloc hbr.size _
      have HC:=HFP.out x _ _ (hv.next ((Below.refl wr.heap.size wr).alloc (Nat.le_refl _) (Obj.cells #[.int .i64 x.left,.slice ra x.right.length rc,.int .i64 x.prec] 58))) s2
      have hz:wr.heap.size<(wr.alloc (Obj.cells #[.int .i64 x.left,.slice ra x.right.length rc,.int .i64 x.prec] 58)).heap.size:=by simp
      have t0:(wr.alloc (Obj.cells #[.int .i64 x.left,.slice ra x.right.length rc,.int .i64 x.prec] 58)).cell? ⟨wr.heap.size,0,none⟩=some (.int .i64 x.left):=by simp
      have s1':decide (x.left<prev)=false:=decide_eq_false (by omega)
      clear hv s2
      have HC2:Hid (Calls Tryz.prog 90 #[.agg #[.slice ta f.terms.length tc,.slice na f.nons.length nc,.slice (some ⟨b,off,none⟩) f.prods.length pc],.agg #[.int .i64 x.left,.slice ra x.right.length rc,.int .i64 x.prec]] (wr.alloc (Obj.cells #[.int .i64 x.left,.slice ra x.right.length rc,.int .i64 x.prec] 58)) fun e w'=>e=.returned (.bool true)∧Below (wr.alloc (Obj.cells #[.int .i64 x.left,.slice ra x.right.length rc,.int .i64 x.prec] 58)).heap.size (wr.alloc (Obj.cells #[.int .i64 x.left,.slice ra x.right.length rc,.int .i64 x.prec] 58)) w'):=HC
      clear HC
      go_wp2_with fail
      generalize (wr.alloc (Obj.cells #[.int .i64 x.left,.slice ra x.right.length rc,.int .i64 x.prec] 58))=W1 at *
      refine HC2.out.mono ?_
      rintro e W2 ⟨rfl,hb2⟩
      have By:=below_then Bx hb2 Bx.size
      have u0:=(hb2.cell (p:=⟨wr.heap.size,0,none⟩) hz).trans t0
      clear Bx t0 hb2 hz HC2
      go_wp2_with fail
      exact ⟨⟨j+1,x.left,rfl,by go_num,by omega,HS3.out,By⟩,by simp [intOf]; omega⟩
    · go_wp2_with fail
      go_ret
      exact ⟨rfl,below_then B1 hbr B1.size⟩
def ofL (f:Fl) (s:Int) (j:Nat):List Int:=((List.range j).filter fun k=>decide ((f.prods[k]?).map (·.left)=some s)).map (fun k:Nat=>(k:Int))
theorem ofL_yes {f:Fl} {s:Int} {j:Nat} {p:Pr} (h:f.prods[j]?=some p) (hs:p.left=s):ofL f s (j+1)=ofL f s j++[(j:Int)]:=by
  unfold ofL
  rw [List.range_succ,List.filter_append,List.map_append]
  simp [h,hs]
theorem ofL_no {f:Fl} {s:Int} {j:Nat} {p:Pr} (h:f.prods[j]?=some p) (hs:¬ p.left=s):ofL f s (j+1)=ofL f s j:=by
  unfold ofL
  rw [List.range_succ,List.filter_append,List.map_append]
  simp [h,hs]
theorem ofL_len (f:Fl) (s:Int) (j:Nat):(ofL f s j).length≤j:=by
  unfold ofL
  rw [List.length_map]
  exact Nat.le_trans (List.length_filter_le _ _) (by simp)
def ofA (f:Fl) (s:Int):List Int:=ofL f s f.prods.length
theorem mem_ofA {f:Fl} {s x:Int}:x∈ofA f s↔∃ (q:Nat) (p:Pr),x=q∧f.prods[q]?=some p∧p.left=s:=by
  unfold ofA ofL
  constructor
  · intro h
    obtain ⟨k,hk,rfl⟩:=List.mem_map.1 h
    obtain ⟨h1,h2⟩:=List.mem_filter.1 hk
    obtain ⟨p,hp,hs⟩:=Option.map_eq_some_iff.1 (of_decide_eq_true h2)
    exact ⟨k,p,rfl,hp,hs⟩
  · rintro ⟨q,p,rfl,hp,hs⟩
    refine List.mem_map.2 ⟨q,List.mem_filter.2 ⟨List.mem_range.2 (List.getElem?_eq_some_iff.1 hp).1,?_⟩,rfl⟩
    simp [hp,hs]
theorem ofL_ok {f:Fl} {s:Int} {j:Nat} (hj:j≤1000):∀ y∈ofL f s j,i64B y:=by
  intro y hy
  unfold ofL at hy
  obtain ⟨k,hk,rfl⟩:=List.mem_map.1 hy
  have:=List.mem_range.1 (List.mem_filter.1 hk).1
  unfold i64B
  omega
set_option maxRecDepth 100000 in
set_option maxHeartbeats 1600000 in
theorem of_any (f:Fl) (a:FlA) (s:Int) (w:World) (hf:FlAt f a w) (hl:f.prods.length≤1000) :
    Calls Tryz.prog 93 #[a.val f,.int .i64 s] w fun e w'=>∃ v,e=.returned v∧SlI (ofA f s) v w'∧Apart w.heap.size v∧Below w.heap.size w w':=by
  obtain ⟨i0,hi0,hz0,hz1,hz2⟩:=info_parts info3
  obtain ⟨ta,tc,na,nc,pa,pc⟩:=a
  have X0:=FBox.new f ⟨ta,tc,na,nc,pa,pc⟩ 25 w
  have B0:Below w.heap.size w (w.alloc (fobj f ⟨ta,tc,na,nc,pa,pc⟩ 25)):=(Below.refl _ _).alloc (Nat.le_refl _) _
  obtain ⟨h0,h1,h2,h3,h4,h5,h6,h7⟩:=hf
  unfold fobj at X0 B0
  unfold FlA.val
  simp only at *
  clear h0 h1
  obtain ⟨_,y0,y1,y2⟩:=id X0
  simp only at y0 y1 y2
  go_enter Tryz.func93,Tryz.ntmps93
  go_wp2_with fail
  generalize w.alloc (Obj.cells #[Value.slice ta f.terms.length tc,Value.slice na f.nons.length nc,Value.slice pa f.prods.length pc] 25)=w0 at *
  have HX:Hid (∀ W,Below w0.heap.size w0 W→FBox f ⟨ta,tc,na,nc,pa,pc⟩ w.heap.size W):=fun W hb=>X0.next hb
  have HP:Hid (∀ W,Below w0.heap.size w0 W→PrsAt f.prods pa W):=fun W hb=>(h2.next B0).next hb
  have HB:Hid (∀ W,Below w0.heap.size w0 W→Below w.heap.size w W):=fun W hb=>below_then B0 hb B0.size
  have HZ0:Hid (w.heap.size≤w0.heap.size):=B0.size
  clear X0 B0 h2 y0 y1 y2
  go_loopw [5,11] (fun o i wr=>∃ (j:Nat),i=.int .i64 j∧j≤f.prods.length∧Own1 3 encI w0.heap.size (ofL f s j) o wr∧Below w0.heap.size w0 wr) (fun _ i _=>f.prods.length - (intOf i).toNat)
  case atStart=>exact ⟨0,rfl,Nat.zero_le _,Own1.nil _ _ _ _,Below.refl _ _⟩
  case round =>
    obtain ⟨j,rfl,hj,hown,B1⟩:=hrel
    obtain ⟨x1,d0,d1,d2⟩:=HX.out _ B1
    simp only at d0 d1 d2
    have hsz:=B1.size
    obtain ⟨oa,oc,rfl⟩:=slice_of_own hown
    have HW:Hid (wr.ownsRow w0.heap.size 3 1 (.slice oa (ofL f s j).length oc) (ofL f s j).length ((ofL f s j).map encI)):=hown
    have hLj:=ofL_len f s j
    clear hown
    by_cases hlt:j<f.prods.length
    · obtain ⟨b,off,v,rfl,_,c0,c1,c2,hv,hlf,_⟩:=(HP.out _ B1).at (Below.refl _ _) hlt
      have HG:Hid (f.prods[j]?=some f.prods[j]):=List.getElem?_eq_getElem hlt
      generalize f.prods[j]=p at *
      obtain ⟨ra,rc,rfl,_⟩:=hv
      by_cases hs:p.left=s
      · have HO2:Hid (ofL f s (j+1)=ofL f s j++[(j:Int)]):=ofL_yes HG.out hs
        subst hs
        have w1own:=HW.out
        generalize ofL f p.left j=L at *
        obtain ⟨LV,hLV⟩:∃ LV,L.map encI=LV:=⟨_,rfl⟩
        have HLV:Hid (L.map encI=LV):=hLV
        rw [hLV] at w1own
        clear hLV HW
        have B1a:Below w0.heap.size w0 (wr.alloc (Obj.cells #[.int .i64 p.left,.slice ra p.right.length rc,.int .i64 p.prec] 58)):=B1.alloc hsz _
        have hsza:=B1a.size
        have w1o:=World.ownsRow.alloc w1own (Obj.cells #[.int .i64 p.left,.slice ra p.right.length rc,.int .i64 p.prec] 58)
        go_wp2_with (at_builtin; refine wpList_append_own _ rfl (.tmp 20) (.tmp 22) 43 rfl w0.heap.size 3 i0 _ 1 8 Tryz.underlying43 hi0 hz0 hz1 hz2 rfl (by decide) _ L.length LV rfl (World.ownsRow.alloc w1o _) ⟨wr.heap.size+1,0,none⟩ 1 1 [encI j] rfl rfl (by first | exact new_cell _ _ _ | (have:=new_cell (wr.alloc (Obj.cells #[.int .i64 p.left,.slice ra p.right.length rc,.int .i64 p.prec] 58)) (encI j) 3; simpa [encI] using this)) (by simp [encI]; rfl) (by unfold maxLen; omega) (by omega) (by simp; omega) ?_)
        intro v2 w2 hown2 hg2 _
        have B2:Below w0.heap.size w0 w2:=(B1a.alloc hsza _).grown hg2 (by simp; omega) (fun k e=>(World.ownsRow.lt w1own k e).1)
        obtain ⟨a2,c2,rfl⟩:=slice_of_own hown2
        have HW2:Hid (Own1 3 encI w0.heap.size (L++[(j:Int)]) (.slice a2 (L.length+1) c2) w2):=by
          show World.ownsRow _ _ _ _ _ _ _
          have:=hown2
          rw [← HLV.out] at this
          simpa using this
        clear hown2 hg2 w1own w1o B1a hsza
        go_wp2_with fail
        exact ⟨⟨j+1,by go_num,by omega,by rw [HO2.out]; exact HW2.out,B2⟩,by simp [intOf]; omega⟩
      · have hs':(p.left == s)=false:=by simpa using hs
        have HO2:Hid (ofL f s (j+1)=ofL f s j):=ofL_no HG.out hs
        go_wp2_with fail
        exact ⟨⟨j+1,by go_num,by omega,by rw [HO2.out]; exact World.ownsRow.alloc HW.out _,B1.alloc hsz _⟩,by simp [intOf]; omega⟩
    · obtain rfl:j=f.prods.length:=by omega
      go_wp2_with fail
      go_ret
      exact ⟨_,rfl,sli_own (B:=w0.heap.size) HW.out (ofL_ok hl),(apart_own HW.out).mono HZ0.out,HB.out _ B1⟩
theorem ownsRow_next {W W':World} {B n k:Nat} {e:TypeId} {v:Value} {xs:List Value} (h:W.ownsRow B e k v n xs) (hb:Below W.heap.size W W'):W'.ownsRow B e k v n xs:=by
  refine ⟨h.1,?_⟩
  rcases h.2 with h' | ⟨g,cap,cur,h1,h2,h3,h4⟩
  · exact .inl h'
  · exact .inr ⟨g,cap,cur,h1,h2,(hb.block g (Array.getElem?_eq_some_iff.1 h3).1).trans h3,h4⟩
theorem OwnL.next {W W':World} {B:Nat} {v:Value} {l:List Ir} (h:OwnL B l v W) (hb:Below W.heap.size W W'):OwnL B l v W':=ownsRow_next h hb
theorem SlL.of {l:List Ir} {ao:Option Addr} {cap:Nat} {W:World} (h:IrsAt l ao W) (h1:ao=none→cap=0) (h2:l.length≤cap):SlL l (.slice ao l.length cap) W:=⟨ao,cap,rfl,h,h1,h2⟩
theorem movedL_take {f:Fl} {l:List Ir} {s:Int} {j:Nat} (h:j<l.length):movedL f (l.take (j+1)) s=movedL f (l.take j) s++(if nextI f l[j]=some s then [(l[j].1,l[j].2.1+1,l[j].2.2)] else []):=by
  unfold movedL
  rw [List.take_succ_eq_append_getElem h,List.filter_append,List.map_append]
  congr 1
  split
  · rename_i h; simp [h]
  · rename_i h; simp [h]
theorem movedL_len (f:Fl) (l:List Ir) (s:Int):(movedL f l s).length≤l.length:=by
  unfold movedL; rw [List.length_map]; exact List.length_filter_le _ _
theorem movedL_ok {f:Fl} {l:List Ir} {s:Int} (hp:FitP f):∀ x∈movedL f l s,okR x:=fun x hx=>by
  have h1:=fitI_iff.1 (movedL_fit x hx)
  have h2:=rightI_le hp x.1
  have h3:=hp.prods
  have h4:=hp.size
  unfold okR i64B
  omega
end Go.Proofs.YtbilbgjojdlobaaGreatDoor
namespace Go.Proofs.YtbilbgjojdlobaaGreatDoor
open Go.RowKit Go.Shelf
attribute [local go_sem] Oper.semAt_some
def KpC (D:Nat→Prop) (A B:World):Prop:=∀ (ad:Addr) (v:Value),D ad.block→A.cell? ad=some v→B.cell? ad=some v
theorem KpC.refl (D:Nat→Prop) (A:World):KpC D A A:=fun _ _ _ h=>h
theorem KpC.trans {D:Nat→Prop} {A B C:World} (h:KpC D A B) (k:KpC D B C):KpC D A C:=fun a v hd hv=>k a v hd (h a v hd hv)
theorem KpC.grown {D:Nat→Prop} {A B:World} {row:Option Nat} (hg:A.grownBy B row) (hr:∀ r,row=some r→∃ o:Obj,A.heap[r]?=some o∧o.isCells=false):KpC D A B:=fun _ _ _ hv=>cell_kept hv hg hr
theorem KpC.putObj {D:Nat→Prop} (W:World) (l:Nat) (o o':Obj) (h:W.heap[l]?=some o) (hc:o.isCells=false):KpC D W (W.putObj l o') :=
  .grown (grownBy_putObj' W l o') (fun r e=>by cases e; exact ⟨o,h,hc⟩)
theorem KpC.alloc {D:Nat→Prop} (W:World) (o:Obj):KpC D W (W.alloc o):=.grown (World.grownBy_alloc W o none) (fun _ e=>by cases e)
set_option maxHeartbeats 400000 in
theorem prods_any (f:Fl) (a:FlA) (w:World) :
    Calls Tryz.prog 170 #[a.val f] w fun e w'=>e=.returned (.func (.func 193) #[] #[.pointer (some ⟨w.heap.size,0,none⟩)])∧w'=w.alloc (fobj f a 25):=by
  obtain ⟨ta,tc,na,nc,pa,pc⟩:=a
  unfold FlA.val fobj
  simp only
  go_enter Tryz.func170,Tryz.ntmps170
  go_wp2
  go_ret
  exact ⟨rfl,rfl⟩
theorem range_pre {a b:Nat} (h:a≤b):List.range a <+: List.range b:=by
  obtain ⟨d,rfl⟩:∃ d,b=a+d:=⟨b - a,by omega⟩
  exact ⟨(List.range d).map (a+·),List.range_add.symm⟩
set_option maxRecDepth 100000 in
set_option maxHeartbeats 1000000 in
theorem prods1_in (n:Nat) (hn:1≤n) (l Bx pb off N pc:Nat) (lf:Nat→Int) (ra:Nat→Option Addr) (rl rc:Nat→Nat) (pp:Nat→Int) (hN:N≤400) (J Jx:List Nat→World→Prop)
    (hA:∀ s W o,J s W→J s (W.alloc o))
    (hY:∀ pre x W,J pre W→pre.length<N→YieldAt Fence.wide (n - 1) Tryz.prog l #[.int .i64 (lf x),.slice (ra x) (rl x) (rc x)] W fun e W' =>
      (e=.returned (.bool true)∧J (pre++[x]) W'∧KpC (fun k=>k=Bx∨k=pb) W W')∨(e=.returned (.bool false)∧Jx (pre++[x]) W'))
    (W:World) (h0:J [] W) (c2:W.cell? ⟨Bx,2,none⟩=some (.slice (some ⟨pb,off,none⟩) N pc))
    (hc:∀ j,j<N→W.cell? ⟨pb,off+j * 3,none⟩=some (.int .i64 (lf j))∧W.cell? ⟨pb,off+j * 3+1,none⟩=some (.slice (ra j) (rl j) (rc j))∧W.cell? ⟨pb,off+j * 3+2,none⟩=some (.int .i64 (pp j))) :
    CallsIn Fence.wide n Tryz.prog 193 #[.func (.yield l) #[] #[],.pointer (some ⟨Bx,0,none⟩)] W fun e W'=>(∃ v,e=.returned v) ∧
      ((∃ ys,ys=List.range N∧J ys W')∨(∃ pre,pre <+: List.range N∧Jx pre W')):=by
  refine callsIn_of_wp Tryz.func193 rfl trivial ?_ rfl
  simp only [Tryz.ntmps193,List.size_toArray,List.length_cons,List.length_nil,Nat.reduceAdd,Nat.reduceSub,Array.replicate_succ,Array.replicate_zero,List.push_toArray,List.append_toArray,List.nil_append,List.cons_append]
  gi_wp2
  gi_loopw [8] (fun i wr=>∃ (j:Nat),i=.int .i64 j∧j≤N∧J (List.range j) wr∧∀ j,j<N→wr.cell? ⟨pb,off+j * 3,none⟩=some (.int .i64 (lf j))∧wr.cell? ⟨pb,off+j * 3+1,none⟩=some (.slice (ra j) (rl j) (rc j))∧wr.cell? ⟨pb,off+j * 3+2,none⟩=some (.int .i64 (pp j)))
    (fun i _=>N - (intOf i).toNat)
  case atStart=>exact ⟨0,rfl,Nat.zero_le _,h0,hc⟩
  case round =>
    clear hc c2 h0
    obtain ⟨j,rfl,hj,hJ,hc⟩:=hrel
    by_cases hlt:j<N
    · obtain ⟨d0,d1,d2⟩:=hc j hlt
      have HC:Hid (∀ j,j<N→wr.cell? ⟨pb,off+j * 3,none⟩=some (.int .i64 (lf j))∧wr.cell? ⟨pb,off+j * 3+1,none⟩=some (.slice (ra j) (rl j) (rc j))∧wr.cell? ⟨pb,off+j * 3+2,none⟩=some (.int .i64 (pp j))):=hc
      clear hc
      obtain ⟨fn,tmps,assign,body,hy,hR⟩:=hY (List.range j) j (wr.alloc (Obj.cells #[.int .i64 (lf j),.slice (ra j) (rl j) (rc j),.int .i64 (pp j)] 58)) (hA _ _ _ hJ) (by simpa using hlt)
      have HS:Hid (List.range j++[j]=List.range (j+1)):=List.range_succ.symm
      clear hY hA
      gi_wp2
      refine hR.mono ?_
      rintro e W3 (⟨rfl,hJ3,hk3⟩ | ⟨rfl,hJx3⟩)
      · have HC3:Hid (∀ j,j<N→W3.cell? ⟨pb,off+j * 3,none⟩=some (.int .i64 (lf j))∧W3.cell? ⟨pb,off+j * 3+1,none⟩=some (.slice (ra j) (rl j) (rc j))∧W3.cell? ⟨pb,off+j * 3+2,none⟩=some (.int .i64 (pp j))):=fun i hi=>by
          obtain ⟨e0,e1,e2⟩:=HC.out i hi
          have hk:=(KpC.alloc wr _).trans hk3
          exact ⟨hk _ _ (.inr rfl) e0,hk _ _ (.inr rfl) e1,hk _ _ (.inr rfl) e2⟩
        rw [HS.out] at hJ3
        clear hk3 HC d0 d1 d2 hR hy hJ
        gi_wp2
        go_roundw
        case rel=>exact ⟨j+1,by go_num,by omega,hJ3,HC3.out⟩
        case measure=>simp [intOf]; omega
      · rw [HS.out] at hJx3
        gi_wp2
        refine bodyPost_ret (results_none rfl _ _ _) rfl ?_
        exact ⟨⟨_,rfl⟩,.inr ⟨_,range_pre (by omega),hJx3⟩⟩
    · obtain rfl:j=N:=by omega
      clear hc hY hA
      gi_wp2
      go_end0
      exact ⟨⟨_,rfl⟩,.inl ⟨_,rfl,hJ⟩⟩
theorem prods_stops (n:Nat) (hn:1≤n) (Bx pb off N pc:Nat) (lf:Nat→Int) (ra:Nat→Option Addr) (rl rc:Nat→Nat) (pp:Nat→Int) (hN:N≤400) (w:World) (hBx:Bx<w.heap.size) (hpb:pb<w.heap.size)
    (c2:w.cell? ⟨Bx,2,none⟩=some (.slice (some ⟨pb,off,none⟩) N pc))
    (hc:∀ j,j<N→w.cell? ⟨pb,off+j * 3,none⟩=some (.int .i64 (lf j))∧w.cell? ⟨pb,off+j * 3+1,none⟩=some (.slice (ra j) (rl j) (rc j))∧w.cell? ⟨pb,off+j * 3+2,none⟩=some (.int .i64 (pp j))) :
    SeqStopsK Fence.wide n Tryz.prog 193 #[.pointer (some ⟨Bx,0,none⟩)] (fun x=>#[.int .i64 (lf x),.slice (ra x) (rl x) (rc x)]) (KpC (fun k=>k=Bx∨k=pb)) (fun ys=>ys=List.range N) (fun pre=>pre <+: List.range N) N w:=fun l J Jx W hW hJ _ hY h0 =>
  prods1_in n hn l Bx pb off N pc lf ra rl rc pp hN J Jx (fun s W' o hs=>hJ s _ _ none hs (World.grownBy_alloc W' o none) (fun _ e=>by cases e)) hY W h0
    ((hW.cell (p:=⟨Bx,2,none⟩) hBx).trans c2)
    (fun j hj=>by
      obtain ⟨e0,e1,e2⟩:=hc j hj
      exact ⟨(hW.cell (p:=⟨pb,off+j * 3,none⟩) hpb).trans e0,(hW.cell (p:=⟨pb,off+j * 3+1,none⟩) hpb).trans e1,(hW.cell (p:=⟨pb,off+j * 3+2,none⟩) hpb).trans e2⟩)
theorem wpIn_scope_wide {n:Nat} {P:Program} {c:Code} {Q:Exit→Act→World→Prop} {a:Act} {w:World} (h:c.wpIn Fence.wide n P (Exit.noGoto Q) a w):(Code.scope c).wpIn Fence.wide n P Q a w :=
  wpIn_wide.2 (wp_scope_straight (wpIn_wide.1 h))
attribute [local go_sem] Oper.semAt_some
structure But (D:Nat→Prop) (w w':World):Prop where
  os:w'.os=w.os
  tape:w'.tape=w.tape
  output:w'.output=w.output
  size:w.heap.size≤w'.heap.size
  block:∀ k,k<w.heap.size→¬ D k→w'.heap[k]?=w.heap[k]?
theorem But.refl (D:Nat→Prop) (w:World):But D w w:=⟨rfl,rfl,rfl,Nat.le_refl _,fun _ _ _=>rfl⟩
theorem But.trans {D:Nat→Prop} {a b c:World} (h:But D a b) (k:But D b c):But D a c :=
  ⟨k.os.trans h.os,k.tape.trans h.tape,k.output.trans h.output,Nat.le_trans h.size k.size,fun i hi hd=>(k.block i (Nat.lt_of_lt_of_le hi h.size) hd).trans (h.block i hi hd)⟩
theorem But.mono {D E:Nat→Prop} {a b:World} (h:But D a b) (hd:∀ k,k<a.heap.size→D k→E k):But E a b :=
  ⟨h.os,h.tape,h.output,h.size,fun k hk he=>h.block k hk (fun hD=>he (hd k hk hD))⟩
theorem But.of_below {n:Nat} {a b:World} (h:Below n a b):But (fun k=>n≤k) a b:=⟨h.os,h.tape,h.output,h.size,fun k _ hd=>h.block k (by omega)⟩
theorem But.of_next {D:Nat→Prop} {a b:World} (h:Below a.heap.size a b):But D a b:=⟨h.os,h.tape,h.output,h.size,fun k hk _=>h.block k hk⟩
theorem But.below {n:Nat} {D:Nat→Prop} {a b:World} (h:But D a b) (hn:n≤a.heap.size) (hd:∀ k,D k→n≤k):Below n a b :=
  ⟨h.os,h.tape,h.output,h.size,fun k hk=>h.block k (by omega) (fun hD=>by have:=hd k hD; omega)⟩
theorem But.cell {D:Nat→Prop} {a b:World} (h:But D a b) {p:Addr} (hp:p.block<a.heap.size) (hd:¬ D p.block):b.cell? p=a.cell? p:=World.cell?_of_block (h.block _ hp hd)
theorem But.frozen {D:Nat→Prop} {a b:World} (h:But D a b) {p:Addr} (hp:p.block<a.heap.size) (hd:¬ D p.block):b.frozen? p=a.frozen? p:=World.frozen?_of_block (h.block _ hp hd)
theorem But.keeps {D:Nat→Prop} {a b:World} (h:But D a b) {B:Nat} (hd:∀ k,D k→k<B):KeepsFrom B a b :=
  ⟨h.size,fun k o hB hk _=>(h.block k (Array.getElem?_eq_some_iff.1 hk).1 (fun hD=>by have:=hd k hD; omega)).trans hk⟩
theorem But.kpC {D E:Nat→Prop} {a b:World} (h:But D a b) (hd:∀ k,E k→¬ D k):KpC E a b:=fun ad v he hv=>by
  obtain ⟨o,ho,_⟩:=cells_of_cell hv
  rw [h.cell (Array.getElem?_eq_some_iff.1 ho).1 (hd _ he)]; exact hv
theorem But.drew {D:Nat→Prop} {a b:World} (h:But D a b):But D a b.drew:=⟨h.os,h.tape,h.output,h.size,h.block⟩
theorem But.drewN {D:Nat→Prop} {a b:World} (h:But D a b) (n:Nat):But D a (b.drewN n):=⟨h.os,h.tape,h.output,h.size,h.block⟩
def LastC (n j c i:Nat):Prop:=(i<j∧j - i≤c)∨(j≤i∧j+n - i≤c)
def mark (d:Nat):Deferred:={ target:=.collected d,args:=#[] }
def Mk (B:Nat) (Ds:List Nat) (W:World):Prop:=Ds.Nodup∧∀ d∈Ds,B≤d∧W.heap[d]?=some (.deferred (some []))
theorem leaves_marks {F:Fence} {n:Nat} {P:Program} {fn:Func} {tmps:Array Value} {B:Nat} {Rw:World→Prop} (hres:∀ W,∃ v,(results fn tmps).run P W=.ok v W)
    (hR:∀ W d,B≤d→W.heap[d]?=some (.deferred (some []))→Rw W→Rw (W.putObj d (.deferred none))) :
    ∀ (Ds:List Nat) (W:World),Mk B Ds W→Rw W→LeavesInM F n P fn tmps (fun e W'=>(∃ v,e=.returned v)∧Rw W') (Ds.map mark) .returning W
  | [],W,_,h=>by
    obtain ⟨v,hv⟩:=hres W
    exact ⟨v,hv,⟨_,rfl⟩,h⟩
  | d :: Ds,W,hM,h=>by
    obtain ⟨hB,hd⟩:=hM.2 d (by simp)
    have hn:=List.nodup_cons.1 hM.1
    refine ⟨by simp,.inl ⟨d,_,rfl,run_takeDeferred hd,?_⟩⟩
    refine leaves_marks hres hR Ds _ ⟨hn.2,fun e he=>?_⟩ (hR W d hB hd h)
    have:=hM.2 e (by simp [he])
    exact ⟨this.1,(World.putObj_heap_other (fun h'=>hn.1 (by rw [← h']; exact he))).trans this.2⟩
structure SC (M:Nat) (v0 v1 v2 v3:Value) (c:Nat) (W:World):Prop where
  f0:W.cell? ⟨M,0,none⟩=some v0
  f1:W.cell? ⟨M,1,none⟩=some v1
  f2:W.cell? ⟨M,2,none⟩=some v2
  g0:W.cell? ⟨M+1,0,none⟩=some v3
  st:W.cell? ⟨M+1+1,0,none⟩=some (.int .i64 c)
  fz:W.frozen? ⟨M+1+1,0,none⟩=false
theorem SC.lt {M v0 v1 v2 v3 c W} (h:SC M v0 v1 v2 v3 c W):M+1+1<W.heap.size:=World.block_lt_of_cell? W _ h.st
theorem SC.kept {M v0 v1 v2 v3 c W W'} {row:Option Nat} (h:SC M v0 v1 v2 v3 c W) (hg:W.grownBy W' row) (hr:∀ r,row=some r→∃ o:Obj,W.heap[r]?=some o∧o.isCells=false):SC M v0 v1 v2 v3 c W' :=
  ⟨cell_kept h.f0 hg hr,cell_kept h.f1 hg hr,cell_kept h.f2 hg hr,cell_kept h.g0 hg hr,cell_kept h.st hg hr,(frozen_kept h.st hg hr).trans h.fz⟩
theorem SC.but {M v0 v1 v2 v3 c W W'} {D:Nat→Prop} (h:SC M v0 v1 v2 v3 c W) (hb:But D W W') (hD:∀ k,D k→k<M):SC M v0 v1 v2 v3 c W':=by
  have hl:=h.lt
  have e:∀ {k o v},M≤k→k≤M+1+1→W.cell? ⟨k,o,none⟩=some v→W'.cell? ⟨k,o,none⟩=some v:=fun {k o v} h1 h2 hv=>(hb.cell (p:=⟨k,o,none⟩) (by show k<_; omega) (fun hd=>by have:=hD _ hd; simp only at this; omega)).trans hv
  exact ⟨e (by omega) (by omega) h.f0,e (by omega) (by omega) h.f1,e (by omega) (by omega) h.f2,e (by omega) (by omega) h.g0,e (by omega) (by omega) h.st,(hb.frozen (p:=⟨M+1+1,0,none⟩) hl (fun hd=>by have:=hD _ hd; simp only at this; omega)).trans h.fz⟩
theorem SC.set {M v0 v1 v2 v3 c W} (h:SC M v0 v1 v2 v3 c W) (c':Nat):SC M v0 v1 v2 v3 c' (W.setCell ⟨M+1+1,0,none⟩ (.int .i64 c')):=by
  have o:∀ {k o v},k≠M+1+1→W.cell? ⟨k,o,none⟩=some v→(W.setCell ⟨M+1+1,0,none⟩ (.int .i64 c')).cell? ⟨k,o,none⟩=some v:=fun {k o v} hk hv=>(World.cell?_of_block (w:=W) (Below.heap_setCell W ⟨M+1+1,0,none⟩ _ k hk)).trans hv
  exact ⟨o (by omega) h.f0,o (by omega) h.f1,o (by omega) h.f2,o (by omega) h.g0,World.cell?_setCell_same _ _ _ h.st,by rw [World.frozen?_setCell]; exact h.fz⟩
theorem But.setCell {D:Nat→Prop} {a b:World} (h:But D a b) (p:Addr) (v:Value) (hp:a.heap.size≤p.block∨D p.block):But D a (b.setCell p v) :=
  ⟨h.os,h.tape,h.output,by simpa using h.size,fun k hk hd=>(Below.heap_setCell b p v k (fun e=>by rcases hp with h1 | h1; omega; exact hd (e ▸ h1))).trans (h.block k hk hd)⟩
theorem But.grown {D:Nat→Prop} {a b c:World} (h:But D a b) {row:Option Nat} (hg:b.grownBy c row) (hr:∀ r,row=some r→a.heap.size≤r):But D a c :=
  ⟨hg.os.trans h.os,hg.tape.trans h.tape,hg.output.trans h.output,Nat.le_trans h.size hg.size,fun k hk hd=>(hg.block k (Nat.lt_of_lt_of_le hk h.size) (fun e=>by have:=hr k e.symm; omega)).trans (h.block k hk hd)⟩
theorem Mk.grown {B:Nat} {Ds:List Nat} {W W':World} {row:Option Nat} (h:Mk B Ds W) (hg:W.grownBy W' row) (hr:∀ r,row=some r→∀ d∈Ds,d≠r):Mk B Ds W' :=
  ⟨h.1,fun d hd=>⟨(h.2 d hd).1,(hg.block d (Array.getElem?_eq_some_iff.1 (h.2 d hd).2).1 (fun e=>hr d e.symm d hd rfl)).trans (h.2 d hd).2⟩⟩
theorem Mk.but {B:Nat} {Ds:List Nat} {W W':World} {D:Nat→Prop} (h:Mk B Ds W) (hb:But D W W') (hD:∀ k,D k→k<B):Mk B Ds W' :=
  ⟨h.1,fun d hd=>⟨(h.2 d hd).1,(hb.block d (Array.getElem?_eq_some_iff.1 (h.2 d hd).2).1 (fun e=>by have:=hD d e; have:=(h.2 d hd).1; omega)).trans (h.2 d hd).2⟩⟩
theorem Mk.lt {B:Nat} {Ds:List Nat} {W:World} (h:Mk B Ds W):∀ d∈Ds,d<W.heap.size:=fun d hd=>(Array.getElem?_eq_some_iff.1 (h.2 d hd).2).1
theorem wrap_succ {c N:Nat} (h:c<N) (hN:N≤400):wrap64 ((c:Int)+1)=c+1:=IntWalk.wrap64_in _ (by omega)
theorem succ_dec {c N:Nat}:(((c+1:Nat):Int) == (N:Int))=decide (c+1=N):=by
  rw [Bool.eq_iff_iff]; simp; omega
theorem LastC.all {n c i:Nat} (hc:n≤c) (j:Nat) (hj:j≤n) (_hi:i<n):LastC n j c i:=by unfold LastC; omega
theorem LastC.zero {n j i:Nat} (hi:i<n) (h:LastC n j 0 i):False:=by unfold LastC at h; omega
theorem LastC.step {n j c i:Nat} (_hi:i<n) (h:LastC n (j+1) (c+1) i):i=j∨LastC n j c i:=by unfold LastC at *; omega
theorem LastC.wrap {n c i:Nat} (h:LastC n 0 c i) (hi:i<n):LastC n n c i:=by unfold LastC at *; omega
set_option maxRecDepth 100000 in
set_option maxHeartbeats 2000000 in
theorem settle_in {σ:Type} (n:Nat) (hn:6≤n) (f:Fl) (a:FlA) (g:Nat) (lb:Array Value) (eg:∀ args w,(callFunc g args).run Tryz.prog w=.ok (.enter g args) w) (S:σ→World→Prop) (D:Nat→Prop) (μ:σ→Nat) (Cl:Nat→σ→Prop)
    (w:World) (hp:FitP f) (hfl:∀ s W,S s W→FlAt f a W) (hS:∀ s W W',S s W→Below w.heap.size W W'→S s W') (hD:∀ k,D k→k<w.heap.size) (hDa:0<f.prods.length→∀ ad,a.pa=some ad→¬ D ad.block)
    (hg:∀ (j:Nat) (hj:j<f.prods.length) (s:σ) (W:World) (v:Value),S s W→SlT f.prods[j].right v W→w.heap.size≤W.heap.size→(∃ pb off,a.pa=some ⟨pb,off,none⟩∧w.cell? ⟨pb,off+j * 3+1,none⟩=some v)→Calls Tryz.prog g (#[.int .i64 f.prods[j].left,v]++lb) W fun e W'=>∃ s' b,e=.returned (.bool b)∧S s' W'∧But D W W'∧(b=true→μ s'<μ s)∧(b=false→s'=s∧Cl j s))
    (s0:σ) (h0:S s0 w) :
    CallsIn Fence.wide n Tryz.prog 147 #[a.val f,.func (.func g) #[] lb] w fun e W'=>(∃ v,e=.returned v)∧∃ s,S s W'∧(∀ j,j<f.prods.length→Cl j s)∧But D w W':=by
  obtain ⟨ta,tc,na,nc,pa,pc⟩:=a
  -- the productions' cells,as they lie all along
  have HQ:Hid (0<f.prods.length→∃ (pb off:Nat) (q:Nat→(Int × Int) × Option Addr × Nat × Nat),pa=some ⟨pb,off,none⟩∧pb<w.heap.size∧∀ x,∃ (j:Nat) (hj:j<f.prods.length),(x<f.prods.length→j=x) ∧
      w.cell? ⟨pb,off+j * 3,none⟩=some (.int .i64 (q x).1.1)∧w.cell? ⟨pb,off+j * 3+1,none⟩=some (.slice (q x).2.1 (q x).2.2.1 (q x).2.2.2)∧w.cell? ⟨pb,off+j * 3+2,none⟩=some (.int .i64 (q x).1.2)∧(q x).1.1=f.prods[j].left):=fun hpos=>by
    obtain ⟨_,_,h2,_⟩:=hfl _ _ h0
    obtain ⟨pb,off,_,hpa,hpb,_⟩:=h2 0 _ (List.getElem?_eq_getElem hpos)
    simp only at hpa
    have hall:∀ x:Nat,∃ q:(Int × Int) × Option Addr × Nat × Nat,∃ (j:Nat) (hj:j<f.prods.length),(x<f.prods.length→j=x) ∧
      w.cell? ⟨pb,off+j * 3,none⟩=some (.int .i64 q.1.1)∧w.cell? ⟨pb,off+j * 3+1,none⟩=some (.slice q.2.1 q.2.2.1 q.2.2.2)∧w.cell? ⟨pb,off+j * 3+2,none⟩=some (.int .i64 q.1.2)∧q.1.1=f.prods[j].left:=fun x=>by
      have key:∀ j,(hj:j<f.prods.length)→∃ q:(Int × Int) × Option Addr × Nat × Nat,w.cell? ⟨pb,off+j * 3,none⟩=some (.int .i64 q.1.1)∧w.cell? ⟨pb,off+j * 3+1,none⟩=some (.slice q.2.1 q.2.2.1 q.2.2.2)∧w.cell? ⟨pb,off+j * 3+2,none⟩=some (.int .i64 q.1.2)∧q.1.1=f.prods[j].left:=fun j hj=>by
        obtain ⟨b,o,v,e,_,k0,k1,k2,hv,_⟩:=h2 j _ (List.getElem?_eq_getElem hj)
        obtain ⟨ra,rc,rfl,_⟩:=hv
        simp only at e
        rw [hpa] at e
        cases e
        exact ⟨((f.prods[j].left,f.prods[j].prec),ra,f.prods[j].right.length,rc),k0,k1,k2,rfl⟩
      by_cases hx:x<f.prods.length
      · obtain ⟨q,hq⟩:=key x hx
        exact ⟨q,x,hx,fun _=>rfl,hq⟩
      · obtain ⟨q,hq⟩:=key 0 hpos
        exact ⟨q,0,hpos,fun h=>absurd h hx,hq⟩
    obtain ⟨q,hq⟩:=Classical.axiomOfChoice hall
    exact ⟨pb,off,q,hpa,hpb,hq⟩
  have HSL:Hid (∀ (pb off:Nat),pa=some ⟨pb,off,none⟩→∀ (j:Nat) (hj:j<f.prods.length) (v:Value) (s:σ) (W:World),w.cell? ⟨pb,off+j * 3+1,none⟩=some v→S s W→But D w W→SlT f.prods[j].right v W):=fun pb off hpa j hj v s W hv hs hB=>by
    obtain ⟨_,_,h2,_⟩:=hfl _ _ hs
    obtain ⟨b,o,v',e,_,_,k1,_,hv',_⟩:=h2 j _ (List.getElem?_eq_getElem hj)
    simp only at e
    rw [hpa] at e
    cases e
    rw [hB.cell (p:=⟨pb,off+j * 3+1,none⟩) (World.block_lt_of_cell? w _ hv) (by have:=hDa (by omega) _ hpa; exact this),hv] at k1
    cases k1
    exact hv'
  have HS:Hid (∀ s W W',S s W→Below w.heap.size W W'→S s W'):=hS
  have HD:Hid (∀ k,D k→k<w.heap.size):=hD
  have HDA:Hid (0<f.prods.length→∀ ad,pa=some ad→¬ D ad.block):=hDa
  have HGR:Hid (∀ (j:Nat) (hj:j<f.prods.length) (s:σ) (W:World) (v:Value),S s W→SlT f.prods[j].right v W→w.heap.size≤W.heap.size→(∃ pb off,pa=some ⟨pb,off,none⟩∧w.cell? ⟨pb,off+j * 3+1,none⟩=some v)→Calls Tryz.prog g (#[.int .i64 f.prods[j].left,v]++lb) W fun e W'=>∃ s' b,e=.returned (.bool b)∧S s' W'∧But D W W'∧(b=true→μ s'<μ s)∧(b=false→s'=s∧Cl j s)):=hg
  have HPR:Hid (∀ W,Calls Tryz.prog 170 #[.agg #[.slice ta f.terms.length tc,.slice na f.nons.length nc,.slice pa f.prods.length pc]] W fun e w'=>e=.returned (.func (.func 193) #[] #[.pointer (some ⟨W.heap.size,0,none⟩)])∧w'=W.alloc (Obj.cells #[.slice ta f.terms.length tc,.slice na f.nons.length nc,.slice pa f.prods.length pc] 25)):=fun W=>prods_any f ⟨ta,tc,na,nc,pa,pc⟩ W
  have hN4:=hp.prods
  have h1:1≤n:=by omega
  unfold FlA.val
  simp only
  clear hfl hg hS hD hDa hp
  refine callsIn_of_wp_marks Tryz.func147 rfl trivial ?_ rfl
  simp only [Tryz.ntmps147,List.size_toArray,List.length_cons,List.length_nil,Nat.reduceAdd,Nat.reduceSub,Array.replicate_succ,Array.replicate_zero,List.push_toArray,List.append_toArray,List.nil_append,List.cons_append]
  gi_wp2
  refine wpIn_scope_wide ?_
  gi_wp2
  refine wpIn_label ?_
  gi_wp2
  refine wpIn_loop_ghost (fun m a' W=>∃ (t7 t8 t9 t10 t11 t12:Value) (Ds:List Nat) (s:σ) (c:Nat),a'={ tmps:=#[Value.agg #[.slice ta f.terms.length tc,.slice na f.nons.length nc,.slice pa f.prods.length pc],.func (.func g) #[] lb,.pointer (some ⟨w.heap.size,0,none⟩),.pointer (some ⟨w.heap.size+1,0,none⟩),.pointer (some ⟨w.heap.size+1+1,0,none⟩),undef,undef,t7,t8,t9,t10,t11,t12,undef,undef,undef,undef,undef,undef,undef,undef,undef,undef,undef,undef,undef],defers:=Ds.map mark }∧m=μ s∧Mk w.heap.size Ds W∧S s W∧SC w.heap.size (.slice ta f.terms.length tc) (.slice na f.nons.length nc) (.slice pa f.prods.length pc) (.func (.func g) #[] lb) c W∧But D w W∧(c=0∨c<f.prods.length)∧∀ i,i<f.prods.length→LastC f.prods.length 0 c i→Cl i s) (μ s0) ?start ?round
  case start =>
    have hb:Below w.heap.size w (((w.alloc (Obj.cells #[.slice ta f.terms.length tc,.slice na f.nons.length nc,.slice pa f.prods.length pc] 25)).alloc (Obj.cells #[Value.func (Fn.func g) #[] lb] 203)).alloc (Obj.cells #[Value.int IntKind.i64 0] 3)):=(((Below.refl _ _).alloc (Nat.le_refl _) _).alloc (by simp) _).alloc (by simp <;> omega) _
    refine ⟨undef,undef,undef,undef,undef,undef,[],s0,0,rfl,rfl,⟨List.nodup_nil,by simp⟩,HS.out _ _ _ h0 hb,?_,But.of_next hb,.inl rfl,fun i hi h=>(h.zero hi).elim⟩
    constructor <;> go_simp
  case round =>
    clear h0
    rintro m a' W ⟨t7,t8,t9,t10,t11,t12,Ds,s,c,rfl,rfl,hM,hs,hC,hB,hc,hcl⟩
    have HE:Hid (∀ W d,w.heap.size≤d→W.heap[d]?=some (.deferred (some []))→(∃ s,S s W∧(∀ j,j<f.prods.length→Cl j s)∧But D w W)→(∃ s,S s (W.putObj d (.deferred none))∧(∀ j,j<f.prods.length→Cl j s)∧But D w (W.putObj d (.deferred none)))):=fun W d hd hh ⟨s,h1,h2,h3⟩ =>
      ⟨s,HS.out _ _ _ h1 ((Below.refl _ W).grown (grownBy_putObj' W d _) (Nat.le_trans h3.size (Nat.le_refl _)) (fun k e=>by cases e; exact hd)),h2,h3.grown (grownBy_putObj' W d _) (fun r e=>by cases e; exact hd)⟩
    by_cases hN:f.prods.length=0
    · obtain ⟨c0,c1,c2,c3,c4,c5⟩:=hC
      have HF:Hid (∃ s,S s W∧(∀ j,j<f.prods.length→Cl j s)∧But D w W):=⟨s,hs,fun j hj=>by omega,hB⟩
      rw [hN] at c2 ⊢
      gi_wp2
      exact leaves_marks (fun W=>⟨_,results_none rfl _ _ _⟩) HE.out Ds W hM HF.out
    · obtain ⟨pb,off,q,rfl,hpb,hq⟩:=HQ.out (by omega)
      clear HQ
      have hCl:=hC.lt
      have hB':Below W.heap.size W (W.alloc (Obj.cells #[.slice ta f.terms.length tc,.slice na f.nons.length nc,.slice (some ⟨pb,off,none⟩) f.prods.length pc] 25)):=(Below.refl _ _).alloc (Nat.le_refl _) _
      have hcells:∀ j,j<f.prods.length→(W.alloc (Obj.cells #[.slice ta f.terms.length tc,.slice na f.nons.length nc,.slice (some ⟨pb,off,none⟩) f.prods.length pc] 25)).cell? ⟨pb,off+j * 3,none⟩=some (.int .i64 (q j).1.1)∧(W.alloc (Obj.cells #[.slice ta f.terms.length tc,.slice na f.nons.length nc,.slice (some ⟨pb,off,none⟩) f.prods.length pc] 25)).cell? ⟨pb,off+j * 3+1,none⟩=some (.slice (q j).2.1 (q j).2.2.1 (q j).2.2.2)∧(W.alloc (Obj.cells #[.slice ta f.terms.length tc,.slice na f.nons.length nc,.slice (some ⟨pb,off,none⟩) f.prods.length pc] 25)).cell? ⟨pb,off+j * 3+2,none⟩=some (.int .i64 (q j).1.2):=fun j hj=>by
        obtain ⟨i,hi,hij,k0,k1,k2,_⟩:=hq j
        have:=hij hj
        subst this
        have hd:=HDA.out (by omega) _ rfl
        have hz:=hB.size
        have e:∀ {o v},w.cell? ⟨pb,o,none⟩=some v→(W.alloc (Obj.cells #[.slice ta f.terms.length tc,.slice na f.nons.length nc,.slice (some ⟨pb,off,none⟩) f.prods.length pc] 25)).cell? ⟨pb,o,none⟩=some v:=fun {o v} h=>(hB'.cell (p:=⟨pb,o,none⟩) (by show pb<_; omega)).trans ((hB.cell (p:=⟨pb,o,none⟩) hpb hd).trans h)
        exact ⟨e k0,e k1,e k2⟩
      have hbox:(W.alloc (Obj.cells #[.slice ta f.terms.length tc,.slice na f.nons.length nc,.slice (some ⟨pb,off,none⟩) f.prods.length pc] 25)).cell? ⟨W.heap.size,2,none⟩=some (.slice (some ⟨pb,off,none⟩) f.prods.length pc):=by simp
      have hC0:=hC.kept (World.grownBy_alloc W (Obj.cells #[.slice ta f.terms.length tc,.slice na f.nons.length nc,.slice (some ⟨pb,off,none⟩) f.prods.length pc] 25) none) (fun _ e=>by cases e)
      have hM0:=hM.grown (World.grownBy_alloc W (Obj.cells #[.slice ta f.terms.length tc,.slice na f.nons.length nc,.slice (some ⟨pb,off,none⟩) f.prods.length pc] 25) none) (fun _ e=>by cases e)
      have hB0:=hB.grown (World.grownBy_alloc W (Obj.cells #[.slice ta f.terms.length tc,.slice na f.nons.length nc,.slice (some ⟨pb,off,none⟩) f.prods.length pc] 25) none) (fun _ e=>by cases e)
      have hs0:=HS.out _ _ _ hs (hB'.mono hB.size)
      have hDs:∀ d∈Ds,d<W.heap.size:=hM.lt
      have hsz:(W.alloc (Obj.cells #[.slice ta f.terms.length tc,.slice na f.nons.length nc,.slice (some ⟨pb,off,none⟩) f.prods.length pc] 25)).heap.size=W.heap.size+1:=by simp
      have hwz:=hB.size
      obtain ⟨c0,c1,c2,c3,c4,c5⟩:=hC
      have hpos:(0:Int)<f.prods.length:=by omega
      clear hM hs hB hB'
      gi_wp2_with fail
      refine ⟨trivial,?_⟩
      refine (callsIn_wide.2 (HPR.out _)).mono ?_
      rintro e w1 ⟨rfl,rfl⟩
      clear c0 c1 c2 c3 c4 c5
      generalize (W.alloc (Obj.cells #[.slice ta f.terms.length tc,.slice na f.nons.length nc,.slice (some ⟨pb,off,none⟩) f.prods.length pc] 25))=W0 at *
      gi_wp2
      have hcN:c<f.prods.length:=by omega
      refine wpIn_rangeFunc_ownH (α:=Nat) rfl h1 (gf:=193) (lb:=#[.pointer (some ⟨W.heap.size,0,none⟩)]) rfl trivial (enters_of Tryz.func193 (by kernel_rfl) rfl)
        (prods_stops (n - 1) (by omega) W.heap.size pb off f.prods.length pc (fun x=>(q x).1.1) (fun x=>(q x).2.1) (fun x=>(q x).2.2.1) (fun x=>(q x).2.2.2) (fun x=>(q x).1.2) hN4 W0 (by omega) (by omega) hbox hcells)
        KpC.trans (fun W l o o' _ h hc _=>KpC.putObj W l o o' h hc) (Below.refl _ _) (fun _=>rfl)
        (fun pre V=>(∃ s2 c2,S s2 V∧SC w.heap.size (.slice ta f.terms.length tc) (.slice na f.nons.length nc) (.slice (some ⟨pb,off,none⟩) f.prods.length pc) (.func (.func g) #[] lb) c2 V∧c2<f.prods.length∧(pre=List.range pre.length→(∀ i,i<f.prods.length→LastC f.prods.length pre.length c2 i→Cl i s2)∧(μ s2<μ s∨(s2=s∧c2=c+pre.length))))∧Mk w.heap.size Ds V∧But D w V)
        (fun cc pre V=>(cc=.exit 0∧∃ s2,S s2 V∧(pre=List.range pre.length→∀ i,i<f.prods.length→Cl i s2))∧Mk w.heap.size Ds V∧But D w V)
        (fun pre A B row hs hg hr=>?_) (fun cc pre A B row hs hg hr=>?_)
        ⟨⟨s,c,hs0,hC0,hcN,fun _=>⟨fun i hi h=>hcl i hi (by simpa using h),.inr ⟨rfl,by simp⟩⟩⟩,hM0,hB0⟩
        (fun x a' V=>a'={ tmps:=#[Value.agg #[.slice ta f.terms.length tc,.slice na f.nons.length nc,.slice (some ⟨pb,off,none⟩) f.prods.length pc],.func (.func g) #[] lb,.pointer (some ⟨w.heap.size,0,none⟩),.pointer (some ⟨w.heap.size+1,0,none⟩),.pointer (some ⟨w.heap.size+1+1,0,none⟩),.int .i64 (q x).1.1,.slice (q x).2.1 (q x).2.2.1 (q x).2.2.2,.pointer (some ⟨w.heap.size,2,none⟩),.slice (some ⟨pb,off,none⟩) f.prods.length pc,.int .i64 f.prods.length,.bool true,Value.agg #[.slice ta f.terms.length tc,.slice na f.nons.length nc,.slice (some ⟨pb,off,none⟩) f.prods.length pc],.func (.func 193) #[] #[.pointer (some ⟨W.heap.size,0,none⟩)],.int .i64 (q x).1.1,.slice (q x).2.1 (q x).2.2.1 (q x).2.2.2,undef,undef,undef,undef,undef,undef,undef,undef,undef,undef,undef],defers:=[] })
        (fun x a' _ X Y row hs hg hr=>hs)
        ?assign ?body ?done ?stop
      · obtain ⟨⟨s2,c2,k1,k2,k3,k4⟩,k5,k6⟩:=hs
        exact ⟨⟨s2,c2,HS.out _ _ _ k1 ((Below.refl _ A).grown hg k6.size (fun k e=>by have:=(hr k e).1; omega)),k2.kept hg (fun r e=>(hr r e).2),k3,k4⟩,k5.grown hg (fun r e d hd=>by have:=(hr r e).1; have:=hDs d hd; omega),k6.grown hg (fun r e=>by have:=(hr r e).1; omega)⟩
      · obtain ⟨⟨k0,s2,k1,k2⟩,k5,k6⟩:=hs
        exact ⟨⟨k0,s2,HS.out _ _ _ k1 ((Below.refl _ A).grown hg k6.size (fun k e=>by have:=(hr k e).1; omega)),k2⟩,k5.grown hg (fun r e d hd=>by have:=(hr r e).1; have:=hDs d hd; omega),k6.grown hg (fun r e=>by have:=(hr r e).1; omega)⟩
      case assign =>
        rintro l pre x V K hI hK
        gi_wp2
        exact hK _ _ (KeepsFrom.refl _ _) (KpC.refl _ _) hI rfl
      case body =>
        rintro l pre x a' V hl hr ⟨⟨s2,c2,k1,k2,k3,k4⟩,k5,k6⟩ rfl hlt
        obtain ⟨j,hj,hjx,e0,e1,e2,e3⟩:=hq x
        have hcall:=HGR.out j hj s2 V _ k1 (HSL.out pb off rfl j hj _ s2 V e1 k1 k6) k6.size ⟨pb,off,rfl,e1⟩
        have hDM:∀ k,D k→k<w.heap.size:=HD.out
        have hnd:=HDA.out (by omega) _ rfl
        have hX:Hid (pre++[x]=List.range (pre++[x]).length→pre=List.range pre.length∧x=pre.length):=fun h=>by
          rw [List.length_append,List.length_singleton,List.range_succ] at h
          have:=List.append_inj' h rfl
          exact ⟨this.1,by simpa using this.2⟩
        obtain ⟨c0,c1,c2',c3,c4,c5⟩:=id k2
        have HK2:Hid (∀ V2,But D V V2→SC w.heap.size (.slice ta f.terms.length tc) (.slice na f.nons.length nc) (.slice (some ⟨pb,off,none⟩) f.prods.length pc) (.func (.func g) #[] lb) c2 V2):=fun V2 hb=>k2.but hb hDM
        have hlV:=k2.lt
        clear e0 e1 e2 hcells hbox k2 hq
        gi_wp2_with fail
        refine ⟨trivial,fun _=>by omega,?_⟩
        refine (CallsIn.inRound l (callsIn_wide.2 hcall)).mono ?_
        rintro e V2 ⟨s3,b,rfl,g1,g2,g3,g4⟩
        have K3:=HK2.out _ g2
        have hM2:=k5.but g2 hDM
        have hB2:=k6.trans g2
        have hzz:=g2.size
        clear c0 c1 c2' c3 c4 c5
        obtain ⟨c0,c1,c2',c3,c4,c5⟩:=id K3
        have HST:Hid (∀ c':Nat,S s3 (V2.setCell ⟨w.heap.size+1+1,0,none⟩ (.int .i64 c'))∧KeepsFrom W0.heap.size V (V2.setCell ⟨w.heap.size+1+1,0,none⟩ (.int .i64 c'))∧KpC (fun k=>k=W.heap.size∨k=pb) V (V2.setCell ⟨w.heap.size+1+1,0,none⟩ (.int .i64 c'))∧Mk w.heap.size Ds (V2.setCell ⟨w.heap.size+1+1,0,none⟩ (.int .i64 c'))∧But D w (V2.setCell ⟨w.heap.size+1+1,0,none⟩ (.int .i64 c'))∧SC w.heap.size (.slice ta f.terms.length tc) (.slice na f.nons.length nc) (.slice (some ⟨pb,off,none⟩) f.prods.length pc) (.func (.func g) #[] lb) c' (V2.setCell ⟨w.heap.size+1+1,0,none⟩ (.int .i64 c'))):=fun c'=>by
          refine ⟨HS.out _ _ _ g1 ((Below.refl _ V2).setCell (p:=⟨w.heap.size+1+1,0,none⟩) (by show w.heap.size≤w.heap.size+1+1; omega) _),(g2.keeps (fun k hk=>by have:=hDM k hk; omega)).trans ((KeepsOthers.setCell _ _ _).from _),?_,⟨hM2.1,fun d hd=>⟨(hM2.2 d hd).1,(KeepsOthers.setCell V2 ⟨w.heap.size+1+1,0,none⟩ _).same d _ (hM2.2 d hd).2 rfl⟩⟩,hB2.setCell _ _ (.inl (by show w.heap.size≤w.heap.size+1+1; omega)),K3.set c'⟩
          refine (g2.kpC (E:=fun k=>k=W.heap.size∨k=pb) (fun k hk hd=>?_)).trans (fun ad v hk hv=>?_)
          · rcases hk with rfl | rfl
            · have:=hDM _ hd; omega
            · exact hnd hd
          · exact (World.cell?_of_block (w:=V2) (Below.heap_setCell V2 ⟨w.heap.size+1+1,0,none⟩ _ _ (by rcases hk with h | h <;> rw [h] <;> simp only [] <;> omega))).trans hv
        clear hM2 hB2 g1 HK2 hcall
        cases b with
        | true =>
          obtain ⟨z1,z2,z3,z4,z5,z6⟩:=HST.out 0
          have HR:Hid (μ s3<μ s2):=g3 rfl
          have HK4:Hid (pre=List.range pre.length→(∀ i,i<f.prods.length→LastC f.prods.length pre.length c2 i→Cl i s2)∧(μ s2<μ s∨(s2=s∧c2=c+pre.length))):=k4
          clear k4 HST K3
          gi_wp2
          refine ⟨z2,z3,⟨s3,0,z1,z6,by omega,fun hx=>⟨fun i hi h=>(h.zero hi).elim,.inl ?_⟩⟩,z4,z5⟩
          have h4:=(HK4.out (hX.out hx).1).2
          have h5:=HR.out
          rcases h4 with h4 | h4
          · omega
          · rw [h4.1] at h5; exact h5
        | false =>
          obtain ⟨rfl,hclj⟩:=g4 rfl
          obtain ⟨z1,z2,z3,z4,z5,z6⟩:=HST.out (c2+1)
          have HK4:Hid (pre++[x]=List.range (pre++[x]).length→(∀ i,i<f.prods.length→LastC f.prods.length (pre++[x]).length (c2+1) i→Cl i s3)∧(μ s3<μ s∨(s3=s∧c2+1=c+(pre++[x]).length))):=fun hx=>by
            obtain ⟨hx1,hx2⟩:=hX.out hx
            obtain ⟨q1,q2⟩:=k4 hx1
            have hjx':j=x:=hjx (by omega)
            rw [List.length_append,List.length_singleton]
            refine ⟨fun i hi h=>?_,?_⟩
            · rcases h.step hi with h' | h'
              · have:i=j:=by omega
                subst this
                exact hclj
              · exact q1 i hi h'
            · rcases q2 with q2 | ⟨q2,q3⟩
              · exact .inl q2
              · exact .inr ⟨q2,by omega⟩
          have HPL:Hid ((pre++[x]).length≤f.prods.length):=by show _≤_; simp; omega
          obtain ⟨z,hz⟩:∃ z:Int,wrap64 ((c2:Int)+1)=z:=⟨_,rfl⟩
          have hze:z=((c2+1:Nat):Int):=by rw [← hz]; exact wrap_succ k3 hN4
          have hzn:(z == f.prods.length)=decide (c2+1=f.prods.length):=by rw [hze]; exact succ_dec
          have HZE:Hid (((c2+1:Nat):Int)=z):=hze.symm
          rw [HZE.out] at z1 z2 z3 z4 z5 z6
          have HK3:Hid (c2<f.prods.length):=k3
          have HZ6:Hid (SC w.heap.size (.slice ta f.terms.length tc) (.slice na f.nons.length nc) (.slice (some ⟨pb,off,none⟩) f.prods.length pc) (.func (.func g) #[] lb) (c2+1) (V2.setCell ⟨w.heap.size+1+1,0,none⟩ (.int .i64 z))):=by
            have:=(HST.out (c2+1)).2.2.2.2.2
            rw [HZE.out] at this
            exact this
          clear k4 HST K3 g3 g4 hclj hze z6 k3
          by_cases hc2:c2+1=f.prods.length
          · have HZ:Hid (∀ j,j≤f.prods.length→∀ i,i<f.prods.length→LastC f.prods.length j (c2+1) i):=fun j hj i hi=>LastC.all (by omega) j hj hi
            have hce:(z == (f.prods.length:Int))=true:=by rw [hzn]; exact decide_eq_true hc2
            clear hc2 hzn
            gi_wp2
            exact ⟨z2,⟨rfl,s3,z1,fun hx i hi=>(HK4.out hx).1 i hi (HZ.out _ HPL.out i hi)⟩,z4,z5⟩
          · have hce:(z == (f.prods.length:Int))=false:=by rw [hzn]; exact decide_eq_false hc2
            have HZ:Hid (c2+1<f.prods.length):=by have:=HK3.out; show _<_; omega
            clear hc2 hzn
            gi_wp2
            exact ⟨z2,z3,⟨s3,c2+1,z1,HZ6.out,HZ.out,HK4.out⟩,z4,z5⟩
      case done =>
        rintro d xs V hd rfl ⟨⟨s2,c2,k1,k2,k3,k4⟩,k5,k6⟩ hK
        obtain ⟨q1,q2⟩:=k4 (by simp)
        rw [List.length_range] at q1 q2
        have hlt:μ s2<μ s:=by
          rcases q2 with h | ⟨h,h'⟩
          · exact h
          · omega
        have hMd:Mk w.heap.size (d :: Ds) V:=⟨List.nodup_cons.2 ⟨fun h=>by have:=hDs d h; omega,k5.1⟩,fun e he=>by
          rcases List.mem_cons.1 he with rfl | he
          · exact ⟨by omega,hK⟩
          · exact k5.2 e he⟩
        have HQ1:Hid (∀ i,i<f.prods.length→LastC f.prods.length 0 c2 i→Cl i s2):=fun i hi h=>q1 i hi (h.wrap hi)
        clear q1 q2 k4 k5 hq HGR HSL HPR hcells
        gi_wp2
        exact ⟨μ s2,hlt,_,_,_,_,_,_,d :: Ds,s2,c2,rfl,rfl,hMd,k1,k2,k6,.inr k3,HQ1.out⟩
      case stop =>
        rintro d cc pre V hd hpre ⟨⟨rfl,s2,k1,k2⟩,k5,k6⟩ hK
        have hpr:pre=List.range pre.length:=by
          have h:=List.prefix_iff_eq_take.1 hpre
          rw [List.take_range] at h
          have hl:=hpre.length_le
          rw [List.length_range] at hl
          rw [Nat.min_eq_left hl] at h
          exact h
        have hMd:Mk w.heap.size (d :: Ds) V:=⟨List.nodup_cons.2 ⟨fun h=>by have:=hDs d h; omega,k5.1⟩,fun e he=>by
          rcases List.mem_cons.1 he with rfl | he
          · exact ⟨by omega,hK⟩
          · exact k5.2 e he⟩
        have HF:Hid (∃ s,S s V∧(∀ j,j<f.prods.length→Cl j s)∧But D w V):=⟨s2,k1,k2 hpr,k6⟩
        clear k5 k2 hq HGR HSL HPR hcells
        gi_wp2
        exact leaves_marks (fun W=>⟨_,results_none rfl _ _ _⟩) HE.out (d :: Ds) V hMd HF.out
theorem settle_any {σ:Type} (f:Fl) (a:FlA) (g:Nat) (lb:Array Value) (eg:∀ args w,(callFunc g args).run Tryz.prog w=.ok (.enter g args) w) (S:σ→World→Prop) (D:Nat→Prop) (μ:σ→Nat) (Cl:Nat→σ→Prop)
    (w:World) (hp:FitP f) (hfl:∀ s W,S s W→FlAt f a W) (hS:∀ s W W',S s W→Below w.heap.size W W'→S s W') (hD:∀ k,D k→k<w.heap.size) (hDa:0<f.prods.length→∀ ad,a.pa=some ad→¬ D ad.block)
    (hg:∀ (j:Nat) (hj:j<f.prods.length) (s:σ) (W:World) (v:Value),S s W→SlT f.prods[j].right v W→w.heap.size≤W.heap.size→(∃ pb off,a.pa=some ⟨pb,off,none⟩∧w.cell? ⟨pb,off+j * 3+1,none⟩=some v)→Calls Tryz.prog g (#[.int .i64 f.prods[j].left,v]++lb) W fun e W'=>∃ s' b,e=.returned (.bool b)∧S s' W'∧But D W W'∧(b=true→μ s'<μ s)∧(b=false→s'=s∧Cl j s))
    (s0:σ) (h0:S s0 w) :
    Calls Tryz.prog 147 #[a.val f,.func (.func g) #[] lb] w fun e W'=>(∃ v,e=.returned v)∧∃ s,S s W'∧(∀ j,j<f.prods.length→Cl j s)∧But D w W' :=
  (callsIn_wide (n:=6)).1 (settle_in 6 (by omega) f a g lb eg S D μ Cl w hp hfl hS hD hDa hg s0 h0)
end Go.Proofs.YtbilbgjojdlobaaGreatDoor
