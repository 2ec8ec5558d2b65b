import Derived.Test.YtbilbgjojdlobaaGreatDoorJ02
import Derived.Laws.AppendOwn
import Derived.Laws.OwnMore
import Derived.WalkKit

namespace Go.Proofs.YtbilbgjojdlobaaGreatDoor
open Go.RowKit
set_option maxRecDepth 100000 in
set_option maxHeartbeats 4000000 in
theorem rfit_item (f:Fl) (a:FlA) (x:Ir) (w:World) (hf:FlAt f a w) (hn:f.n≤600) :
    Calls Tryz.prog 70 #[a.val f,valR x] w fun e w'=>e=.returned (.bool (fitI f x))∧Below w.heap.size w w':=by
  have hR:=fun W (hb:Below w.heap.size w W) (h1:-1≤x.1) (h2:x.1<f.prods.length)=>rright_any f a x.1 W (hf.next hb) hn h1 h2
  obtain ⟨ta,tc,na,nc,pa,pc⟩:=a
  obtain ⟨x0,x1,x2⟩:=x
  have X0:=FBox.new f ⟨ta,tc,na,nc,pa,pc⟩ 25 w
  have B0:Below w.heap.size w (w.alloc (fobj f ⟨ta,tc,na,nc,pa,pc⟩ 25)):=(Below.refl _ _).alloc (Nat.le_refl _) _
  have Y0:=RBox.new (x0,x1,x2) 77 (w.alloc (fobj f ⟨ta,tc,na,nc,pa,pc⟩ 25))
  have X1:=X0.next ((Below.refl _ _).alloc (Nat.le_refl _) (Obj.cells #[.int .i64 x0,.int .i64 x1,.int .i64 x2] 77))
  have B1:=B0.alloc B0.size (Obj.cells #[.int .i64 x0,.int .i64 x1,.int .i64 x2] 77)
  have hz:(w.alloc (fobj f ⟨ta,tc,na,nc,pa,pc⟩ 25)).heap.size=w.heap.size+1:=by simp
  rw [hz] at Y0
  clear X0 B0 hz
  unfold fobj at X1 B1 Y0
  clear hf
  unfold FlA.val at hR ⊢
  unfold valR
  simp only at *
  have HW:Hid (fitI f (x0,x1,x2)=decide (-1≤x0∧x0<f.prods.length∧0≤x1∧x1≤(rightI f x0).length∧0≤x2∧x2≤f.terms.length)):=rfl
  obtain ⟨b1,y0,y1,y2⟩:=id Y0
  obtain ⟨b0,z0,z1,z2⟩:=id X1
  simp only at y0 y1 y2 z0 z1 z2
  go_enter Tryz.func70,Tryz.ntmps70
  go_wp2_with fail
  generalize (w.alloc (Obj.cells #[Value.slice ta f.terms.length tc,Value.slice na f.nons.length nc,Value.slice pa f.prods.length pc] 25)).alloc (Obj.cells #[.int .i64 x0,.int .i64 x1,.int .i64 x2] 77)=w0 at *
  have hstep:∀ W w',(W.cell? ⟨w.heap.size,0,none⟩=some (.slice ta f.terms.length tc)∧W.cell? ⟨w.heap.size,1,none⟩=some (.slice na f.nons.length nc)∧W.cell? ⟨w.heap.size,2,none⟩=some (.slice pa f.prods.length pc)∧W.cell? ⟨w.heap.size+1,0,none⟩=some (.int .i64 x0)∧W.cell? ⟨w.heap.size+1,1,none⟩=some (.int .i64 x1)∧W.cell? ⟨w.heap.size+1,2,none⟩=some (.int .i64 x2)∧Below w0.heap.size w0 W)→Below W.heap.size W w'→(w'.cell? ⟨w.heap.size,0,none⟩=some (.slice ta f.terms.length tc)∧w'.cell? ⟨w.heap.size,1,none⟩=some (.slice na f.nons.length nc)∧w'.cell? ⟨w.heap.size,2,none⟩=some (.slice pa f.prods.length pc)∧w'.cell? ⟨w.heap.size+1,0,none⟩=some (.int .i64 x0)∧w'.cell? ⟨w.heap.size+1,1,none⟩=some (.int .i64 x1)∧w'.cell? ⟨w.heap.size+1,2,none⟩=some (.int .i64 x2)∧Below w0.heap.size w0 w'):=by
    rintro W w' ⟨_,_,_,_,_,_,h⟩ hb
    have h':=below_then h hb h.size
    obtain ⟨_,k0,k1,k2⟩:=X1.next h'
    obtain ⟨_,l0,l1,l2⟩:=Y0.next h'
    exact ⟨k0,k1,k2,l0,l1,l2,h'⟩
  have hR':∀ W,(-1)≤x0→x0<f.prods.length→(W.cell? ⟨w.heap.size,0,none⟩=some (.slice ta f.terms.length tc)∧W.cell? ⟨w.heap.size,1,none⟩=some (.slice na f.nons.length nc)∧W.cell? ⟨w.heap.size,2,none⟩=some (.slice pa f.prods.length pc)∧W.cell? ⟨w.heap.size+1,0,none⟩=some (.int .i64 x0)∧W.cell? ⟨w.heap.size+1,1,none⟩=some (.int .i64 x1)∧W.cell? ⟨w.heap.size+1,2,none⟩=some (.int .i64 x2)∧Below w0.heap.size w0 W)→Calls Tryz.prog 71 #[.agg #[.slice ta f.terms.length tc,.slice na f.nons.length nc,.slice pa f.prods.length pc],.int .i64 x0] W fun e w'=>∃ va vc,e=.returned (.slice va (rightI f x0).length vc)∧(w'.cell? ⟨w.heap.size,0,none⟩=some (.slice ta f.terms.length tc)∧w'.cell? ⟨w.heap.size,1,none⟩=some (.slice na f.nons.length nc)∧w'.cell? ⟨w.heap.size,2,none⟩=some (.slice pa f.prods.length pc)∧w'.cell? ⟨w.heap.size+1,0,none⟩=some (.int .i64 x0)∧w'.cell? ⟨w.heap.size+1,1,none⟩=some (.int .i64 x1)∧w'.cell? ⟨w.heap.size+1,2,none⟩=some (.int .i64 x2)∧Below w0.heap.size w0 w'):=by
    intro W h1 h2 hS
    refine (hR W (below_then B1 hS.2.2.2.2.2.2 B1.size) h1 h2).mono ?_
    rintro e w' ⟨v,rfl,⟨va,vc,rfl,_⟩,hb⟩
    exact ⟨va,vc,rfl,hstep _ _ hS hb⟩
  have HS0:Hid (w0.drew.cell? ⟨w.heap.size,0,none⟩=some (.slice ta f.terms.length tc)∧w0.drew.cell? ⟨w.heap.size,1,none⟩=some (.slice na f.nons.length nc)∧w0.drew.cell? ⟨w.heap.size,2,none⟩=some (.slice pa f.prods.length pc)∧w0.drew.cell? ⟨w.heap.size+1,0,none⟩=some (.int .i64 x0)∧w0.drew.cell? ⟨w.heap.size+1,1,none⟩=some (.int .i64 x1)∧w0.drew.cell? ⟨w.heap.size+1,2,none⟩=some (.int .i64 x2)∧Below w0.heap.size w0 w0.drew):=⟨z0,z1,z2,y0,y1,y2,(Below.refl _ _).drew⟩
  have HBB:Hid (∀ W,Below w0.heap.size w0 W→Below w.heap.size w W):=fun W hb=>below_then B1 hb B1.size
  generalize (rightI f x0).length=L at *
  clear hR hstep X1 Y0 B1 b0 b1 z0 z1 z2 y0 y1 y2
  by_cases d0:(-1:Int)≤x0
  rotate_left
  · have HZ:Hid (fitI f (x0,x1,x2)=false):=by show _=_; rw [HW.out]; exact decide_eq_false (by omega)
    have e0:decide ((-1:Int)≤x0)=false:=decide_eq_false d0
    clear HW
    refine wp_region_L (fun W=>W.cell? ⟨w.heap.size,0,none⟩=some (.slice ta f.terms.length tc)∧W.cell? ⟨w.heap.size,1,none⟩=some (.slice na f.nons.length nc)∧W.cell? ⟨w.heap.size,2,none⟩=some (.slice pa f.prods.length pc)∧W.cell? ⟨w.heap.size+1,0,none⟩=some (.int .i64 x0)∧W.cell? ⟨w.heap.size+1,1,none⟩=some (.int .i64 x1)∧W.cell? ⟨w.heap.size+1,2,none⟩=some (.int .i64 x2)∧Below w0.heap.size w0 W) 40 (by kernel_rfl) 40 rfl ?_
    refine lk ⟨some 5,.fieldAddr 77 (.tmp 3) 0,0, "ref.go:21",#[],none⟩ HS0.out ?_;simp only [Act.put,sA,s0,sS]
    refine lk ⟨some 6,.load 3 (.tmp 5),3, "ref.go:21",#[⟨0,.data⟩],none⟩ HS0.out ?_;simp only [Act.put,sA,s0,sS]
    refine lk ⟨some 7,.binOp .geq 3 (.tmp 6) (.const (.int .i64 (-1))) 3,4, "ref.go:21",#[⟨1,.data⟩],none⟩ HS0.out ?_;simp only [Act.put,sA,s0,sS]
    refine lk ⟨some 8,.move (.tmp 7),4, "ref.go:21",#[⟨2,.data⟩],none⟩ HS0.out ?_;simp only [Act.put,sA,s0,sS]
    refine lu ⟨some 9,.fieldAddr 77 (.tmp 3) 0,0, "ref.go:21",#[⟨3,.guard⟩],some (3,true)⟩ HS0.out ?_;simp only [Act.put,sA,s0,sS]
    refine lu ⟨some 10,.load 3 (.tmp 9),3, "ref.go:21",#[⟨4,.data⟩,⟨3,.guard⟩],some (3,true)⟩ HS0.out ?_;simp only [Act.put,sA,s0,sS]
    refine lu ⟨some 11,.fieldAddr 25 (.tmp 2) 2,0, "ref.go:21",#[⟨3,.guard⟩],some (3,true)⟩ HS0.out ?_;simp only [Act.put,sA,s0,sS]
    refine lu ⟨some 12,.load 23 (.tmp 11),23, "ref.go:21",#[⟨6,.data⟩,⟨3,.guard⟩],some (3,true)⟩ HS0.out ?_;simp only [Act.put,sA,s0,sS]
    refine lu ⟨some 13,.call ⟨.builtin .len,#[.tmp 12],#[23]⟩,3, "ref.go:21",#[⟨7,.data⟩,⟨3,.guard⟩],some (3,true)⟩ HS0.out ?_;simp only [Act.put,sA,s0,sS]
    refine lu ⟨some 14,.binOp .lss 3 (.tmp 10) (.tmp 13) 3,4, "ref.go:21",#[⟨5,.data⟩,⟨8,.data⟩,⟨3,.guard⟩],some (3,true)⟩ HS0.out ?_;simp only [Act.put,sA,s0,sS]
    refine lk ⟨some 15,.pick (.tmp 8) (.tmp 14) (.const (.bool false)),4, "ref.go:21",#[⟨3,.data⟩,⟨9,.data⟩],none⟩ HS0.out ?_;simp only [Act.put,sA,s0,sS]
    refine lk ⟨some 16,.move (.tmp 15),4, "ref.go:21",#[⟨10,.data⟩,⟨3,.chain⟩],none⟩ HS0.out ?_;simp only [Act.put,sA,s0,sS]
    refine lu ⟨some 17,.fieldAddr 77 (.tmp 3) 1,0, "ref.go:21",#[⟨11,.guard⟩],some (11,true)⟩ HS0.out ?_;simp only [Act.put,sA,s0,sS]
    refine lu ⟨some 18,.load 3 (.tmp 17),3, "ref.go:21",#[⟨12,.data⟩,⟨11,.guard⟩],some (11,true)⟩ HS0.out ?_;simp only [Act.put,sA,s0,sS]
    refine lu ⟨some 19,.binOp .geq 3 (.tmp 18) (.const (.int .i64 0)) 3,4, "ref.go:21",#[⟨13,.data⟩,⟨11,.guard⟩],some (11,true)⟩ HS0.out ?_;simp only [Act.put,sA,s0,sS]
    refine lk ⟨some 20,.pick (.tmp 16) (.tmp 19) (.const (.bool false)),4, "ref.go:21",#[⟨11,.data⟩,⟨14,.data⟩],none⟩ HS0.out ?_;simp only [Act.put,sA,s0,sS]
    refine lk ⟨some 21,.move (.tmp 20),4, "ref.go:21",#[⟨15,.data⟩,⟨11,.chain⟩],none⟩ HS0.out ?_;simp only [Act.put,sA,s0,sS]
    refine lu ⟨some 22,.fieldAddr 77 (.tmp 3) 1,0, "ref.go:21",#[⟨16,.guard⟩],some (16,true)⟩ HS0.out ?_;simp only [Act.put,sA,s0,sS]
    refine lu ⟨some 23,.load 3 (.tmp 22),3, "ref.go:21",#[⟨17,.data⟩,⟨16,.guard⟩],some (16,true)⟩ HS0.out ?_;simp only [Act.put,sA,s0,sS]
    refine lu ⟨some 24,.load 25 (.tmp 2),25, "ref.go:21",#[⟨16,.guard⟩],some (16,true)⟩ HS0.out ?_;simp only [Act.put,sA,s0,sS]
    refine lu ⟨some 25,.fieldAddr 77 (.tmp 3) 0,0, "ref.go:21",#[⟨16,.guard⟩],some (16,true)⟩ HS0.out ?_;simp only [Act.put,sA,s0,sS]
    refine lu ⟨some 26,.load 3 (.tmp 25),3, "ref.go:21",#[⟨20,.data⟩,⟨16,.guard⟩],some (16,true)⟩ HS0.out ?_;simp only [Act.put,sA,s0,sS]
    refine lu ⟨some 27,.call ⟨.value (.func 71),#[.tmp 24,.tmp 26],#[25,3]⟩,56, "ref.go:21",#[⟨19,.data⟩,⟨21,.data⟩,⟨16,.chain⟩,⟨16,.guard⟩],some (16,true)⟩ HS0.out ?_;simp only [Act.put,sA,s0,sS]
    refine lu ⟨some 28,.call ⟨.builtin .len,#[.tmp 27],#[56]⟩,3, "ref.go:21",#[⟨22,.data⟩,⟨16,.guard⟩],some (16,true)⟩ HS0.out ?_;simp only [Act.put,sA,s0,sS]
    refine lu ⟨some 29,.binOp .leq 3 (.tmp 23) (.tmp 28) 3,4, "ref.go:21",#[⟨18,.data⟩,⟨23,.data⟩,⟨16,.guard⟩],some (16,true)⟩ HS0.out ?_;simp only [Act.put,sA,s0,sS]
    refine lk ⟨some 30,.pick (.tmp 21) (.tmp 29) (.const (.bool false)),4, "ref.go:21",#[⟨16,.data⟩,⟨24,.data⟩],none⟩ HS0.out ?_;simp only [Act.put,sA,s0,sS]
    refine lk ⟨some 31,.move (.tmp 30),4, "ref.go:21",#[⟨25,.data⟩,⟨22,.chain⟩],none⟩ HS0.out ?_;simp only [Act.put,sA,s0,sS]
    refine lu ⟨some 32,.fieldAddr 77 (.tmp 3) 2,0, "ref.go:21",#[⟨26,.guard⟩],some (26,true)⟩ HS0.out ?_;simp only [Act.put,sA,s0,sS]
    refine lu ⟨some 33,.load 3 (.tmp 32),3, "ref.go:21",#[⟨27,.data⟩,⟨26,.guard⟩],some (26,true)⟩ HS0.out ?_;simp only [Act.put,sA,s0,sS]
    refine lu ⟨some 34,.binOp .geq 3 (.tmp 33) (.const (.int .i64 0)) 3,4, "ref.go:21",#[⟨28,.data⟩,⟨26,.guard⟩],some (26,true)⟩ HS0.out ?_;simp only [Act.put,sA,s0,sS]
    refine lk ⟨some 35,.pick (.tmp 31) (.tmp 34) (.const (.bool false)),4, "ref.go:21",#[⟨26,.data⟩,⟨29,.data⟩],none⟩ HS0.out ?_;simp only [Act.put,sA,s0,sS]
    refine lk ⟨some 36,.move (.tmp 35),4, "ref.go:21",#[⟨30,.data⟩,⟨26,.chain⟩],none⟩ HS0.out ?_;simp only [Act.put,sA,s0,sS]
    refine lu ⟨some 37,.fieldAddr 77 (.tmp 3) 2,0, "ref.go:21",#[⟨31,.guard⟩],some (31,true)⟩ HS0.out ?_;simp only [Act.put,sA,s0,sS]
    refine lu ⟨some 38,.load 3 (.tmp 37),3, "ref.go:21",#[⟨32,.data⟩,⟨31,.guard⟩],some (31,true)⟩ HS0.out ?_;simp only [Act.put,sA,s0,sS]
    refine lu ⟨some 39,.fieldAddr 25 (.tmp 2) 0,0, "ref.go:21",#[⟨31,.guard⟩],some (31,true)⟩ HS0.out ?_;simp only [Act.put,sA,s0,sS]
    refine lu ⟨some 40,.load 22 (.tmp 39),22, "ref.go:21",#[⟨34,.data⟩,⟨31,.guard⟩],some (31,true)⟩ HS0.out ?_;simp only [Act.put,sA,s0,sS]
    refine lu ⟨some 41,.call ⟨.builtin .len,#[.tmp 40],#[22]⟩,3, "ref.go:21",#[⟨35,.data⟩,⟨31,.guard⟩],some (31,true)⟩ HS0.out ?_;simp only [Act.put,sA,s0,sS]
    refine lu ⟨some 42,.binOp .leq 3 (.tmp 38) (.tmp 41) 3,4, "ref.go:21",#[⟨33,.data⟩,⟨36,.data⟩,⟨31,.guard⟩],some (31,true)⟩ HS0.out ?_;simp only [Act.put,sA,s0,sS]
    refine lk ⟨some 43,.pick (.tmp 36) (.tmp 42) (.const (.bool false)),4, "ref.go:21",#[⟨31,.data⟩,⟨37,.data⟩],none⟩ HS0.out ?_;simp only [Act.put,sA,s0,sS]
    refine lk ⟨some 4,.assign (.tmp 43),4, "ref.go:21",#[⟨38,.data⟩,⟨31,.chain⟩,⟨0,.phase⟩,⟨1,.phase⟩,⟨2,.phase⟩,⟨3,.phase⟩,⟨4,.phase⟩,⟨5,.phase⟩,⟨6,.phase⟩,⟨7,.phase⟩,⟨8,.phase⟩,⟨9,.phase⟩,⟨10,.phase⟩,⟨11,.phase⟩,⟨12,.phase⟩,⟨13,.phase⟩,⟨14,.phase⟩,⟨15,.phase⟩,⟨16,.phase⟩,⟨17,.phase⟩,⟨18,.phase⟩,⟨19,.phase⟩,⟨20,.phase⟩,⟨21,.phase⟩,⟨22,.phase⟩,⟨23,.phase⟩,⟨24,.phase⟩,⟨25,.phase⟩,⟨26,.phase⟩,⟨27,.phase⟩,⟨28,.phase⟩,⟨29,.phase⟩,⟨30,.phase⟩,⟨31,.phase⟩,⟨32,.phase⟩,⟨33,.phase⟩,⟨34,.phase⟩,⟨35,.phase⟩,⟨36,.phase⟩,⟨37,.phase⟩,⟨38,.phase⟩],none⟩ HS0.out ?_;simp only [Act.put,sA,s0,sS]
    refine wpAnyL_done (by kernel_rfl) ?_ _
    have HBx:Hid (Below w.heap.size w w0.drew):=HBB.out _ HS0.out.2.2.2.2.2.2
    clear hR' HBB HS0
    go_wp2_with fail
    go_ret
    exact ⟨ret_bool HZ.out.symm,HBx.out⟩
  by_cases d1:x0<(f.prods.length:Int)
  rotate_left
  · have HZ:Hid (fitI f (x0,x1,x2)=false):=by show _=_; rw [HW.out]; exact decide_eq_false (by omega)
    have e0:decide ((-1:Int)≤x0)=true:=decide_eq_true d0
    have e1:decide (x0<(f.prods.length:Int))=false:=decide_eq_false d1
    clear HW
    refine wp_region_L (fun W=>W.cell? ⟨w.heap.size,0,none⟩=some (.slice ta f.terms.length tc)∧W.cell? ⟨w.heap.size,1,none⟩=some (.slice na f.nons.length nc)∧W.cell? ⟨w.heap.size,2,none⟩=some (.slice pa f.prods.length pc)∧W.cell? ⟨w.heap.size+1,0,none⟩=some (.int .i64 x0)∧W.cell? ⟨w.heap.size+1,1,none⟩=some (.int .i64 x1)∧W.cell? ⟨w.heap.size+1,2,none⟩=some (.int .i64 x2)∧Below w0.heap.size w0 W) 40 (by kernel_rfl) 40 rfl ?_
    refine lk ⟨some 5,.fieldAddr 77 (.tmp 3) 0,0, "ref.go:21",#[],none⟩ HS0.out ?_;simp only [Act.put,sA,s0,sS]
    refine lk ⟨some 6,.load 3 (.tmp 5),3, "ref.go:21",#[⟨0,.data⟩],none⟩ HS0.out ?_;simp only [Act.put,sA,s0,sS]
    refine lk ⟨some 7,.binOp .geq 3 (.tmp 6) (.const (.int .i64 (-1))) 3,4, "ref.go:21",#[⟨1,.data⟩],none⟩ HS0.out ?_;simp only [Act.put,sA,s0,sS]
    refine lk ⟨some 8,.move (.tmp 7),4, "ref.go:21",#[⟨2,.data⟩],none⟩ HS0.out ?_;simp only [Act.put,sA,s0,sS]
    refine lk ⟨some 9,.fieldAddr 77 (.tmp 3) 0,0, "ref.go:21",#[⟨3,.guard⟩],some (3,true)⟩ HS0.out ?_;simp only [Act.put,sA,s0,sS]
    refine lk ⟨some 10,.load 3 (.tmp 9),3, "ref.go:21",#[⟨4,.data⟩,⟨3,.guard⟩],some (3,true)⟩ HS0.out ?_;simp only [Act.put,sA,s0,sS]
    refine lk ⟨some 11,.fieldAddr 25 (.tmp 2) 2,0, "ref.go:21",#[⟨3,.guard⟩],some (3,true)⟩ HS0.out ?_;simp only [Act.put,sA,s0,sS]
    refine lk ⟨some 12,.load 23 (.tmp 11),23, "ref.go:21",#[⟨6,.data⟩,⟨3,.guard⟩],some (3,true)⟩ HS0.out ?_;simp only [Act.put,sA,s0,sS]
    refine lk ⟨some 13,.call ⟨.builtin .len,#[.tmp 12],#[23]⟩,3, "ref.go:21",#[⟨7,.data⟩,⟨3,.guard⟩],some (3,true)⟩ HS0.out ?_;simp only [Act.put,sA,s0,sS]
    refine lk ⟨some 14,.binOp .lss 3 (.tmp 10) (.tmp 13) 3,4, "ref.go:21",#[⟨5,.data⟩,⟨8,.data⟩,⟨3,.guard⟩],some (3,true)⟩ HS0.out ?_;simp only [Act.put,sA,s0,sS]
    refine lk ⟨some 15,.pick (.tmp 8) (.tmp 14) (.const (.bool false)),4, "ref.go:21",#[⟨3,.data⟩,⟨9,.data⟩],none⟩ HS0.out ?_;simp only [Act.put,sA,s0,sS]
    refine lk ⟨some 16,.move (.tmp 15),4, "ref.go:21",#[⟨10,.data⟩,⟨3,.chain⟩],none⟩ HS0.out ?_;simp only [Act.put,sA,s0,sS]
    refine lu ⟨some 17,.fieldAddr 77 (.tmp 3) 1,0, "ref.go:21",#[⟨11,.guard⟩],some (11,true)⟩ HS0.out ?_;simp only [Act.put,sA,s0,sS]
    refine lu ⟨some 18,.load 3 (.tmp 17),3, "ref.go:21",#[⟨12,.data⟩,⟨11,.guard⟩],some (11,true)⟩ HS0.out ?_;simp only [Act.put,sA,s0,sS]
    refine lu ⟨some 19,.binOp .geq 3 (.tmp 18) (.const (.int .i64 0)) 3,4, "ref.go:21",#[⟨13,.data⟩,⟨11,.guard⟩],some (11,true)⟩ HS0.out ?_;simp only [Act.put,sA,s0,sS]
    refine lk ⟨some 20,.pick (.tmp 16) (.tmp 19) (.const (.bool false)),4, "ref.go:21",#[⟨11,.data⟩,⟨14,.data⟩],none⟩ HS0.out ?_;simp only [Act.put,sA,s0,sS]
    refine lk ⟨some 21,.move (.tmp 20),4, "ref.go:21",#[⟨15,.data⟩,⟨11,.chain⟩],none⟩ HS0.out ?_;simp only [Act.put,sA,s0,sS]
    refine lu ⟨some 22,.fieldAddr 77 (.tmp 3) 1,0, "ref.go:21",#[⟨16,.guard⟩],some (16,true)⟩ HS0.out ?_;simp only [Act.put,sA,s0,sS]
    refine lu ⟨some 23,.load 3 (.tmp 22),3, "ref.go:21",#[⟨17,.data⟩,⟨16,.guard⟩],some (16,true)⟩ HS0.out ?_;simp only [Act.put,sA,s0,sS]
    refine lu ⟨some 24,.load 25 (.tmp 2),25, "ref.go:21",#[⟨16,.guard⟩],some (16,true)⟩ HS0.out ?_;simp only [Act.put,sA,s0,sS]
    refine lu ⟨some 25,.fieldAddr 77 (.tmp 3) 0,0, "ref.go:21",#[⟨16,.guard⟩],some (16,true)⟩ HS0.out ?_;simp only [Act.put,sA,s0,sS]
    refine lu ⟨some 26,.load 3 (.tmp 25),3, "ref.go:21",#[⟨20,.data⟩,⟨16,.guard⟩],some (16,true)⟩ HS0.out ?_;simp only [Act.put,sA,s0,sS]
    refine lu ⟨some 27,.call ⟨.value (.func 71),#[.tmp 24,.tmp 26],#[25,3]⟩,56, "ref.go:21",#[⟨19,.data⟩,⟨21,.data⟩,⟨16,.chain⟩,⟨16,.guard⟩],some (16,true)⟩ HS0.out ?_;simp only [Act.put,sA,s0,sS]
    refine lu ⟨some 28,.call ⟨.builtin .len,#[.tmp 27],#[56]⟩,3, "ref.go:21",#[⟨22,.data⟩,⟨16,.guard⟩],some (16,true)⟩ HS0.out ?_;simp only [Act.put,sA,s0,sS]
    refine lu ⟨some 29,.binOp .leq 3 (.tmp 23) (.tmp 28) 3,4, "ref.go:21",#[⟨18,.data⟩,⟨23,.data⟩,⟨16,.guard⟩],some (16,true)⟩ HS0.out ?_;simp only [Act.put,sA,s0,sS]
    refine lk ⟨some 30,.pick (.tmp 21) (.tmp 29) (.const (.bool false)),4, "ref.go:21",#[⟨16,.data⟩,⟨24,.data⟩],none⟩ HS0.out ?_;simp only [Act.put,sA,s0,sS]
    refine lk ⟨some 31,.move (.tmp 30),4, "ref.go:21",#[⟨25,.data⟩,⟨22,.chain⟩],none⟩ HS0.out ?_;simp only [Act.put,sA,s0,sS]
    refine lu ⟨some 32,.fieldAddr 77 (.tmp 3) 2,0, "ref.go:21",#[⟨26,.guard⟩],some (26,true)⟩ HS0.out ?_;simp only [Act.put,sA,s0,sS]
    refine lu ⟨some 33,.load 3 (.tmp 32),3, "ref.go:21",#[⟨27,.data⟩,⟨26,.guard⟩],some (26,true)⟩ HS0.out ?_;simp only [Act.put,sA,s0,sS]
    refine lu ⟨some 34,.binOp .geq 3 (.tmp 33) (.const (.int .i64 0)) 3,4, "ref.go:21",#[⟨28,.data⟩,⟨26,.guard⟩],some (26,true)⟩ HS0.out ?_;simp only [Act.put,sA,s0,sS]
    refine lk ⟨some 35,.pick (.tmp 31) (.tmp 34) (.const (.bool false)),4, "ref.go:21",#[⟨26,.data⟩,⟨29,.data⟩],none⟩ HS0.out ?_;simp only [Act.put,sA,s0,sS]
    refine lk ⟨some 36,.move (.tmp 35),4, "ref.go:21",#[⟨30,.data⟩,⟨26,.chain⟩],none⟩ HS0.out ?_;simp only [Act.put,sA,s0,sS]
    refine lu ⟨some 37,.fieldAddr 77 (.tmp 3) 2,0, "ref.go:21",#[⟨31,.guard⟩],some (31,true)⟩ HS0.out ?_;simp only [Act.put,sA,s0,sS]
    refine lu ⟨some 38,.load 3 (.tmp 37),3, "ref.go:21",#[⟨32,.data⟩,⟨31,.guard⟩],some (31,true)⟩ HS0.out ?_;simp only [Act.put,sA,s0,sS]
    refine lu ⟨some 39,.fieldAddr 25 (.tmp 2) 0,0, "ref.go:21",#[⟨31,.guard⟩],some (31,true)⟩ HS0.out ?_;simp only [Act.put,sA,s0,sS]
    refine lu ⟨some 40,.load 22 (.tmp 39),22, "ref.go:21",#[⟨34,.data⟩,⟨31,.guard⟩],some (31,true)⟩ HS0.out ?_;simp only [Act.put,sA,s0,sS]
    refine lu ⟨some 41,.call ⟨.builtin .len,#[.tmp 40],#[22]⟩,3, "ref.go:21",#[⟨35,.data⟩,⟨31,.guard⟩],some (31,true)⟩ HS0.out ?_;simp only [Act.put,sA,s0,sS]
    refine lu ⟨some 42,.binOp .leq 3 (.tmp 38) (.tmp 41) 3,4, "ref.go:21",#[⟨33,.data⟩,⟨36,.data⟩,⟨31,.guard⟩],some (31,true)⟩ HS0.out ?_;simp only [Act.put,sA,s0,sS]
    refine lk ⟨some 43,.pick (.tmp 36) (.tmp 42) (.const (.bool false)),4, "ref.go:21",#[⟨31,.data⟩,⟨37,.data⟩],none⟩ HS0.out ?_;simp only [Act.put,sA,s0,sS]
    refine lk ⟨some 4,.assign (.tmp 43),4, "ref.go:21",#[⟨38,.data⟩,⟨31,.chain⟩,⟨0,.phase⟩,⟨1,.phase⟩,⟨2,.phase⟩,⟨3,.phase⟩,⟨4,.phase⟩,⟨5,.phase⟩,⟨6,.phase⟩,⟨7,.phase⟩,⟨8,.phase⟩,⟨9,.phase⟩,⟨10,.phase⟩,⟨11,.phase⟩,⟨12,.phase⟩,⟨13,.phase⟩,⟨14,.phase⟩,⟨15,.phase⟩,⟨16,.phase⟩,⟨17,.phase⟩,⟨18,.phase⟩,⟨19,.phase⟩,⟨20,.phase⟩,⟨21,.phase⟩,⟨22,.phase⟩,⟨23,.phase⟩,⟨24,.phase⟩,⟨25,.phase⟩,⟨26,.phase⟩,⟨27,.phase⟩,⟨28,.phase⟩,⟨29,.phase⟩,⟨30,.phase⟩,⟨31,.phase⟩,⟨32,.phase⟩,⟨33,.phase⟩,⟨34,.phase⟩,⟨35,.phase⟩,⟨36,.phase⟩,⟨37,.phase⟩,⟨38,.phase⟩],none⟩ HS0.out ?_;simp only [Act.put,sA,s0,sS]
    refine wpAnyL_done (by kernel_rfl) ?_ _
    have HBx:Hid (Below w.heap.size w w0.drew):=HBB.out _ HS0.out.2.2.2.2.2.2
    clear hR' HBB HS0
    go_wp2_with fail
    go_ret
    exact ⟨ret_bool HZ.out.symm,HBx.out⟩
  by_cases d2:0≤x1
  rotate_left
  · have HZ:Hid (fitI f (x0,x1,x2)=false):=by show _=_; rw [HW.out]; exact decide_eq_false (by omega)
    have e0:decide ((-1:Int)≤x0)=true:=decide_eq_true d0
    have e1:decide (x0<(f.prods.length:Int))=true:=decide_eq_true d1
    have e2:decide (0≤x1)=false:=decide_eq_false d2
    clear HW
    refine wp_region_L (fun W=>W.cell? ⟨w.heap.size,0,none⟩=some (.slice ta f.terms.length tc)∧W.cell? ⟨w.heap.size,1,none⟩=some (.slice na f.nons.length nc)∧W.cell? ⟨w.heap.size,2,none⟩=some (.slice pa f.prods.length pc)∧W.cell? ⟨w.heap.size+1,0,none⟩=some (.int .i64 x0)∧W.cell? ⟨w.heap.size+1,1,none⟩=some (.int .i64 x1)∧W.cell? ⟨w.heap.size+1,2,none⟩=some (.int .i64 x2)∧Below w0.heap.size w0 W) 40 (by kernel_rfl) 40 rfl ?_
    refine lk ⟨some 5,.fieldAddr 77 (.tmp 3) 0,0, "ref.go:21",#[],none⟩ HS0.out ?_;simp only [Act.put,sA,s0,sS]
    refine lk ⟨some 6,.load 3 (.tmp 5),3, "ref.go:21",#[⟨0,.data⟩],none⟩ HS0.out ?_;simp only [Act.put,sA,s0,sS]
    refine lk ⟨some 7,.binOp .geq 3 (.tmp 6) (.const (.int .i64 (-1))) 3,4, "ref.go:21",#[⟨1,.data⟩],none⟩ HS0.out ?_;simp only [Act.put,sA,s0,sS]
    refine lk ⟨some 8,.move (.tmp 7),4, "ref.go:21",#[⟨2,.data⟩],none⟩ HS0.out ?_;simp only [Act.put,sA,s0,sS]
    refine lk ⟨some 9,.fieldAddr 77 (.tmp 3) 0,0, "ref.go:21",#[⟨3,.guard⟩],some (3,true)⟩ HS0.out ?_;simp only [Act.put,sA,s0,sS]
    refine lk ⟨some 10,.load 3 (.tmp 9),3, "ref.go:21",#[⟨4,.data⟩,⟨3,.guard⟩],some (3,true)⟩ HS0.out ?_;simp only [Act.put,sA,s0,sS]
    refine lk ⟨some 11,.fieldAddr 25 (.tmp 2) 2,0, "ref.go:21",#[⟨3,.guard⟩],some (3,true)⟩ HS0.out ?_;simp only [Act.put,sA,s0,sS]
    refine lk ⟨some 12,.load 23 (.tmp 11),23, "ref.go:21",#[⟨6,.data⟩,⟨3,.guard⟩],some (3,true)⟩ HS0.out ?_;simp only [Act.put,sA,s0,sS]
    refine lk ⟨some 13,.call ⟨.builtin .len,#[.tmp 12],#[23]⟩,3, "ref.go:21",#[⟨7,.data⟩,⟨3,.guard⟩],some (3,true)⟩ HS0.out ?_;simp only [Act.put,sA,s0,sS]
    refine lk ⟨some 14,.binOp .lss 3 (.tmp 10) (.tmp 13) 3,4, "ref.go:21",#[⟨5,.data⟩,⟨8,.data⟩,⟨3,.guard⟩],some (3,true)⟩ HS0.out ?_;simp only [Act.put,sA,s0,sS]
    refine lk ⟨some 15,.pick (.tmp 8) (.tmp 14) (.const (.bool false)),4, "ref.go:21",#[⟨3,.data⟩,⟨9,.data⟩],none⟩ HS0.out ?_;simp only [Act.put,sA,s0,sS]
    refine lk ⟨some 16,.move (.tmp 15),4, "ref.go:21",#[⟨10,.data⟩,⟨3,.chain⟩],none⟩ HS0.out ?_;simp only [Act.put,sA,s0,sS]
    refine lk ⟨some 17,.fieldAddr 77 (.tmp 3) 1,0, "ref.go:21",#[⟨11,.guard⟩],some (11,true)⟩ HS0.out ?_;simp only [Act.put,sA,s0,sS]
    refine lk ⟨some 18,.load 3 (.tmp 17),3, "ref.go:21",#[⟨12,.data⟩,⟨11,.guard⟩],some (11,true)⟩ HS0.out ?_;simp only [Act.put,sA,s0,sS]
    refine lk ⟨some 19,.binOp .geq 3 (.tmp 18) (.const (.int .i64 0)) 3,4, "ref.go:21",#[⟨13,.data⟩,⟨11,.guard⟩],some (11,true)⟩ HS0.out ?_;simp only [Act.put,sA,s0,sS]
    refine lk ⟨some 20,.pick (.tmp 16) (.tmp 19) (.const (.bool false)),4, "ref.go:21",#[⟨11,.data⟩,⟨14,.data⟩],none⟩ HS0.out ?_;simp only [Act.put,sA,s0,sS]
    refine lk ⟨some 21,.move (.tmp 20),4, "ref.go:21",#[⟨15,.data⟩,⟨11,.chain⟩],none⟩ HS0.out ?_;simp only [Act.put,sA,s0,sS]
    refine lu ⟨some 22,.fieldAddr 77 (.tmp 3) 1,0, "ref.go:21",#[⟨16,.guard⟩],some (16,true)⟩ HS0.out ?_;simp only [Act.put,sA,s0,sS]
    refine lu ⟨some 23,.load 3 (.tmp 22),3, "ref.go:21",#[⟨17,.data⟩,⟨16,.guard⟩],some (16,true)⟩ HS0.out ?_;simp only [Act.put,sA,s0,sS]
    refine lu ⟨some 24,.load 25 (.tmp 2),25, "ref.go:21",#[⟨16,.guard⟩],some (16,true)⟩ HS0.out ?_;simp only [Act.put,sA,s0,sS]
    refine lu ⟨some 25,.fieldAddr 77 (.tmp 3) 0,0, "ref.go:21",#[⟨16,.guard⟩],some (16,true)⟩ HS0.out ?_;simp only [Act.put,sA,s0,sS]
    refine lu ⟨some 26,.load 3 (.tmp 25),3, "ref.go:21",#[⟨20,.data⟩,⟨16,.guard⟩],some (16,true)⟩ HS0.out ?_;simp only [Act.put,sA,s0,sS]
    refine lu ⟨some 27,.call ⟨.value (.func 71),#[.tmp 24,.tmp 26],#[25,3]⟩,56, "ref.go:21",#[⟨19,.data⟩,⟨21,.data⟩,⟨16,.chain⟩,⟨16,.guard⟩],some (16,true)⟩ HS0.out ?_;simp only [Act.put,sA,s0,sS]
    refine lu ⟨some 28,.call ⟨.builtin .len,#[.tmp 27],#[56]⟩,3, "ref.go:21",#[⟨22,.data⟩,⟨16,.guard⟩],some (16,true)⟩ HS0.out ?_;simp only [Act.put,sA,s0,sS]
    refine lu ⟨some 29,.binOp .leq 3 (.tmp 23) (.tmp 28) 3,4, "ref.go:21",#[⟨18,.data⟩,⟨23,.data⟩,⟨16,.guard⟩],some (16,true)⟩ HS0.out ?_;simp only [Act.put,sA,s0,sS]
    refine lk ⟨some 30,.pick (.tmp 21) (.tmp 29) (.const (.bool false)),4, "ref.go:21",#[⟨16,.data⟩,⟨24,.data⟩],none⟩ HS0.out ?_;simp only [Act.put,sA,s0,sS]
    refine lk ⟨some 31,.move (.tmp 30),4, "ref.go:21",#[⟨25,.data⟩,⟨22,.chain⟩],none⟩ HS0.out ?_;simp only [Act.put,sA,s0,sS]
    refine lu ⟨some 32,.fieldAddr 77 (.tmp 3) 2,0, "ref.go:21",#[⟨26,.guard⟩],some (26,true)⟩ HS0.out ?_;simp only [Act.put,sA,s0,sS]
    refine lu ⟨some 33,.load 3 (.tmp 32),3, "ref.go:21",#[⟨27,.data⟩,⟨26,.guard⟩],some (26,true)⟩ HS0.out ?_;simp only [Act.put,sA,s0,sS]
    refine lu ⟨some 34,.binOp .geq 3 (.tmp 33) (.const (.int .i64 0)) 3,4, "ref.go:21",#[⟨28,.data⟩,⟨26,.guard⟩],some (26,true)⟩ HS0.out ?_;simp only [Act.put,sA,s0,sS]
    refine lk ⟨some 35,.pick (.tmp 31) (.tmp 34) (.const (.bool false)),4, "ref.go:21",#[⟨26,.data⟩,⟨29,.data⟩],none⟩ HS0.out ?_;simp only [Act.put,sA,s0,sS]
    refine lk ⟨some 36,.move (.tmp 35),4, "ref.go:21",#[⟨30,.data⟩,⟨26,.chain⟩],none⟩ HS0.out ?_;simp only [Act.put,sA,s0,sS]
    refine lu ⟨some 37,.fieldAddr 77 (.tmp 3) 2,0, "ref.go:21",#[⟨31,.guard⟩],some (31,true)⟩ HS0.out ?_;simp only [Act.put,sA,s0,sS]
    refine lu ⟨some 38,.load 3 (.tmp 37),3, "ref.go:21",#[⟨32,.data⟩,⟨31,.guard⟩],some (31,true)⟩ HS0.out ?_;simp only [Act.put,sA,s0,sS]
    refine lu ⟨some 39,.fieldAddr 25 (.tmp 2) 0,0, "ref.go:21",#[⟨31,.guard⟩],some (31,true)⟩ HS0.out ?_;simp only [Act.put,sA,s0,sS]
    refine lu ⟨some 40,.load 22 (.tmp 39),22, "ref.go:21",#[⟨34,.data⟩,⟨31,.guard⟩],some (31,true)⟩ HS0.out ?_;simp only [Act.put,sA,s0,sS]
    refine lu ⟨some 41,.call ⟨.builtin .len,#[.tmp 40],#[22]⟩,3, "ref.go:21",#[⟨35,.data⟩,⟨31,.guard⟩],some (31,true)⟩ HS0.out ?_;simp only [Act.put,sA,s0,sS]
    refine lu ⟨some 42,.binOp .leq 3 (.tmp 38) (.tmp 41) 3,4, "ref.go:21",#[⟨33,.data⟩,⟨36,.data⟩,⟨31,.guard⟩],some (31,true)⟩ HS0.out ?_;simp only [Act.put,sA,s0,sS]
    refine lk ⟨some 43,.pick (.tmp 36) (.tmp 42) (.const (.bool false)),4, "ref.go:21",#[⟨31,.data⟩,⟨37,.data⟩],none⟩ HS0.out ?_;simp only [Act.put,sA,s0,sS]
    refine lk ⟨some 4,.assign (.tmp 43),4, "ref.go:21",#[⟨38,.data⟩,⟨31,.chain⟩,⟨0,.phase⟩,⟨1,.phase⟩,⟨2,.phase⟩,⟨3,.phase⟩,⟨4,.phase⟩,⟨5,.phase⟩,⟨6,.phase⟩,⟨7,.phase⟩,⟨8,.phase⟩,⟨9,.phase⟩,⟨10,.phase⟩,⟨11,.phase⟩,⟨12,.phase⟩,⟨13,.phase⟩,⟨14,.phase⟩,⟨15,.phase⟩,⟨16,.phase⟩,⟨17,.phase⟩,⟨18,.phase⟩,⟨19,.phase⟩,⟨20,.phase⟩,⟨21,.phase⟩,⟨22,.phase⟩,⟨23,.phase⟩,⟨24,.phase⟩,⟨25,.phase⟩,⟨26,.phase⟩,⟨27,.phase⟩,⟨28,.phase⟩,⟨29,.phase⟩,⟨30,.phase⟩,⟨31,.phase⟩,⟨32,.phase⟩,⟨33,.phase⟩,⟨34,.phase⟩,⟨35,.phase⟩,⟨36,.phase⟩,⟨37,.phase⟩,⟨38,.phase⟩],none⟩ HS0.out ?_;simp only [Act.put,sA,s0,sS]
    refine wpAnyL_done (by kernel_rfl) ?_ _
    have HBx:Hid (Below w.heap.size w w0.drew):=HBB.out _ HS0.out.2.2.2.2.2.2
    clear hR' HBB HS0
    go_wp2_with fail
    go_ret
    exact ⟨ret_bool HZ.out.symm,HBx.out⟩
  by_cases d3:x1≤(L:Int)
  rotate_left
  · have HZ:Hid (fitI f (x0,x1,x2)=false):=by show _=_; rw [HW.out]; exact decide_eq_false (by omega)
    have e0:decide ((-1:Int)≤x0)=true:=decide_eq_true d0
    have e1:decide (x0<(f.prods.length:Int))=true:=decide_eq_true d1
    have e2:decide (0≤x1)=true:=decide_eq_true d2
    have e3:decide (x1≤(L:Int))=false:=decide_eq_false d3
    clear HW
    refine wp_region_L (fun W=>W.cell? ⟨w.heap.size,0,none⟩=some (.slice ta f.terms.length tc)∧W.cell? ⟨w.heap.size,1,none⟩=some (.slice na f.nons.length nc)∧W.cell? ⟨w.heap.size,2,none⟩=some (.slice pa f.prods.length pc)∧W.cell? ⟨w.heap.size+1,0,none⟩=some (.int .i64 x0)∧W.cell? ⟨w.heap.size+1,1,none⟩=some (.int .i64 x1)∧W.cell? ⟨w.heap.size+1,2,none⟩=some (.int .i64 x2)∧Below w0.heap.size w0 W) 40 (by kernel_rfl) 40 rfl ?_
    refine lk ⟨some 5,.fieldAddr 77 (.tmp 3) 0,0, "ref.go:21",#[],none⟩ HS0.out ?_;simp only [Act.put,sA,s0,sS]
    refine lk ⟨some 6,.load 3 (.tmp 5),3, "ref.go:21",#[⟨0,.data⟩],none⟩ HS0.out ?_;simp only [Act.put,sA,s0,sS]
    refine lk ⟨some 7,.binOp .geq 3 (.tmp 6) (.const (.int .i64 (-1))) 3,4, "ref.go:21",#[⟨1,.data⟩],none⟩ HS0.out ?_;simp only [Act.put,sA,s0,sS]
    refine lk ⟨some 8,.move (.tmp 7),4, "ref.go:21",#[⟨2,.data⟩],none⟩ HS0.out ?_;simp only [Act.put,sA,s0,sS]
    refine lk ⟨some 9,.fieldAddr 77 (.tmp 3) 0,0, "ref.go:21",#[⟨3,.guard⟩],some (3,true)⟩ HS0.out ?_;simp only [Act.put,sA,s0,sS]
    refine lk ⟨some 10,.load 3 (.tmp 9),3, "ref.go:21",#[⟨4,.data⟩,⟨3,.guard⟩],some (3,true)⟩ HS0.out ?_;simp only [Act.put,sA,s0,sS]
    refine lk ⟨some 11,.fieldAddr 25 (.tmp 2) 2,0, "ref.go:21",#[⟨3,.guard⟩],some (3,true)⟩ HS0.out ?_;simp only [Act.put,sA,s0,sS]
    refine lk ⟨some 12,.load 23 (.tmp 11),23, "ref.go:21",#[⟨6,.data⟩,⟨3,.guard⟩],some (3,true)⟩ HS0.out ?_;simp only [Act.put,sA,s0,sS]
    refine lk ⟨some 13,.call ⟨.builtin .len,#[.tmp 12],#[23]⟩,3, "ref.go:21",#[⟨7,.data⟩,⟨3,.guard⟩],some (3,true)⟩ HS0.out ?_;simp only [Act.put,sA,s0,sS]
    refine lk ⟨some 14,.binOp .lss 3 (.tmp 10) (.tmp 13) 3,4, "ref.go:21",#[⟨5,.data⟩,⟨8,.data⟩,⟨3,.guard⟩],some (3,true)⟩ HS0.out ?_;simp only [Act.put,sA,s0,sS]
    refine lk ⟨some 15,.pick (.tmp 8) (.tmp 14) (.const (.bool false)),4, "ref.go:21",#[⟨3,.data⟩,⟨9,.data⟩],none⟩ HS0.out ?_;simp only [Act.put,sA,s0,sS]
    refine lk ⟨some 16,.move (.tmp 15),4, "ref.go:21",#[⟨10,.data⟩,⟨3,.chain⟩],none⟩ HS0.out ?_;simp only [Act.put,sA,s0,sS]
    refine lk ⟨some 17,.fieldAddr 77 (.tmp 3) 1,0, "ref.go:21",#[⟨11,.guard⟩],some (11,true)⟩ HS0.out ?_;simp only [Act.put,sA,s0,sS]
    refine lk ⟨some 18,.load 3 (.tmp 17),3, "ref.go:21",#[⟨12,.data⟩,⟨11,.guard⟩],some (11,true)⟩ HS0.out ?_;simp only [Act.put,sA,s0,sS]
    refine lk ⟨some 19,.binOp .geq 3 (.tmp 18) (.const (.int .i64 0)) 3,4, "ref.go:21",#[⟨13,.data⟩,⟨11,.guard⟩],some (11,true)⟩ HS0.out ?_;simp only [Act.put,sA,s0,sS]
    refine lk ⟨some 20,.pick (.tmp 16) (.tmp 19) (.const (.bool false)),4, "ref.go:21",#[⟨11,.data⟩,⟨14,.data⟩],none⟩ HS0.out ?_;simp only [Act.put,sA,s0,sS]
    refine lk ⟨some 21,.move (.tmp 20),4, "ref.go:21",#[⟨15,.data⟩,⟨11,.chain⟩],none⟩ HS0.out ?_;simp only [Act.put,sA,s0,sS]
    refine lk ⟨some 22,.fieldAddr 77 (.tmp 3) 1,0, "ref.go:21",#[⟨16,.guard⟩],some (16,true)⟩ HS0.out ?_;simp only [Act.put,sA,s0,sS]
    refine lk ⟨some 23,.load 3 (.tmp 22),3, "ref.go:21",#[⟨17,.data⟩,⟨16,.guard⟩],some (16,true)⟩ HS0.out ?_;simp only [Act.put,sA,s0,sS]
    refine lk ⟨some 24,.load 25 (.tmp 2),25, "ref.go:21",#[⟨16,.guard⟩],some (16,true)⟩ HS0.out ?_;simp only [Act.put,sA,s0,sS]
    refine lk ⟨some 25,.fieldAddr 77 (.tmp 3) 0,0, "ref.go:21",#[⟨16,.guard⟩],some (16,true)⟩ HS0.out ?_;simp only [Act.put,sA,s0,sS]
    refine lk ⟨some 26,.load 3 (.tmp 25),3, "ref.go:21",#[⟨20,.data⟩,⟨16,.guard⟩],some (16,true)⟩ HS0.out ?_;simp only [Act.put,sA,s0,sS]
    refine wpL_one (o:=⟨some 27,.call ⟨.value (.func 71),#[.tmp 24,.tmp 26],#[25,3]⟩,56, "ref.go:21",#[⟨19,.data⟩,⟨21,.data⟩,⟨16,.chain⟩,⟨16,.guard⟩],some (16,true)⟩) (by decide) (by kernel_rfl) rfl (fun K hK=>?_)
    go_simp
    refine (hR' _ d0 d1 HS0.out).mono ?_
    rintro e w' ⟨va,vc,rfl,hS⟩
    refine hK.out _ _ (fun _=>hS) ?_
    clear hK
    refine lk ⟨some 28,.call ⟨.builtin .len,#[.tmp 27],#[56]⟩,3, "ref.go:21",#[⟨22,.data⟩,⟨16,.guard⟩],some (16,true)⟩ hS ?_;simp only [Act.put,sA,s0,sS]
    refine lk ⟨some 29,.binOp .leq 3 (.tmp 23) (.tmp 28) 3,4, "ref.go:21",#[⟨18,.data⟩,⟨23,.data⟩,⟨16,.guard⟩],some (16,true)⟩ hS ?_;simp only [Act.put,sA,s0,sS]
    refine lk ⟨some 30,.pick (.tmp 21) (.tmp 29) (.const (.bool false)),4, "ref.go:21",#[⟨16,.data⟩,⟨24,.data⟩],none⟩ hS ?_;simp only [Act.put,sA,s0,sS]
    refine lk ⟨some 31,.move (.tmp 30),4, "ref.go:21",#[⟨25,.data⟩,⟨22,.chain⟩],none⟩ hS ?_;simp only [Act.put,sA,s0,sS]
    refine lu ⟨some 32,.fieldAddr 77 (.tmp 3) 2,0, "ref.go:21",#[⟨26,.guard⟩],some (26,true)⟩ hS ?_;simp only [Act.put,sA,s0,sS]
    refine lu ⟨some 33,.load 3 (.tmp 32),3, "ref.go:21",#[⟨27,.data⟩,⟨26,.guard⟩],some (26,true)⟩ hS ?_;simp only [Act.put,sA,s0,sS]
    refine lu ⟨some 34,.binOp .geq 3 (.tmp 33) (.const (.int .i64 0)) 3,4, "ref.go:21",#[⟨28,.data⟩,⟨26,.guard⟩],some (26,true)⟩ hS ?_;simp only [Act.put,sA,s0,sS]
    refine lk ⟨some 35,.pick (.tmp 31) (.tmp 34) (.const (.bool false)),4, "ref.go:21",#[⟨26,.data⟩,⟨29,.data⟩],none⟩ hS ?_;simp only [Act.put,sA,s0,sS]
    refine lk ⟨some 36,.move (.tmp 35),4, "ref.go:21",#[⟨30,.data⟩,⟨26,.chain⟩],none⟩ hS ?_;simp only [Act.put,sA,s0,sS]
    refine lu ⟨some 37,.fieldAddr 77 (.tmp 3) 2,0, "ref.go:21",#[⟨31,.guard⟩],some (31,true)⟩ hS ?_;simp only [Act.put,sA,s0,sS]
    refine lu ⟨some 38,.load 3 (.tmp 37),3, "ref.go:21",#[⟨32,.data⟩,⟨31,.guard⟩],some (31,true)⟩ hS ?_;simp only [Act.put,sA,s0,sS]
    refine lu ⟨some 39,.fieldAddr 25 (.tmp 2) 0,0, "ref.go:21",#[⟨31,.guard⟩],some (31,true)⟩ hS ?_;simp only [Act.put,sA,s0,sS]
    refine lu ⟨some 40,.load 22 (.tmp 39),22, "ref.go:21",#[⟨34,.data⟩,⟨31,.guard⟩],some (31,true)⟩ hS ?_;simp only [Act.put,sA,s0,sS]
    refine lu ⟨some 41,.call ⟨.builtin .len,#[.tmp 40],#[22]⟩,3, "ref.go:21",#[⟨35,.data⟩,⟨31,.guard⟩],some (31,true)⟩ hS ?_;simp only [Act.put,sA,s0,sS]
    refine lu ⟨some 42,.binOp .leq 3 (.tmp 38) (.tmp 41) 3,4, "ref.go:21",#[⟨33,.data⟩,⟨36,.data⟩,⟨31,.guard⟩],some (31,true)⟩ hS ?_;simp only [Act.put,sA,s0,sS]
    refine lk ⟨some 43,.pick (.tmp 36) (.tmp 42) (.const (.bool false)),4, "ref.go:21",#[⟨31,.data⟩,⟨37,.data⟩],none⟩ hS ?_;simp only [Act.put,sA,s0,sS]
    refine lk ⟨some 4,.assign (.tmp 43),4, "ref.go:21",#[⟨38,.data⟩,⟨31,.chain⟩,⟨0,.phase⟩,⟨1,.phase⟩,⟨2,.phase⟩,⟨3,.phase⟩,⟨4,.phase⟩,⟨5,.phase⟩,⟨6,.phase⟩,⟨7,.phase⟩,⟨8,.phase⟩,⟨9,.phase⟩,⟨10,.phase⟩,⟨11,.phase⟩,⟨12,.phase⟩,⟨13,.phase⟩,⟨14,.phase⟩,⟨15,.phase⟩,⟨16,.phase⟩,⟨17,.phase⟩,⟨18,.phase⟩,⟨19,.phase⟩,⟨20,.phase⟩,⟨21,.phase⟩,⟨22,.phase⟩,⟨23,.phase⟩,⟨24,.phase⟩,⟨25,.phase⟩,⟨26,.phase⟩,⟨27,.phase⟩,⟨28,.phase⟩,⟨29,.phase⟩,⟨30,.phase⟩,⟨31,.phase⟩,⟨32,.phase⟩,⟨33,.phase⟩,⟨34,.phase⟩,⟨35,.phase⟩,⟨36,.phase⟩,⟨37,.phase⟩,⟨38,.phase⟩],none⟩ hS ?_;simp only [Act.put,sA,s0,sS]
    refine wpAnyL_done (by kernel_rfl) ?_ _
    have HBx:Hid (Below w.heap.size w w'):=HBB.out _ hS.2.2.2.2.2.2
    clear hS hR' HBB
    go_wp2_with fail
    go_ret
    exact ⟨ret_bool HZ.out.symm,HBx.out⟩
  by_cases d4:0≤x2
  rotate_left
  · have HZ:Hid (fitI f (x0,x1,x2)=false):=by show _=_; rw [HW.out]; exact decide_eq_false (by omega)
    have e0:decide ((-1:Int)≤x0)=true:=decide_eq_true d0
    have e1:decide (x0<(f.prods.length:Int))=true:=decide_eq_true d1
    have e2:decide (0≤x1)=true:=decide_eq_true d2
    have e3:decide (x1≤(L:Int))=true:=decide_eq_true d3
    have e4:decide (0≤x2)=false:=decide_eq_false d4
    clear HW
    refine wp_region_L (fun W=>W.cell? ⟨w.heap.size,0,none⟩=some (.slice ta f.terms.length tc)∧W.cell? ⟨w.heap.size,1,none⟩=some (.slice na f.nons.length nc)∧W.cell? ⟨w.heap.size,2,none⟩=some (.slice pa f.prods.length pc)∧W.cell? ⟨w.heap.size+1,0,none⟩=some (.int .i64 x0)∧W.cell? ⟨w.heap.size+1,1,none⟩=some (.int .i64 x1)∧W.cell? ⟨w.heap.size+1,2,none⟩=some (.int .i64 x2)∧Below w0.heap.size w0 W) 40 (by kernel_rfl) 40 rfl ?_
    refine lk ⟨some 5,.fieldAddr 77 (.tmp 3) 0,0, "ref.go:21",#[],none⟩ HS0.out ?_;simp only [Act.put,sA,s0,sS]
    refine lk ⟨some 6,.load 3 (.tmp 5),3, "ref.go:21",#[⟨0,.data⟩],none⟩ HS0.out ?_;simp only [Act.put,sA,s0,sS]
    refine lk ⟨some 7,.binOp .geq 3 (.tmp 6) (.const (.int .i64 (-1))) 3,4, "ref.go:21",#[⟨1,.data⟩],none⟩ HS0.out ?_;simp only [Act.put,sA,s0,sS]
    refine lk ⟨some 8,.move (.tmp 7),4, "ref.go:21",#[⟨2,.data⟩],none⟩ HS0.out ?_;simp only [Act.put,sA,s0,sS]
    refine lk ⟨some 9,.fieldAddr 77 (.tmp 3) 0,0, "ref.go:21",#[⟨3,.guard⟩],some (3,true)⟩ HS0.out ?_;simp only [Act.put,sA,s0,sS]
    refine lk ⟨some 10,.load 3 (.tmp 9),3, "ref.go:21",#[⟨4,.data⟩,⟨3,.guard⟩],some (3,true)⟩ HS0.out ?_;simp only [Act.put,sA,s0,sS]
    refine lk ⟨some 11,.fieldAddr 25 (.tmp 2) 2,0, "ref.go:21",#[⟨3,.guard⟩],some (3,true)⟩ HS0.out ?_;simp only [Act.put,sA,s0,sS]
    refine lk ⟨some 12,.load 23 (.tmp 11),23, "ref.go:21",#[⟨6,.data⟩,⟨3,.guard⟩],some (3,true)⟩ HS0.out ?_;simp only [Act.put,sA,s0,sS]
    refine lk ⟨some 13,.call ⟨.builtin .len,#[.tmp 12],#[23]⟩,3, "ref.go:21",#[⟨7,.data⟩,⟨3,.guard⟩],some (3,true)⟩ HS0.out ?_;simp only [Act.put,sA,s0,sS]
    refine lk ⟨some 14,.binOp .lss 3 (.tmp 10) (.tmp 13) 3,4, "ref.go:21",#[⟨5,.data⟩,⟨8,.data⟩,⟨3,.guard⟩],some (3,true)⟩ HS0.out ?_;simp only [Act.put,sA,s0,sS]
    refine lk ⟨some 15,.pick (.tmp 8) (.tmp 14) (.const (.bool false)),4, "ref.go:21",#[⟨3,.data⟩,⟨9,.data⟩],none⟩ HS0.out ?_;simp only [Act.put,sA,s0,sS]
    refine lk ⟨some 16,.move (.tmp 15),4, "ref.go:21",#[⟨10,.data⟩,⟨3,.chain⟩],none⟩ HS0.out ?_;simp only [Act.put,sA,s0,sS]
    refine lk ⟨some 17,.fieldAddr 77 (.tmp 3) 1,0, "ref.go:21",#[⟨11,.guard⟩],some (11,true)⟩ HS0.out ?_;simp only [Act.put,sA,s0,sS]
    refine lk ⟨some 18,.load 3 (.tmp 17),3, "ref.go:21",#[⟨12,.data⟩,⟨11,.guard⟩],some (11,true)⟩ HS0.out ?_;simp only [Act.put,sA,s0,sS]
    refine lk ⟨some 19,.binOp .geq 3 (.tmp 18) (.const (.int .i64 0)) 3,4, "ref.go:21",#[⟨13,.data⟩,⟨11,.guard⟩],some (11,true)⟩ HS0.out ?_;simp only [Act.put,sA,s0,sS]
    refine lk ⟨some 20,.pick (.tmp 16) (.tmp 19) (.const (.bool false)),4, "ref.go:21",#[⟨11,.data⟩,⟨14,.data⟩],none⟩ HS0.out ?_;simp only [Act.put,sA,s0,sS]
    refine lk ⟨some 21,.move (.tmp 20),4, "ref.go:21",#[⟨15,.data⟩,⟨11,.chain⟩],none⟩ HS0.out ?_;simp only [Act.put,sA,s0,sS]
    refine lk ⟨some 22,.fieldAddr 77 (.tmp 3) 1,0, "ref.go:21",#[⟨16,.guard⟩],some (16,true)⟩ HS0.out ?_;simp only [Act.put,sA,s0,sS]
    refine lk ⟨some 23,.load 3 (.tmp 22),3, "ref.go:21",#[⟨17,.data⟩,⟨16,.guard⟩],some (16,true)⟩ HS0.out ?_;simp only [Act.put,sA,s0,sS]
    refine lk ⟨some 24,.load 25 (.tmp 2),25, "ref.go:21",#[⟨16,.guard⟩],some (16,true)⟩ HS0.out ?_;simp only [Act.put,sA,s0,sS]
    refine lk ⟨some 25,.fieldAddr 77 (.tmp 3) 0,0, "ref.go:21",#[⟨16,.guard⟩],some (16,true)⟩ HS0.out ?_;simp only [Act.put,sA,s0,sS]
    refine lk ⟨some 26,.load 3 (.tmp 25),3, "ref.go:21",#[⟨20,.data⟩,⟨16,.guard⟩],some (16,true)⟩ HS0.out ?_;simp only [Act.put,sA,s0,sS]
    refine wpL_one (o:=⟨some 27,.call ⟨.value (.func 71),#[.tmp 24,.tmp 26],#[25,3]⟩,56, "ref.go:21",#[⟨19,.data⟩,⟨21,.data⟩,⟨16,.chain⟩,⟨16,.guard⟩],some (16,true)⟩) (by decide) (by kernel_rfl) rfl (fun K hK=>?_)
    go_simp
    refine (hR' _ d0 d1 HS0.out).mono ?_
    rintro e w' ⟨va,vc,rfl,hS⟩
    refine hK.out _ _ (fun _=>hS) ?_
    clear hK
    refine lk ⟨some 28,.call ⟨.builtin .len,#[.tmp 27],#[56]⟩,3, "ref.go:21",#[⟨22,.data⟩,⟨16,.guard⟩],some (16,true)⟩ hS ?_;simp only [Act.put,sA,s0,sS]
    refine lk ⟨some 29,.binOp .leq 3 (.tmp 23) (.tmp 28) 3,4, "ref.go:21",#[⟨18,.data⟩,⟨23,.data⟩,⟨16,.guard⟩],some (16,true)⟩ hS ?_;simp only [Act.put,sA,s0,sS]
    refine lk ⟨some 30,.pick (.tmp 21) (.tmp 29) (.const (.bool false)),4, "ref.go:21",#[⟨16,.data⟩,⟨24,.data⟩],none⟩ hS ?_;simp only [Act.put,sA,s0,sS]
    refine lk ⟨some 31,.move (.tmp 30),4, "ref.go:21",#[⟨25,.data⟩,⟨22,.chain⟩],none⟩ hS ?_;simp only [Act.put,sA,s0,sS]
    refine lk ⟨some 32,.fieldAddr 77 (.tmp 3) 2,0, "ref.go:21",#[⟨26,.guard⟩],some (26,true)⟩ hS ?_;simp only [Act.put,sA,s0,sS]
    refine lk ⟨some 33,.load 3 (.tmp 32),3, "ref.go:21",#[⟨27,.data⟩,⟨26,.guard⟩],some (26,true)⟩ hS ?_;simp only [Act.put,sA,s0,sS]
    refine lk ⟨some 34,.binOp .geq 3 (.tmp 33) (.const (.int .i64 0)) 3,4, "ref.go:21",#[⟨28,.data⟩,⟨26,.guard⟩],some (26,true)⟩ hS ?_;simp only [Act.put,sA,s0,sS]
    refine lk ⟨some 35,.pick (.tmp 31) (.tmp 34) (.const (.bool false)),4, "ref.go:21",#[⟨26,.data⟩,⟨29,.data⟩],none⟩ hS ?_;simp only [Act.put,sA,s0,sS]
    refine lk ⟨some 36,.move (.tmp 35),4, "ref.go:21",#[⟨30,.data⟩,⟨26,.chain⟩],none⟩ hS ?_;simp only [Act.put,sA,s0,sS]
    refine lu ⟨some 37,.fieldAddr 77 (.tmp 3) 2,0, "ref.go:21",#[⟨31,.guard⟩],some (31,true)⟩ hS ?_;simp only [Act.put,sA,s0,sS]
    refine lu ⟨some 38,.load 3 (.tmp 37),3, "ref.go:21",#[⟨32,.data⟩,⟨31,.guard⟩],some (31,true)⟩ hS ?_;simp only [Act.put,sA,s0,sS]
    refine lu ⟨some 39,.fieldAddr 25 (.tmp 2) 0,0, "ref.go:21",#[⟨31,.guard⟩],some (31,true)⟩ hS ?_;simp only [Act.put,sA,s0,sS]
    refine lu ⟨some 40,.load 22 (.tmp 39),22, "ref.go:21",#[⟨34,.data⟩,⟨31,.guard⟩],some (31,true)⟩ hS ?_;simp only [Act.put,sA,s0,sS]
    refine lu ⟨some 41,.call ⟨.builtin .len,#[.tmp 40],#[22]⟩,3, "ref.go:21",#[⟨35,.data⟩,⟨31,.guard⟩],some (31,true)⟩ hS ?_;simp only [Act.put,sA,s0,sS]
    refine lu ⟨some 42,.binOp .leq 3 (.tmp 38) (.tmp 41) 3,4, "ref.go:21",#[⟨33,.data⟩,⟨36,.data⟩,⟨31,.guard⟩],some (31,true)⟩ hS ?_;simp only [Act.put,sA,s0,sS]
    refine lk ⟨some 43,.pick (.tmp 36) (.tmp 42) (.const (.bool false)),4, "ref.go:21",#[⟨31,.data⟩,⟨37,.data⟩],none⟩ hS ?_;simp only [Act.put,sA,s0,sS]
    refine lk ⟨some 4,.assign (.tmp 43),4, "ref.go:21",#[⟨38,.data⟩,⟨31,.chain⟩,⟨0,.phase⟩,⟨1,.phase⟩,⟨2,.phase⟩,⟨3,.phase⟩,⟨4,.phase⟩,⟨5,.phase⟩,⟨6,.phase⟩,⟨7,.phase⟩,⟨8,.phase⟩,⟨9,.phase⟩,⟨10,.phase⟩,⟨11,.phase⟩,⟨12,.phase⟩,⟨13,.phase⟩,⟨14,.phase⟩,⟨15,.phase⟩,⟨16,.phase⟩,⟨17,.phase⟩,⟨18,.phase⟩,⟨19,.phase⟩,⟨20,.phase⟩,⟨21,.phase⟩,⟨22,.phase⟩,⟨23,.phase⟩,⟨24,.phase⟩,⟨25,.phase⟩,⟨26,.phase⟩,⟨27,.phase⟩,⟨28,.phase⟩,⟨29,.phase⟩,⟨30,.phase⟩,⟨31,.phase⟩,⟨32,.phase⟩,⟨33,.phase⟩,⟨34,.phase⟩,⟨35,.phase⟩,⟨36,.phase⟩,⟨37,.phase⟩,⟨38,.phase⟩],none⟩ hS ?_;simp only [Act.put,sA,s0,sS]
    refine wpAnyL_done (by kernel_rfl) ?_ _
    have HBx:Hid (Below w.heap.size w w'):=HBB.out _ hS.2.2.2.2.2.2
    clear hS hR' HBB
    go_wp2_with fail
    go_ret
    exact ⟨ret_bool HZ.out.symm,HBx.out⟩
  have e0:decide ((-1:Int)≤x0)=true:=decide_eq_true d0
  have e1:decide (x0<(f.prods.length:Int))=true:=decide_eq_true d1
  have e2:decide (0≤x1)=true:=decide_eq_true d2
  have e3:decide (x1≤(L:Int))=true:=decide_eq_true d3
  have e4:decide (0≤x2)=true:=decide_eq_true d4
  have HZ:Hid (fitI f (x0,x1,x2)=decide (x2≤f.terms.length)):=by
    show _=_; rw [HW.out,Bool.eq_iff_iff,decide_eq_true_eq,decide_eq_true_eq]; omega
  clear HW
  refine wp_region_L (fun W=>W.cell? ⟨w.heap.size,0,none⟩=some (.slice ta f.terms.length tc)∧W.cell? ⟨w.heap.size,1,none⟩=some (.slice na f.nons.length nc)∧W.cell? ⟨w.heap.size,2,none⟩=some (.slice pa f.prods.length pc)∧W.cell? ⟨w.heap.size+1,0,none⟩=some (.int .i64 x0)∧W.cell? ⟨w.heap.size+1,1,none⟩=some (.int .i64 x1)∧W.cell? ⟨w.heap.size+1,2,none⟩=some (.int .i64 x2)∧Below w0.heap.size w0 W) 40 (by kernel_rfl) 40 rfl ?_
  refine lk ⟨some 5,.fieldAddr 77 (.tmp 3) 0,0, "ref.go:21",#[],none⟩ HS0.out ?_;simp only [Act.put,sA,s0,sS]
  refine lk ⟨some 6,.load 3 (.tmp 5),3, "ref.go:21",#[⟨0,.data⟩],none⟩ HS0.out ?_;simp only [Act.put,sA,s0,sS]
  refine lk ⟨some 7,.binOp .geq 3 (.tmp 6) (.const (.int .i64 (-1))) 3,4, "ref.go:21",#[⟨1,.data⟩],none⟩ HS0.out ?_;simp only [Act.put,sA,s0,sS]
  refine lk ⟨some 8,.move (.tmp 7),4, "ref.go:21",#[⟨2,.data⟩],none⟩ HS0.out ?_;simp only [Act.put,sA,s0,sS]
  refine lk ⟨some 9,.fieldAddr 77 (.tmp 3) 0,0, "ref.go:21",#[⟨3,.guard⟩],some (3,true)⟩ HS0.out ?_;simp only [Act.put,sA,s0,sS]
  refine lk ⟨some 10,.load 3 (.tmp 9),3, "ref.go:21",#[⟨4,.data⟩,⟨3,.guard⟩],some (3,true)⟩ HS0.out ?_;simp only [Act.put,sA,s0,sS]
  refine lk ⟨some 11,.fieldAddr 25 (.tmp 2) 2,0, "ref.go:21",#[⟨3,.guard⟩],some (3,true)⟩ HS0.out ?_;simp only [Act.put,sA,s0,sS]
  refine lk ⟨some 12,.load 23 (.tmp 11),23, "ref.go:21",#[⟨6,.data⟩,⟨3,.guard⟩],some (3,true)⟩ HS0.out ?_;simp only [Act.put,sA,s0,sS]
  refine lk ⟨some 13,.call ⟨.builtin .len,#[.tmp 12],#[23]⟩,3, "ref.go:21",#[⟨7,.data⟩,⟨3,.guard⟩],some (3,true)⟩ HS0.out ?_;simp only [Act.put,sA,s0,sS]
  refine lk ⟨some 14,.binOp .lss 3 (.tmp 10) (.tmp 13) 3,4, "ref.go:21",#[⟨5,.data⟩,⟨8,.data⟩,⟨3,.guard⟩],some (3,true)⟩ HS0.out ?_;simp only [Act.put,sA,s0,sS]
  refine lk ⟨some 15,.pick (.tmp 8) (.tmp 14) (.const (.bool false)),4, "ref.go:21",#[⟨3,.data⟩,⟨9,.data⟩],none⟩ HS0.out ?_;simp only [Act.put,sA,s0,sS]
  refine lk ⟨some 16,.move (.tmp 15),4, "ref.go:21",#[⟨10,.data⟩,⟨3,.chain⟩],none⟩ HS0.out ?_;simp only [Act.put,sA,s0,sS]
  refine lk ⟨some 17,.fieldAddr 77 (.tmp 3) 1,0, "ref.go:21",#[⟨11,.guard⟩],some (11,true)⟩ HS0.out ?_;simp only [Act.put,sA,s0,sS]
  refine lk ⟨some 18,.load 3 (.tmp 17),3, "ref.go:21",#[⟨12,.data⟩,⟨11,.guard⟩],some (11,true)⟩ HS0.out ?_;simp only [Act.put,sA,s0,sS]
  refine lk ⟨some 19,.binOp .geq 3 (.tmp 18) (.const (.int .i64 0)) 3,4, "ref.go:21",#[⟨13,.data⟩,⟨11,.guard⟩],some (11,true)⟩ HS0.out ?_;simp only [Act.put,sA,s0,sS]
  refine lk ⟨some 20,.pick (.tmp 16) (.tmp 19) (.const (.bool false)),4, "ref.go:21",#[⟨11,.data⟩,⟨14,.data⟩],none⟩ HS0.out ?_;simp only [Act.put,sA,s0,sS]
  refine lk ⟨some 21,.move (.tmp 20),4, "ref.go:21",#[⟨15,.data⟩,⟨11,.chain⟩],none⟩ HS0.out ?_;simp only [Act.put,sA,s0,sS]
  refine lk ⟨some 22,.fieldAddr 77 (.tmp 3) 1,0, "ref.go:21",#[⟨16,.guard⟩],some (16,true)⟩ HS0.out ?_;simp only [Act.put,sA,s0,sS]
  refine lk ⟨some 23,.load 3 (.tmp 22),3, "ref.go:21",#[⟨17,.data⟩,⟨16,.guard⟩],some (16,true)⟩ HS0.out ?_;simp only [Act.put,sA,s0,sS]
  refine lk ⟨some 24,.load 25 (.tmp 2),25, "ref.go:21",#[⟨16,.guard⟩],some (16,true)⟩ HS0.out ?_;simp only [Act.put,sA,s0,sS]
  refine lk ⟨some 25,.fieldAddr 77 (.tmp 3) 0,0, "ref.go:21",#[⟨16,.guard⟩],some (16,true)⟩ HS0.out ?_;simp only [Act.put,sA,s0,sS]
  refine lk ⟨some 26,.load 3 (.tmp 25),3, "ref.go:21",#[⟨20,.data⟩,⟨16,.guard⟩],some (16,true)⟩ HS0.out ?_;simp only [Act.put,sA,s0,sS]
  refine wpL_one (o:=⟨some 27,.call ⟨.value (.func 71),#[.tmp 24,.tmp 26],#[25,3]⟩,56, "ref.go:21",#[⟨19,.data⟩,⟨21,.data⟩,⟨16,.chain⟩,⟨16,.guard⟩],some (16,true)⟩) (by decide) (by kernel_rfl) rfl (fun K hK=>?_)
  go_simp
  refine (hR' _ d0 d1 HS0.out).mono ?_
  rintro e w' ⟨va,vc,rfl,hS⟩
  refine hK.out _ _ (fun _=>hS) ?_
  clear hK
  refine lk ⟨some 28,.call ⟨.builtin .len,#[.tmp 27],#[56]⟩,3, "ref.go:21",#[⟨22,.data⟩,⟨16,.guard⟩],some (16,true)⟩ hS ?_;simp only [Act.put,sA,s0,sS]
  refine lk ⟨some 29,.binOp .leq 3 (.tmp 23) (.tmp 28) 3,4, "ref.go:21",#[⟨18,.data⟩,⟨23,.data⟩,⟨16,.guard⟩],some (16,true)⟩ hS ?_;simp only [Act.put,sA,s0,sS]
  refine lk ⟨some 30,.pick (.tmp 21) (.tmp 29) (.const (.bool false)),4, "ref.go:21",#[⟨16,.data⟩,⟨24,.data⟩],none⟩ hS ?_;simp only [Act.put,sA,s0,sS]
  refine lk ⟨some 31,.move (.tmp 30),4, "ref.go:21",#[⟨25,.data⟩,⟨22,.chain⟩],none⟩ hS ?_;simp only [Act.put,sA,s0,sS]
  refine lk ⟨some 32,.fieldAddr 77 (.tmp 3) 2,0, "ref.go:21",#[⟨26,.guard⟩],some (26,true)⟩ hS ?_;simp only [Act.put,sA,s0,sS]
  refine lk ⟨some 33,.load 3 (.tmp 32),3, "ref.go:21",#[⟨27,.data⟩,⟨26,.guard⟩],some (26,true)⟩ hS ?_;simp only [Act.put,sA,s0,sS]
  refine lk ⟨some 34,.binOp .geq 3 (.tmp 33) (.const (.int .i64 0)) 3,4, "ref.go:21",#[⟨28,.data⟩,⟨26,.guard⟩],some (26,true)⟩ hS ?_;simp only [Act.put,sA,s0,sS]
  refine lk ⟨some 35,.pick (.tmp 31) (.tmp 34) (.const (.bool false)),4, "ref.go:21",#[⟨26,.data⟩,⟨29,.data⟩],none⟩ hS ?_;simp only [Act.put,sA,s0,sS]
  refine lk ⟨some 36,.move (.tmp 35),4, "ref.go:21",#[⟨30,.data⟩,⟨26,.chain⟩],none⟩ hS ?_;simp only [Act.put,sA,s0,sS]
  refine lk ⟨some 37,.fieldAddr 77 (.tmp 3) 2,0, "ref.go:21",#[⟨31,.guard⟩],some (31,true)⟩ hS ?_;simp only [Act.put,sA,s0,sS]
  refine lk ⟨some 38,.load 3 (.tmp 37),3, "ref.go:21",#[⟨32,.data⟩,⟨31,.guard⟩],some (31,true)⟩ hS ?_;simp only [Act.put,sA,s0,sS]
  refine lk ⟨some 39,.fieldAddr 25 (.tmp 2) 0,0, "ref.go:21",#[⟨31,.guard⟩],some (31,true)⟩ hS ?_;simp only [Act.put,sA,s0,sS]
  refine lk ⟨some 40,.load 22 (.tmp 39),22, "ref.go:21",#[⟨34,.data⟩,⟨31,.guard⟩],some (31,true)⟩ hS ?_;simp only [Act.put,sA,s0,sS]
  refine lk ⟨some 41,.call ⟨.builtin .len,#[.tmp 40],#[22]⟩,3, "ref.go:21",#[⟨35,.data⟩,⟨31,.guard⟩],some (31,true)⟩ hS ?_;simp only [Act.put,sA,s0,sS]
  refine lk ⟨some 42,.binOp .leq 3 (.tmp 38) (.tmp 41) 3,4, "ref.go:21",#[⟨33,.data⟩,⟨36,.data⟩,⟨31,.guard⟩],some (31,true)⟩ hS ?_;simp only [Act.put,sA,s0,sS]
  refine lk ⟨some 43,.pick (.tmp 36) (.tmp 42) (.const (.bool false)),4, "ref.go:21",#[⟨31,.data⟩,⟨37,.data⟩],none⟩ hS ?_;simp only [Act.put,sA,s0,sS]
  refine lk ⟨some 4,.assign (.tmp 43),4, "ref.go:21",#[⟨38,.data⟩,⟨31,.chain⟩,⟨0,.phase⟩,⟨1,.phase⟩,⟨2,.phase⟩,⟨3,.phase⟩,⟨4,.phase⟩,⟨5,.phase⟩,⟨6,.phase⟩,⟨7,.phase⟩,⟨8,.phase⟩,⟨9,.phase⟩,⟨10,.phase⟩,⟨11,.phase⟩,⟨12,.phase⟩,⟨13,.phase⟩,⟨14,.phase⟩,⟨15,.phase⟩,⟨16,.phase⟩,⟨17,.phase⟩,⟨18,.phase⟩,⟨19,.phase⟩,⟨20,.phase⟩,⟨21,.phase⟩,⟨22,.phase⟩,⟨23,.phase⟩,⟨24,.phase⟩,⟨25,.phase⟩,⟨26,.phase⟩,⟨27,.phase⟩,⟨28,.phase⟩,⟨29,.phase⟩,⟨30,.phase⟩,⟨31,.phase⟩,⟨32,.phase⟩,⟨33,.phase⟩,⟨34,.phase⟩,⟨35,.phase⟩,⟨36,.phase⟩,⟨37,.phase⟩,⟨38,.phase⟩],none⟩ hS ?_;simp only [Act.put,sA,s0,sS]
  refine wpAnyL_done (by kernel_rfl) ?_ _
  have HBx:Hid (Below w.heap.size w w'):=HBB.out _ hS.2.2.2.2.2.2
  clear hS hR' HBB
  go_wp2_with fail
  go_ret
  exact ⟨ret_bool HZ.out.symm,HBx.out⟩
section
variable {P:Program} {ops:Array Oper} {Q:Exit→Act→World→Prop} {md:Region.Mode} {S:World→Prop} {n:Nat}
theorem wpAnyL_two {i j:Nat} {oi oj:Oper} {fuel:Nat} {listed l1 l2:Array Bool} {a:Act} {w:World} (hr:Region.ready md ops listed=[i,j]) (hi:ops[i]?=some oi) (hj:ops[j]?=some oj)
    (hl1:listed.setIfInBounds i true=l1) (hl2:listed.setIfInBounds j true=l2)
    (h1:∀ K':Act→World→Prop,Shut (∀ a w,(i<n→S w)→wpAnyL P md ops Q S n fuel l1 a w→K' a w)→if Region.wanted oi (yielded ops a.tmps)=true then Oper.wp P oi a w K' Q else K' (a.put oi.dst undef) w)
    (h2:∀ K':Act→World→Prop,Shut (∀ a w,(j<n→S w)→wpAnyL P md ops Q S n fuel l2 a w→K' a w)→if Region.wanted oj (yielded ops a.tmps)=true then Oper.wp P oj a w K' Q else K' (a.put oj.dst undef) w) :
    wpAnyL P md ops Q S n (fuel+1) listed a w:=by
  subst hl1 hl2
  refine ⟨fun h0=>(by rw [hr] at h0; cases h0),fun k hk=>?_⟩
  rw [hr] at hk
  simp at hk
  rcases hk with rfl | rfl
  · exact wpOp_step hi (fun K' hK=>h1 K' (fun a w hS hW=>hK a w ⟨hS,hW⟩))
  · exact wpOp_step hj (fun K' hK=>h2 K' (fun a w hS hW=>hK a w ⟨hS,hW⟩))
theorem wpAnyL_one' {i:Nat} {o:Oper} {fuel:Nat} {listed l1:Array Bool} {a:Act} {w:World} (hr:Region.ready md ops listed=[i]) (ho:ops[i]?=some o) (hl1:listed.setIfInBounds i true=l1)
    (h:∀ K':Act→World→Prop,Shut (∀ a w,(i<n→S w)→wpAnyL P md ops Q S n fuel l1 a w→K' a w)→if Region.wanted o (yielded ops a.tmps)=true then Oper.wp P o a w K' Q else K' (a.put o.dst undef) w) :
    wpAnyL P md ops Q S n (fuel+1) listed a w:=by
  subst hl1
  exact wpAnyL_one hr ho h
theorem wpAnyL_take' {i:Nat} {oi:Oper} {v:Value} {fuel:Nat} {listed l1:Array Bool} {a:Act} {w:World} (hi:ops[i]?=some oi)
    (hs:Region.noSelect ops=true) (hf:Region.free md ops listed i=true) (hr:(Region.ready md ops listed).contains i=true) (hl:lateB md ops n i=true) (hl1:listed.setIfInBounds i true=l1)
    (hQ:∀ c a w,Q (.panic c) (a.put oi.dst v) w→Q (.panic c) a w) (hy:YieldsIf P ops S oi v a) (hS:S w)
    (h:wpAnyL P md ops Q S n fuel l1 (a.put oi.dst v) w):wpAnyL P md ops Q S n (fuel+1) listed a w:=by
  subst hl1
  exact wpAnyL_take hi hs hf hr hl hQ hy hS h
end
theorem tk {P:Program} {md:Region.Mode} {ops:Array Oper} {Q:Exit→Act→World→Prop} {S:World→Prop} {n:Nat} (i:Nat) (oi:Oper) {v:Value} {fuel:Nat} {listed l1:Array Bool} {a:Act} {w:World} (hS:S w) (h:wpAnyL P md ops Q S n fuel l1 (a.put oi.dst v) w)
 (hy:∀ w,S w→(execOp a.eval oi).run P w=.ok (.value v) w:=by intro W hSW; go_simp; try with_reducible rfl)
 (hi:ops[i]?=some oi:=by rfl) (hs:Region.noSelect ops=true:=by kernel_rfl) (hf:Region.free md ops listed i=true:=by kernel_rfl) (hr:(Region.ready md ops listed).contains i=true:=by kernel_rfl) (hl:lateB md ops n i=true:=by kernel_rfl) (hl1:listed.setIfInBounds i true=l1:=by rfl)
 (hQ:∀ c a w,Q (.panic c) (a.put oi.dst v) w→Q (.panic c) a w:=by first | exact fun _ _ _ h=>h | exact fun _ _ _ h=>(And.left (show (∀ c,_≠Exit.panic c)∧_ from h) _ rfl).elim) (hw:Region.wanted oi (yielded ops a.tmps)=true:=by rfl):wpAnyL P md ops Q S n (fuel+1) listed a w :=
 wpAnyL_take' hi hs hf hr hl hl1 hQ (Or.inl ⟨hw,hy⟩) hS h
theorem tu {P:Program} {md:Region.Mode} {ops:Array Oper} {Q:Exit→Act→World→Prop} {S:World→Prop} {n:Nat} (i:Nat) (oi:Oper) {fuel:Nat} {listed l1:Array Bool} {a:Act} {w:World} (hS:S w) (h:wpAnyL P md ops Q S n fuel l1 (a.put oi.dst undef) w)
 (hi:ops[i]?=some oi:=by rfl) (hs:Region.noSelect ops=true:=by kernel_rfl) (hf:Region.free md ops listed i=true:=by kernel_rfl) (hr:(Region.ready md ops listed).contains i=true:=by kernel_rfl) (hl:lateB md ops n i=true:=by kernel_rfl) (hl1:listed.setIfInBounds i true=l1:=by rfl)
 (hQ:∀ c a w,Q (.panic c) (a.put oi.dst undef) w→Q (.panic c) a w:=by first | exact fun _ _ _ h=>h | exact fun _ _ _ h=>(And.left (show (∀ c,_≠Exit.panic c)∧_ from h) _ rfl).elim) (hw:Region.wanted oi (yielded ops a.tmps)=false:=by rfl):wpAnyL P md ops Q S n (fuel+1) listed a w :=
 wpAnyL_take' hi hs hf hr hl hl1 hQ (Or.inr ⟨hw,rfl⟩) hS h
theorem wp_append_any {P:Program} {w:World} {o:Oper} {a:Act} {K:Act→World→Prop} {Q:Exit→Act→World→Prop} (s x:Operand) (t:TypeId)
    (ho:o.op=.call { callee:=.builtin .append,args:=#[s,x],argTypes:=#[t,t] })
    (base:Nat) (e:TypeId) (i:TypeInfo) (z:Value) (size bytes:Nat) (ht:P.underlying t=some (.slice e)) (hi:P.info? e=some i) (hz:i.zero=some z)
    (hsize:i.size=size) (hby:i.bytes=bytes) (hzs:z.cells.size=size) (hsz:0<size)
    (v:Value) (n:Nat) (xs:List Value) (hs:a.eval s=v) (hown:w.ownsRow base e size v n xs)
    (ao:Option Addr) (m c:Nat) (news:List Value) (hx:a.eval x=.slice ao m c) (hn:ao=none→m=0∧c=0) (hl:news.length=m * size) (hnews:∀ ad,ao=some ad→∀ j u,news[j]?=some u→w.cell? (ad.add j)=some u) (h1:∀ u∈news,u.oneCell'=true)
    (h63:n+m≤maxLen) (hbytes:(n+m) * bytes≤140737488355328) (hbase:base≤w.heap.size)
    (h:∀ v' w',w'.ownsRow base e size v' (n+m) (xs++news)→w.grownBy w' v.ownBlock→K (a.put o.dst v') w'):o.wp P a w K Q:=by
  cases ao with
  | some ad=>exact wp_append_own w s x t ho base e i z size bytes ht hi hz hsize hby hzs hsz v n xs hs hown ad m c news hx hl (hnews ad rfl) h1 h63 hbytes hbase (fun v' w' h2 h3 _=>h v' w' h2 h3)
  | none =>
    obtain ⟨rfl,rfl⟩:=hn rfl
    obtain rfl:news=[]:=List.eq_nil_of_length_eq_zero (by simpa using hl)
    have hrun:=run_append_owned_none (P:=P) (w:=w) base t o.type e i size ht hi v n xs hown
    unfold Oper.wp
    simp [execOp,ho,resolve,invoke,builtin,hs,hx,hrun,Result.andThen]
    exact h v w (by simpa using hown) ⟨rfl,rfl,rfl,Nat.le_refl _,fun _ _ _=>rfl⟩
theorem wpList_append_any {P:Program} {w:World} {ops:Array Oper} {rest:List Oper} {o:Oper} {a:Act} {Q:Exit→Act→World→Prop} (hgd:o.guard=none) (s x:Operand) (t:TypeId)
    (ho:o.op=.call { callee:=.builtin .append,args:=#[s,x],argTypes:=#[t,t] })
    (base:Nat) (e:TypeId) (i:TypeInfo) (z:Value) (size bytes:Nat) (ht:P.underlying t=some (.slice e)) (hi:P.info? e=some i) (hz:i.zero=some z)
    (hsize:i.size=size) (hby:i.bytes=bytes) (hzs:z.cells.size=size) (hsz:0<size)
    (v:Value) (n:Nat) (xs:List Value) (hs:a.eval s=v) (hown:w.ownsRow base e size v n xs)
    (ao:Option Addr) (m c:Nat) (news:List Value) (hx:a.eval x=.slice ao m c) (hn:ao=none→m=0∧c=0) (hl:news.length=m * size) (hnews:∀ ad,ao=some ad→∀ j u,news[j]?=some u→w.cell? (ad.add j)=some u) (h1:∀ u∈news,u.oneCell'=true)
    (h63:n+m≤maxLen) (hbytes:(n+m) * bytes≤140737488355328) (hbase:base≤w.heap.size)
    (h:∀ v' w',w'.ownsRow base e size v' (n+m) (xs++news)→w.grownBy w' v.ownBlock→wpList P ops Q rest (a.put o.dst v') w'):wpList P ops Q (o :: rest) a w :=
  wpList_plain hgd fun _ hK=>wp_append_any s x t ho base e i z size bytes ht hi hz hsize hby hzs hsz v n xs hs hown ao m c news hx hn hl hnews h1 h63 hbytes hbase fun v' w' h2 h3=>hK _ _ (h v' w' h2 h3)
set_option maxRecDepth 100000 in
set_option maxHeartbeats 4000000 in
theorem next_item (f:Fl) (a:FlA) (x:Ir) (w:World) (hf:FlAt f a w) (hn:f.n≤600) :
    Calls Tryz.prog 61 #[a.val f,valR x] w fun e w'=>e=.returned (.tuple #[.int .i64 ((nextI f x).getD 0),.bool (nextI f x).isSome])∧Below w.heap.size w w':=by
  have hR:=fun W (hb:Below w.heap.size w W) (h1:-1≤x.1) (h2:x.1<f.prods.length)=>right_any f a x.1 W (hf.next hb) hn h1 h2
  have hF:=fun W (hb:Below w.heap.size w W)=>fit_item f a x W (hf.next hb) hn
  obtain ⟨ta,tc,na,nc,pa,pc⟩:=a
  obtain ⟨x0,x1,x2⟩:=x
  have X0:=FBox.new f ⟨ta,tc,na,nc,pa,pc⟩ 25 w
  have B0:Below w.heap.size w (w.alloc (fobj f ⟨ta,tc,na,nc,pa,pc⟩ 25)):=(Below.refl _ _).alloc (Nat.le_refl _) _
  have Y0:=RBox.new (x0,x1,x2) 77 (w.alloc (fobj f ⟨ta,tc,na,nc,pa,pc⟩ 25))
  have X1:=X0.next ((Below.refl _ _).alloc (Nat.le_refl _) (Obj.cells #[.int .i64 x0,.int .i64 x1,.int .i64 x2] 77))
  have B1:=B0.alloc B0.size (Obj.cells #[.int .i64 x0,.int .i64 x1,.int .i64 x2] 77)
  have hz:(w.alloc (fobj f ⟨ta,tc,na,nc,pa,pc⟩ 25)).heap.size=w.heap.size+1:=by simp
  rw [hz] at Y0
  clear X0 B0 hz
  unfold fobj at X1 B1 Y0
  clear hf
  unfold FlA.val at hR hF ⊢
  unfold valR at hF ⊢
  simp only at *
  obtain ⟨b1,y0,y1,y2⟩:=id Y0
  obtain ⟨b0,z0,z1,z2⟩:=id X1
  simp only at y0 y1 y2 z0 z1 z2
  have HFI:Hid (∀ W,Below w.heap.size w W→Calls Tryz.prog 99 #[.agg #[.slice ta f.terms.length tc,.slice na f.nons.length nc,.slice pa f.prods.length pc],.agg #[.int .i64 x0,.int .i64 x1,.int .i64 x2]] W fun e w'=>e=.returned (.bool (fitI f (x0,x1,x2)))∧Below W.heap.size W w'):=hF
  have HRI:Hid (∀ W,Below w.heap.size w W→-1≤x0→x0<f.prods.length→Calls Tryz.prog 100 #[.agg #[.slice ta f.terms.length tc,.slice na f.nons.length nc,.slice pa f.prods.length pc],.int .i64 x0] W fun e w'=>∃ v,e=.returned v∧SlT (rightI f x0) v w'∧Below W.heap.size W w'):=hR
  clear hF hR
  go_enter Tryz.func61,Tryz.ntmps61
  go_wp2_with fail
  refine (HFI.out _ B1).mono ?_
  rintro e w0 ⟨rfl,hb0⟩
  have X2:=X1.next hb0
  have Y2:=Y0.next hb0
  have B2:=below_then B1 hb0 B1.size
  clear HFI X1 Y0 B1 b0 b1 z0 z1 z2 y0 y1 y2 hb0
  cases hft:fitI f (x0,x1,x2) with
  | false =>
    have HNI:Hid (nextI f (x0,x1,x2)=none):=by show _=_; unfold nextI; rw [hft]; rfl
    clear hft X2 Y2 HRI
    go_wp2_with fail
    go_ret2
    exact ⟨by rw [HNI.out]; rfl,B2⟩
  | true =>
  have hfi:=fitI_iff.1 hft
  simp only at hfi
  obtain ⟨p1,p2,p3,p4,p5,p6⟩:=hfi
  obtain ⟨d,rfl⟩:∃ d:Nat,x1=d:=⟨x1.toNat,by omega⟩
  have HNI:Hid (nextI f (x0,(d:Int),x2)=((rightI f x0)[d]?).map (·.sym)):=by show _=_; unfold nextI; rw [hft,if_pos rfl]; simp only; rw [Int.toNat_natCast]
  clear hft
  obtain ⟨_,y0,y1,y2⟩:=id Y2
  obtain ⟨_,z0,z1,z2⟩:=id X2
  simp only at y0 y1 y2 z0 z1 z2
  have HSI:Hid (∀ W,Below w0.heap.size w0 W→(W.cell? ⟨w.heap.size,0,none⟩=some (.slice ta f.terms.length tc)∧W.cell? ⟨w.heap.size,1,none⟩=some (.slice na f.nons.length nc)∧W.cell? ⟨w.heap.size,2,none⟩=some (.slice pa f.prods.length pc)∧W.cell? ⟨w.heap.size+1,0,none⟩=some (.int .i64 x0)∧W.cell? ⟨w.heap.size+1,1,none⟩=some (.int .i64 d)∧W.cell? ⟨w.heap.size+1,2,none⟩=some (.int .i64 x2)∧Below w0.heap.size w0 W)):=fun W hb=>by
    obtain ⟨_,l0,l1,l2⟩:=Y2.next hb
    obtain ⟨_,k0,k1,k2⟩:=X2.next hb
    exact ⟨k0,k1,k2,l0,l1,l2,hb⟩
  have HS0:Hid (w0.drew.cell? ⟨w.heap.size,0,none⟩=some (.slice ta f.terms.length tc)∧w0.drew.cell? ⟨w.heap.size,1,none⟩=some (.slice na f.nons.length nc)∧w0.drew.cell? ⟨w.heap.size,2,none⟩=some (.slice pa f.prods.length pc)∧w0.drew.cell? ⟨w.heap.size+1,0,none⟩=some (.int .i64 x0)∧w0.drew.cell? ⟨w.heap.size+1,1,none⟩=some (.int .i64 d)∧w0.drew.cell? ⟨w.heap.size+1,2,none⟩=some (.int .i64 x2)∧Below w0.heap.size w0 w0.drew):=HSI.out _ (Below.refl _ _).drew
  have HRR:Hid (Calls Tryz.prog 100 #[.agg #[.slice ta f.terms.length tc,.slice na f.nons.length nc,.slice pa f.prods.length pc],.int .i64 x0] w0.drew fun e w'=>∃ va vc,e=.returned (.slice va (rightI f x0).length vc)∧Hid (SlT (rightI f x0) (.slice va (rightI f x0).length vc) w')∧(rightI f x0).length≤vc∧vc≤140737488351232∧(va=none→vc=0)∧(w'.cell? ⟨w.heap.size,0,none⟩=some (.slice ta f.terms.length tc)∧w'.cell? ⟨w.heap.size,1,none⟩=some (.slice na f.nons.length nc)∧w'.cell? ⟨w.heap.size,2,none⟩=some (.slice pa f.prods.length pc)∧w'.cell? ⟨w.heap.size+1,0,none⟩=some (.int .i64 x0)∧w'.cell? ⟨w.heap.size+1,1,none⟩=some (.int .i64 d)∧w'.cell? ⟨w.heap.size+1,2,none⟩=some (.int .i64 x2)∧Below w0.heap.size w0 w')):=by
    refine (HRI.out _ (below_then B2 (Below.refl _ _).drew B2.size) p1 p2).mono ?_
    rintro e w' ⟨v,rfl,hv,hb⟩
    obtain ⟨va,vc,rfl,k1,k2,k3,k4⟩:=id hv
    exact ⟨va,vc,rfl,hv,k3,k4,k2,HSI.out _ (below_then (Below.refl _ _).drew hb (Nat.le_refl _))⟩
  have HBB:Hid (∀ W,Below w0.heap.size w0 W→Below w.heap.size w W):=fun W hb=>below_then B2 hb B2.size
  obtain ⟨r,hr⟩:∃ r,rightI f x0=r:=⟨_,rfl⟩
  rw [hr] at HRR HNI p4
  have hdr:d≤r.length:=by omega
  clear hr HSI HRI X2 Y2 B2 y0 y1 y2 z0 z1 z2
  have hd0:(d:Int)≤r.length:=by omega
  go_wp2_with fail
  refine wp_region_L (fun W=>W.cell? ⟨w.heap.size,0,none⟩=some (.slice ta f.terms.length tc)∧W.cell? ⟨w.heap.size,1,none⟩=some (.slice na f.nons.length nc)∧W.cell? ⟨w.heap.size,2,none⟩=some (.slice pa f.prods.length pc)∧W.cell? ⟨w.heap.size+1,0,none⟩=some (.int .i64 x0)∧W.cell? ⟨w.heap.size+1,1,none⟩=some (.int .i64 d)∧W.cell? ⟨w.heap.size+1,2,none⟩=some (.int .i64 x2)∧Below w0.heap.size w0 W) 8 (by kernel_rfl) 8 rfl ?_
  refine tk 0 ⟨some 11,.load 25 (.tmp 2),25, "item.go:40",#[],none⟩ HS0.out ?_;simp only [Act.put,sA,s0,sS]
  refine tk 1 ⟨some 12,.fieldAddr 77 (.tmp 3) 0,0, "item.go:40",#[],none⟩ HS0.out ?_;simp only [Act.put,sA,s0,sS]
  refine tk 2 ⟨some 13,.load 3 (.tmp 12),3, "item.go:40",#[⟨1,.data⟩],none⟩ HS0.out ?_;simp only [Act.put,sA,s0,sS]
  refine tk 4 ⟨some 15,.fieldAddr 77 (.tmp 3) 1,0, "item.go:40",#[],none⟩ HS0.out ?_;simp only [Act.put,sA,s0,sS]
  refine tk 5 ⟨some 16,.load 3 (.tmp 15),3, "item.go:40",#[⟨4,.data⟩],none⟩ HS0.out ?_;simp only [Act.put,sA,s0,sS]
  refine wpAnyL_one' (i:=3) (o:=⟨some 14,.call ⟨.value (.func 100),#[.tmp 11,.tmp 13],#[25,3]⟩,56, "item.go:40",#[⟨0,.data⟩,⟨2,.data⟩],none⟩) (by kernel_rfl) rfl rfl (fun K hK=>?_)
  go_simp
  refine (HRR.out).mono ?_
  rintro e w' ⟨va,vc,rfl,hSl,hvc,hvm,hvn,hS⟩
  refine hK.out _ _ (fun _=>hS) ?_
  clear hK
  have HSL:Hid (SlT r (.slice va r.length vc) w'):=hSl
  clear hSl HRR
  have hdv:(d:Int)≤vc:=by omega
  rcases Nat.lt_or_ge d r.length with hlt | hge
  · obtain ⟨ao,cap,e,hI,_⟩:=HSL.out
    cases e
    obtain ⟨b,off,rfl,hb,c0,c1,c2,_⟩:=hI.at (Below.refl _ _) hlt
    have HNX:Hid (nextI f (x0,(d:Int),x2)=some r[d].sym):=by show _=_; rw [HNI.out,List.getElem?_eq_getElem hlt]; rfl
    generalize r[d]=it at *
    have hdc:d<vc:=by omega
    have hdc2:¬ vc - d=0:=by omega
    have HF:Hid (Below w.heap.size w w'):=HBB.out _ hS.2.2.2.2.2.2
    have hrl:¬ r.length - d=0:=by omega
    have hrl2:(((r.length - d:Nat):Int) == 0)=false:=by simp; omega
    clear HNI HSL hI HBB
    refine tk 6 ⟨some 17,.slice 56 (.tmp 14) (some (.tmp 16)) none none,56, "item.go:40",#[⟨3,.data⟩,⟨5,.data⟩],none⟩ hS ?_;simp only [Act.put,sA,s0,sS]
    refine tk 7 ⟨some 6,.assign (.tmp 17),56, "item.go:40",#[⟨6,.data⟩,⟨3,.chain⟩,⟨0,.phase⟩,⟨1,.phase⟩,⟨2,.phase⟩,⟨3,.phase⟩,⟨4,.phase⟩,⟨5,.phase⟩,⟨6,.phase⟩],none⟩ hS ?_;simp only [Act.put,sA,s0,sS]
    refine wpAnyL_done (by kernel_rfl) ?_ _
    clear hS
    go_wp2_with fail
    go_ret2
    exact ⟨by rw [HNX.out]; rfl,HF.out⟩
  · obtain rfl:d=r.length:=by omega
    have HNX:Hid (nextI f (x0,(r.length:Int),x2)=none):=by show _=_; rw [HNI.out]; simp
    have HF:Hid (Below w.heap.size w w'):=HBB.out _ hS.2.2.2.2.2.2
    clear HNI HSL HBB
    rcases Nat.lt_or_ge r.length vc with hdc | hdc
    · cases va with
      | none=>exfalso; have:=hvn rfl; omega
      | some ad =>
      have hdc2:¬ vc - r.length=0:=by omega
      clear hvn
      refine tk 6 ⟨some 17,.slice 56 (.tmp 14) (some (.tmp 16)) none none,56, "item.go:40",#[⟨3,.data⟩,⟨5,.data⟩],none⟩ hS ?_;simp only [Act.put,sA,s0,sS]
      refine tk 7 ⟨some 6,.assign (.tmp 17),56, "item.go:40",#[⟨6,.data⟩,⟨3,.chain⟩,⟨0,.phase⟩,⟨1,.phase⟩,⟨2,.phase⟩,⟨3,.phase⟩,⟨4,.phase⟩,⟨5,.phase⟩,⟨6,.phase⟩],none⟩ hS ?_;simp only [Act.put,sA,s0,sS]
      refine wpAnyL_done (by kernel_rfl) ?_ _
      clear hS
      go_wp2_with fail
      go_ret2
      exact ⟨by rw [HNX.out]; rfl,HF.out⟩
    · obtain rfl:vc=r.length:=by omega
      clear hvn
      refine tk 6 ⟨some 17,.slice 56 (.tmp 14) (some (.tmp 16)) none none,56, "item.go:40",#[⟨3,.data⟩,⟨5,.data⟩],none⟩ hS ?_;simp only [Act.put,sA,s0,sS]
      refine tk 7 ⟨some 6,.assign (.tmp 17),56, "item.go:40",#[⟨6,.data⟩,⟨3,.chain⟩,⟨0,.phase⟩,⟨1,.phase⟩,⟨2,.phase⟩,⟨3,.phase⟩,⟨4,.phase⟩,⟨5,.phase⟩,⟨6,.phase⟩],none⟩ hS ?_;simp only [Act.put,sA,s0,sS]
      refine wpAnyL_done (by kernel_rfl) ?_ _
      clear hS
      go_wp2_with fail
      go_ret2
      exact ⟨by rw [HNX.out]; rfl,HF.out⟩
set_option maxRecDepth 100000 in
set_option maxHeartbeats 4000000 in
theorem rnext_item (f:Fl) (a:FlA) (x:Ir) (w:World) (hf:FlAt f a w) (hn:f.n≤600) :
    Calls Tryz.prog 37 #[a.val f,valR x] w fun e w'=>e=.returned (.tuple #[.int .i64 ((nextI f x).getD 0),.bool (nextI f x).isSome])∧Below w.heap.size w w':=by
  have hR:=fun W (hb:Below w.heap.size w W) (h1:-1≤x.1) (h2:x.1<f.prods.length)=>rright_any f a x.1 W (hf.next hb) hn h1 h2
  have hF:=fun W (hb:Below w.heap.size w W)=>rfit_item f a x W (hf.next hb) hn
  obtain ⟨ta,tc,na,nc,pa,pc⟩:=a
  obtain ⟨x0,x1,x2⟩:=x
  have X0:=FBox.new f ⟨ta,tc,na,nc,pa,pc⟩ 25 w
  have B0:Below w.heap.size w (w.alloc (fobj f ⟨ta,tc,na,nc,pa,pc⟩ 25)):=(Below.refl _ _).alloc (Nat.le_refl _) _
  have Y0:=RBox.new (x0,x1,x2) 77 (w.alloc (fobj f ⟨ta,tc,na,nc,pa,pc⟩ 25))
  have X1:=X0.next ((Below.refl _ _).alloc (Nat.le_refl _) (Obj.cells #[.int .i64 x0,.int .i64 x1,.int .i64 x2] 77))
  have B1:=B0.alloc B0.size (Obj.cells #[.int .i64 x0,.int .i64 x1,.int .i64 x2] 77)
  have hz:(w.alloc (fobj f ⟨ta,tc,na,nc,pa,pc⟩ 25)).heap.size=w.heap.size+1:=by simp
  rw [hz] at Y0
  clear X0 B0 hz
  unfold fobj at X1 B1 Y0
  clear hf
  unfold FlA.val at hR hF ⊢
  unfold valR at hF ⊢
  simp only at *
  obtain ⟨b1,y0,y1,y2⟩:=id Y0
  obtain ⟨b0,z0,z1,z2⟩:=id X1
  simp only at y0 y1 y2 z0 z1 z2
  have HFI:Hid (∀ W,Below w.heap.size w W→Calls Tryz.prog 70 #[.agg #[.slice ta f.terms.length tc,.slice na f.nons.length nc,.slice pa f.prods.length pc],.agg #[.int .i64 x0,.int .i64 x1,.int .i64 x2]] W fun e w'=>e=.returned (.bool (fitI f (x0,x1,x2)))∧Below W.heap.size W w'):=hF
  have HRI:Hid (∀ W,Below w.heap.size w W→-1≤x0→x0<f.prods.length→Calls Tryz.prog 71 #[.agg #[.slice ta f.terms.length tc,.slice na f.nons.length nc,.slice pa f.prods.length pc],.int .i64 x0] W fun e w'=>∃ v,e=.returned v∧SlT (rightI f x0) v w'∧Below W.heap.size W w'):=hR
  clear hF hR
  go_enter Tryz.func37,Tryz.ntmps37
  go_wp2_with fail
  generalize (w.alloc (Obj.cells #[Value.slice ta f.terms.length tc,Value.slice na f.nons.length nc,Value.slice pa f.prods.length pc] 25)).alloc (Obj.cells #[.int .i64 x0,.int .i64 x1,.int .i64 x2] 77)=w0 at *
  have HSI:Hid (∀ W,Below w0.heap.size w0 W→(W.cell? ⟨w.heap.size,0,none⟩=some (.slice ta f.terms.length tc)∧W.cell? ⟨w.heap.size,1,none⟩=some (.slice na f.nons.length nc)∧W.cell? ⟨w.heap.size,2,none⟩=some (.slice pa f.prods.length pc)∧W.cell? ⟨w.heap.size+1,0,none⟩=some (.int .i64 x0)∧W.cell? ⟨w.heap.size+1,1,none⟩=some (.int .i64 x1)∧W.cell? ⟨w.heap.size+1,2,none⟩=some (.int .i64 x2)∧Below w0.heap.size w0 W)):=fun W hb=>by
    obtain ⟨_,l0,l1,l2⟩:=Y0.next hb
    obtain ⟨_,k0,k1,k2⟩:=X1.next hb
    exact ⟨k0,k1,k2,l0,l1,l2,hb⟩
  have HS0:Hid (w0.drew.cell? ⟨w.heap.size,0,none⟩=some (.slice ta f.terms.length tc)∧w0.drew.cell? ⟨w.heap.size,1,none⟩=some (.slice na f.nons.length nc)∧w0.drew.cell? ⟨w.heap.size,2,none⟩=some (.slice pa f.prods.length pc)∧w0.drew.cell? ⟨w.heap.size+1,0,none⟩=some (.int .i64 x0)∧w0.drew.cell? ⟨w.heap.size+1,1,none⟩=some (.int .i64 x1)∧w0.drew.cell? ⟨w.heap.size+1,2,none⟩=some (.int .i64 x2)∧Below w0.heap.size w0 w0.drew):=HSI.out _ (Below.refl _ _).drew
  have HBB:Hid (∀ W,Below w0.heap.size w0 W→Below w.heap.size w W):=fun W hb=>below_then B1 hb B1.size
  have HFF:Hid (Calls Tryz.prog 70 #[.agg #[.slice ta f.terms.length tc,.slice na f.nons.length nc,.slice pa f.prods.length pc],.agg #[.int .i64 x0,.int .i64 x1,.int .i64 x2]] w0.drew fun e w'=>e=.returned (.bool (fitI f (x0,x1,x2)))∧(w'.cell? ⟨w.heap.size,0,none⟩=some (.slice ta f.terms.length tc)∧w'.cell? ⟨w.heap.size,1,none⟩=some (.slice na f.nons.length nc)∧w'.cell? ⟨w.heap.size,2,none⟩=some (.slice pa f.prods.length pc)∧w'.cell? ⟨w.heap.size+1,0,none⟩=some (.int .i64 x0)∧w'.cell? ⟨w.heap.size+1,1,none⟩=some (.int .i64 x1)∧w'.cell? ⟨w.heap.size+1,2,none⟩=some (.int .i64 x2)∧Below w0.heap.size w0 w')):=by
    refine (HFI.out _ (HBB.out _ HS0.out.2.2.2.2.2.2)).mono ?_
    rintro e w' ⟨rfl,hb⟩
    exact ⟨rfl,HSI.out _ (below_then (Below.refl _ _).drew hb (Nat.le_refl _))⟩
  clear HFI X1 Y0 B1 b0 b1 z0 z1 z2 y0 y1 y2
  cases hft:fitI f (x0,x1,x2) with
  | false =>
    rw [hft] at HFF
    have HNI:Hid (nextI f (x0,x1,x2)=none):=by show _=_; unfold nextI; rw [hft]; rfl
    clear hft HRI HSI
    refine wp_region_L (fun W=>W.cell? ⟨w.heap.size,0,none⟩=some (.slice ta f.terms.length tc)∧W.cell? ⟨w.heap.size,1,none⟩=some (.slice na f.nons.length nc)∧W.cell? ⟨w.heap.size,2,none⟩=some (.slice pa f.prods.length pc)∧W.cell? ⟨w.heap.size+1,0,none⟩=some (.int .i64 x0)∧W.cell? ⟨w.heap.size+1,1,none⟩=some (.int .i64 x1)∧W.cell? ⟨w.heap.size+1,2,none⟩=some (.int .i64 x2)∧Below w0.heap.size w0 W) 14 (by kernel_rfl) 14 rfl ?_
    refine tk 0 ⟨some 6,.load 25 (.tmp 2),25, "ref.go:26",#[],none⟩ HS0.out ?_;simp only [Act.put,sA,s0,sS]
    refine tk 1 ⟨some 7,.load 77 (.tmp 3),77, "ref.go:26",#[],none⟩ HS0.out ?_;simp only [Act.put,sA,s0,sS]
    refine wpAnyL_one' (i:=2) (o:=⟨some 8,.call ⟨.value (.func 70),#[.tmp 6,.tmp 7],#[25,77]⟩,4, "ref.go:26",#[⟨0,.data⟩,⟨1,.data⟩],none⟩) (by kernel_rfl) rfl rfl (fun K hK=>?_)
    go_simp
    refine (HFF.out).mono ?_
    rintro e w' ⟨rfl,hS⟩
    refine hK.out _ _ (fun _=>hS) ?_
    clear hK
    refine tk 3 ⟨some 9,.unOp .not 4 (.tmp 8),4, "ref.go:26",#[⟨2,.data⟩],none⟩ hS ?_;simp only [Act.put,sA,s0,sS]
    refine tk 4 ⟨some 10,.move (.tmp 9),4, "ref.go:26",#[⟨3,.data⟩,⟨2,.chain⟩],none⟩ hS ?_;simp only [Act.put,sA,s0,sS]
    refine tu 5 ⟨some 11,.fieldAddr 77 (.tmp 3) 1,0, "ref.go:26",#[⟨4,.guard⟩],some (4,false)⟩ hS ?_;simp only [Act.put,sA,s0,sS]
    refine tu 6 ⟨some 12,.load 3 (.tmp 11),3, "ref.go:26",#[⟨5,.data⟩,⟨4,.guard⟩],some (4,false)⟩ hS ?_;simp only [Act.put,sA,s0,sS]
    refine tu 7 ⟨some 13,.load 25 (.tmp 2),25, "ref.go:26",#[⟨4,.guard⟩],some (4,false)⟩ hS ?_;simp only [Act.put,sA,s0,sS]
    refine tu 8 ⟨some 14,.fieldAddr 77 (.tmp 3) 0,0, "ref.go:26",#[⟨4,.guard⟩],some (4,false)⟩ hS ?_;simp only [Act.put,sA,s0,sS]
    refine tu 9 ⟨some 15,.load 3 (.tmp 14),3, "ref.go:26",#[⟨8,.data⟩,⟨4,.guard⟩],some (4,false)⟩ hS ?_;simp only [Act.put,sA,s0,sS]
    refine tu 10 ⟨some 16,.call ⟨.value (.func 71),#[.tmp 13,.tmp 15],#[25,3]⟩,56, "ref.go:26",#[⟨7,.data⟩,⟨9,.data⟩,⟨4,.chain⟩,⟨4,.guard⟩],some (4,false)⟩ hS ?_;simp only [Act.put,sA,s0,sS]
    refine tu 11 ⟨some 17,.call ⟨.builtin .len,#[.tmp 16],#[56]⟩,3, "ref.go:26",#[⟨10,.data⟩,⟨4,.guard⟩],some (4,false)⟩ hS ?_;simp only [Act.put,sA,s0,sS]
    refine tu 12 ⟨some 18,.binOp .eql 3 (.tmp 12) (.tmp 17) 3,4, "ref.go:26",#[⟨6,.data⟩,⟨11,.data⟩,⟨4,.guard⟩],some (4,false)⟩ hS ?_;simp only [Act.put,sA,s0,sS]
    refine tk 13 ⟨some 19,.pick (.tmp 10) (.const (.bool true)) (.tmp 18),4, "ref.go:26",#[⟨4,.data⟩,⟨12,.data⟩],none⟩ hS ?_;simp only [Act.put,sA,s0,sS]
    refine wpAnyL_done (by kernel_rfl) ?_ _
    have HF:Hid (Below w.heap.size w w'):=HBB.out _ hS.2.2.2.2.2.2
    clear hS HFF HBB
    go_wp2_with fail
    go_ret2
    exact ⟨by rw [HNI.out]; rfl,HF.out⟩
  | true =>
  rw [hft] at HFF
  have hfi:=fitI_iff.1 hft
  simp only at hfi
  obtain ⟨p1,p2,p3,p4,p5,p6⟩:=hfi
  obtain ⟨d,rfl⟩:∃ d:Nat,x1=d:=⟨x1.toNat,by omega⟩
  have HNI:Hid (nextI f (x0,(d:Int),x2)=((rightI f x0)[d]?).map (·.sym)):=by show _=_; unfold nextI; rw [hft,if_pos rfl]; simp only; rw [Int.toNat_natCast]
  clear hft
  have HRR:Hid (∀ W,(W.cell? ⟨w.heap.size,0,none⟩=some (.slice ta f.terms.length tc)∧W.cell? ⟨w.heap.size,1,none⟩=some (.slice na f.nons.length nc)∧W.cell? ⟨w.heap.size,2,none⟩=some (.slice pa f.prods.length pc)∧W.cell? ⟨w.heap.size+1,0,none⟩=some (.int .i64 x0)∧W.cell? ⟨w.heap.size+1,1,none⟩=some (.int .i64 d)∧W.cell? ⟨w.heap.size+1,2,none⟩=some (.int .i64 x2)∧Below w0.heap.size w0 W)→Calls Tryz.prog 71 #[.agg #[.slice ta f.terms.length tc,.slice na f.nons.length nc,.slice pa f.prods.length pc],.int .i64 x0] W fun e w'=>∃ va vc,e=.returned (.slice va (rightI f x0).length vc)∧Hid (SlT (rightI f x0) (.slice va (rightI f x0).length vc) w')∧(w'.cell? ⟨w.heap.size,0,none⟩=some (.slice ta f.terms.length tc)∧w'.cell? ⟨w.heap.size,1,none⟩=some (.slice na f.nons.length nc)∧w'.cell? ⟨w.heap.size,2,none⟩=some (.slice pa f.prods.length pc)∧w'.cell? ⟨w.heap.size+1,0,none⟩=some (.int .i64 x0)∧w'.cell? ⟨w.heap.size+1,1,none⟩=some (.int .i64 d)∧w'.cell? ⟨w.heap.size+1,2,none⟩=some (.int .i64 x2)∧Below w0.heap.size w0 w')):=fun W hS=>by
    refine (HRI.out _ (HBB.out _ hS.2.2.2.2.2.2) p1 p2).mono ?_
    rintro e w' ⟨v,rfl,hv,hb⟩
    obtain ⟨va,vc,rfl,_⟩:=id hv
    exact ⟨va,vc,rfl,hv,HSI.out _ (below_then hS.2.2.2.2.2.2 hb hS.2.2.2.2.2.2.size)⟩
  obtain ⟨r,hr⟩:∃ r,rightI f x0=r:=⟨_,rfl⟩
  rw [hr] at HRR HNI p4
  have hdr:d≤r.length:=by omega
  have HDR:Hid (∀ W,(W.cell? ⟨w.heap.size,0,none⟩=some (.slice ta f.terms.length tc)∧W.cell? ⟨w.heap.size,1,none⟩=some (.slice na f.nons.length nc)∧W.cell? ⟨w.heap.size,2,none⟩=some (.slice pa f.prods.length pc)∧W.cell? ⟨w.heap.size+1,0,none⟩=some (.int .i64 x0)∧W.cell? ⟨w.heap.size+1,1,none⟩=some (.int .i64 d)∧W.cell? ⟨w.heap.size+1,2,none⟩=some (.int .i64 x2)∧Below w0.heap.size w0 W)→(W.drew.cell? ⟨w.heap.size,0,none⟩=some (.slice ta f.terms.length tc)∧W.drew.cell? ⟨w.heap.size,1,none⟩=some (.slice na f.nons.length nc)∧W.drew.cell? ⟨w.heap.size,2,none⟩=some (.slice pa f.prods.length pc)∧W.drew.cell? ⟨w.heap.size+1,0,none⟩=some (.int .i64 x0)∧W.drew.cell? ⟨w.heap.size+1,1,none⟩=some (.int .i64 d)∧W.drew.cell? ⟨w.heap.size+1,2,none⟩=some (.int .i64 x2)∧Below w0.heap.size w0 W.drew)):=fun W hS=>HSI.out _ (hS.2.2.2.2.2.2.drew)
  clear hr HRI HSI
  rcases Nat.lt_or_ge d r.length with hlt | hge
  · have HNX:Hid (nextI f (x0,(d:Int),x2)=some r[d].sym):=by show _=_; rw [HNI.out,List.getElem?_eq_getElem hlt]; rfl
    have hne:((d:Int) == (r.length:Int))=false:=by simp; omega
    clear HNI
    refine wp_region_L (fun W=>W.cell? ⟨w.heap.size,0,none⟩=some (.slice ta f.terms.length tc)∧W.cell? ⟨w.heap.size,1,none⟩=some (.slice na f.nons.length nc)∧W.cell? ⟨w.heap.size,2,none⟩=some (.slice pa f.prods.length pc)∧W.cell? ⟨w.heap.size+1,0,none⟩=some (.int .i64 x0)∧W.cell? ⟨w.heap.size+1,1,none⟩=some (.int .i64 d)∧W.cell? ⟨w.heap.size+1,2,none⟩=some (.int .i64 x2)∧Below w0.heap.size w0 W) 14 (by kernel_rfl) 14 rfl ?_
    refine tk 0 ⟨some 6,.load 25 (.tmp 2),25, "ref.go:26",#[],none⟩ HS0.out ?_;simp only [Act.put,sA,s0,sS]
    refine tk 1 ⟨some 7,.load 77 (.tmp 3),77, "ref.go:26",#[],none⟩ HS0.out ?_;simp only [Act.put,sA,s0,sS]
    refine wpAnyL_one' (i:=2) (o:=⟨some 8,.call ⟨.value (.func 70),#[.tmp 6,.tmp 7],#[25,77]⟩,4, "ref.go:26",#[⟨0,.data⟩,⟨1,.data⟩],none⟩) (by kernel_rfl) rfl rfl (fun K hK=>?_)
    go_simp
    refine (HFF.out).mono ?_
    rintro e w' ⟨rfl,hS⟩
    refine hK.out _ _ (fun _=>hS) ?_
    clear hK
    refine tk 3 ⟨some 9,.unOp .not 4 (.tmp 8),4, "ref.go:26",#[⟨2,.data⟩],none⟩ hS ?_;simp only [Act.put,sA,s0,sS]
    refine tk 4 ⟨some 10,.move (.tmp 9),4, "ref.go:26",#[⟨3,.data⟩,⟨2,.chain⟩],none⟩ hS ?_;simp only [Act.put,sA,s0,sS]
    refine tk 5 ⟨some 11,.fieldAddr 77 (.tmp 3) 1,0, "ref.go:26",#[⟨4,.guard⟩],some (4,false)⟩ hS ?_;simp only [Act.put,sA,s0,sS]
    refine tk 6 ⟨some 12,.load 3 (.tmp 11),3, "ref.go:26",#[⟨5,.data⟩,⟨4,.guard⟩],some (4,false)⟩ hS ?_;simp only [Act.put,sA,s0,sS]
    refine tk 7 ⟨some 13,.load 25 (.tmp 2),25, "ref.go:26",#[⟨4,.guard⟩],some (4,false)⟩ hS ?_;simp only [Act.put,sA,s0,sS]
    refine tk 8 ⟨some 14,.fieldAddr 77 (.tmp 3) 0,0, "ref.go:26",#[⟨4,.guard⟩],some (4,false)⟩ hS ?_;simp only [Act.put,sA,s0,sS]
    refine tk 9 ⟨some 15,.load 3 (.tmp 14),3, "ref.go:26",#[⟨8,.data⟩,⟨4,.guard⟩],some (4,false)⟩ hS ?_;simp only [Act.put,sA,s0,sS]
    refine wpAnyL_one' (i:=10) (o:=⟨some 16,.call ⟨.value (.func 71),#[.tmp 13,.tmp 15],#[25,3]⟩,56, "ref.go:26",#[⟨7,.data⟩,⟨9,.data⟩,⟨4,.chain⟩,⟨4,.guard⟩],some (4,false)⟩) (by kernel_rfl) rfl rfl (fun K hK=>?_)
    go_simp
    refine (HRR.out _ hS).mono ?_
    rintro e w1 ⟨va,vc,rfl,_,hS1⟩
    refine hK.out _ _ (fun _=>hS1) ?_
    clear hK
    refine tk 11 ⟨some 17,.call ⟨.builtin .len,#[.tmp 16],#[56]⟩,3, "ref.go:26",#[⟨10,.data⟩,⟨4,.guard⟩],some (4,false)⟩ hS1 ?_;simp only [Act.put,sA,s0,sS]
    refine tk 12 ⟨some 18,.binOp .eql 3 (.tmp 12) (.tmp 17) 3,4, "ref.go:26",#[⟨6,.data⟩,⟨11,.data⟩,⟨4,.guard⟩],some (4,false)⟩ hS1 ?_;simp only [Act.put,sA,s0,sS]
    refine tk 13 ⟨some 19,.pick (.tmp 10) (.const (.bool true)) (.tmp 18),4, "ref.go:26",#[⟨4,.data⟩,⟨12,.data⟩],none⟩ hS1 ?_;simp only [Act.put,sA,s0,sS]
    refine wpAnyL_done (by kernel_rfl) ?_ _
    clear hS HFF HS0
    have hS2:=HDR.out _ hS1
    clear hS1
    go_wp2_with fail
    refine wp_region_L (fun W=>W.cell? ⟨w.heap.size,0,none⟩=some (.slice ta f.terms.length tc)∧W.cell? ⟨w.heap.size,1,none⟩=some (.slice na f.nons.length nc)∧W.cell? ⟨w.heap.size,2,none⟩=some (.slice pa f.prods.length pc)∧W.cell? ⟨w.heap.size+1,0,none⟩=some (.int .i64 x0)∧W.cell? ⟨w.heap.size+1,1,none⟩=some (.int .i64 d)∧W.cell? ⟨w.heap.size+1,2,none⟩=some (.int .i64 x2)∧Below w0.heap.size w0 W) 11 (by kernel_rfl) 11 rfl ?_
    refine tk 0 ⟨some 20,.load 25 (.tmp 2),25, "ref.go:29",#[],none⟩ hS2 ?_;simp only [Act.put,sA,s0,sS]
    refine tk 1 ⟨some 21,.fieldAddr 77 (.tmp 3) 0,0, "ref.go:29",#[],none⟩ hS2 ?_;simp only [Act.put,sA,s0,sS]
    refine tk 2 ⟨some 22,.load 3 (.tmp 21),3, "ref.go:29",#[⟨1,.data⟩],none⟩ hS2 ?_;simp only [Act.put,sA,s0,sS]
    refine tk 4 ⟨some 24,.fieldAddr 77 (.tmp 3) 1,0, "ref.go:29",#[],none⟩ hS2 ?_;simp only [Act.put,sA,s0,sS]
    refine tk 5 ⟨some 25,.load 3 (.tmp 24),3, "ref.go:29",#[⟨4,.data⟩],none⟩ hS2 ?_;simp only [Act.put,sA,s0,sS]
    refine wpAnyL_one' (i:=3) (o:=⟨some 23,.call ⟨.value (.func 71),#[.tmp 20,.tmp 22],#[25,3]⟩,56, "ref.go:29",#[⟨0,.data⟩,⟨2,.data⟩],none⟩) (by kernel_rfl) rfl rfl (fun K hK=>?_)
    go_simp
    refine (HRR.out _ hS2).mono ?_
    rintro e w3 ⟨va,vc,rfl,hSl,hS3⟩
    refine hK.out _ _ (fun _=>hS3) ?_
    clear hK
    obtain ⟨ao,cap,e,hI,_⟩:=hSl.out
    cases e
    obtain ⟨b,off,rfl,hb,c0,c1,c2,_⟩:=hI.at (Below.refl _ _) hlt
    generalize r[d]=it at *
    have HF:Hid (Below w.heap.size w w3):=HBB.out _ hS3.2.2.2.2.2.2
    clear hI hSl HBB HRR HDR
    refine tk 6 ⟨some 26,.indexAddr 56 (.tmp 23) (.tmp 25),0, "ref.go:29",#[⟨3,.data⟩,⟨5,.data⟩],none⟩ hS3 ?_;simp only [Act.put,sA,s0,sS]
    refine tk 7 ⟨some 27,.fieldAddr 55 (.tmp 26) 0,0, "ref.go:29",#[⟨6,.data⟩],none⟩ hS3 ?_;simp only [Act.put,sA,s0,sS]
    refine wpAnyL_one' (i:=8) (o:=⟨some 28,.load 3 (.tmp 27),3, "ref.go:29",#[⟨7,.data⟩],none⟩) (by kernel_rfl) rfl rfl (fun K hK=>?_)
    go_simp
    refine hK.out _ _ (fun _=>hS3) ?_
    clear hK
    refine tk 9 ⟨some 4,.assign (.tmp 28),3, "ref.go:29",#[⟨8,.data⟩,⟨3,.chain⟩,⟨0,.phase⟩,⟨1,.phase⟩,⟨2,.phase⟩,⟨3,.phase⟩,⟨4,.phase⟩,⟨5,.phase⟩,⟨6,.phase⟩,⟨7,.phase⟩,⟨8,.phase⟩],none⟩ hS3 ?_;simp only [Act.put,sA,s0,sS]
    refine tk 10 ⟨some 5,.assign (.const (.bool true)),4, "ref.go:29",#[⟨9,.chain⟩,⟨0,.phase⟩,⟨1,.phase⟩,⟨2,.phase⟩,⟨3,.phase⟩,⟨4,.phase⟩,⟨5,.phase⟩,⟨6,.phase⟩,⟨7,.phase⟩,⟨8,.phase⟩,⟨9,.phase⟩],none⟩ hS3 ?_;simp only [Act.put,sA,s0,sS]
    refine wpAnyL_done (by kernel_rfl) ?_ _
    clear hS3
    go_wp2_with fail
    go_ret2
    exact ⟨by rw [HNX.out]; rfl,HF.out⟩
  · obtain rfl:d=r.length:=by omega
    have HNX:Hid (nextI f (x0,(r.length:Int),x2)=none):=by show _=_; rw [HNI.out]; simp
    have hne:((r.length:Int) == (r.length:Int))=true:=by simp
    clear HNI
    refine wp_region_L (fun W=>W.cell? ⟨w.heap.size,0,none⟩=some (.slice ta f.terms.length tc)∧W.cell? ⟨w.heap.size,1,none⟩=some (.slice na f.nons.length nc)∧W.cell? ⟨w.heap.size,2,none⟩=some (.slice pa f.prods.length pc)∧W.cell? ⟨w.heap.size+1,0,none⟩=some (.int .i64 x0)∧W.cell? ⟨w.heap.size+1,1,none⟩=some (.int .i64 r.length)∧W.cell? ⟨w.heap.size+1,2,none⟩=some (.int .i64 x2)∧Below w0.heap.size w0 W) 14 (by kernel_rfl) 14 rfl ?_
    refine tk 0 ⟨some 6,.load 25 (.tmp 2),25, "ref.go:26",#[],none⟩ HS0.out ?_;simp only [Act.put,sA,s0,sS]
    refine tk 1 ⟨some 7,.load 77 (.tmp 3),77, "ref.go:26",#[],none⟩ HS0.out ?_;simp only [Act.put,sA,s0,sS]
    refine wpAnyL_one' (i:=2) (o:=⟨some 8,.call ⟨.value (.func 70),#[.tmp 6,.tmp 7],#[25,77]⟩,4, "ref.go:26",#[⟨0,.data⟩,⟨1,.data⟩],none⟩) (by kernel_rfl) rfl rfl (fun K hK=>?_)
    go_simp
    refine (HFF.out).mono ?_
    rintro e w' ⟨rfl,hS⟩
    refine hK.out _ _ (fun _=>hS) ?_
    clear hK
    refine tk 3 ⟨some 9,.unOp .not 4 (.tmp 8),4, "ref.go:26",#[⟨2,.data⟩],none⟩ hS ?_;simp only [Act.put,sA,s0,sS]
    refine tk 4 ⟨some 10,.move (.tmp 9),4, "ref.go:26",#[⟨3,.data⟩,⟨2,.chain⟩],none⟩ hS ?_;simp only [Act.put,sA,s0,sS]
    refine tk 5 ⟨some 11,.fieldAddr 77 (.tmp 3) 1,0, "ref.go:26",#[⟨4,.guard⟩],some (4,false)⟩ hS ?_;simp only [Act.put,sA,s0,sS]
    refine tk 6 ⟨some 12,.load 3 (.tmp 11),3, "ref.go:26",#[⟨5,.data⟩,⟨4,.guard⟩],some (4,false)⟩ hS ?_;simp only [Act.put,sA,s0,sS]
    refine tk 7 ⟨some 13,.load 25 (.tmp 2),25, "ref.go:26",#[⟨4,.guard⟩],some (4,false)⟩ hS ?_;simp only [Act.put,sA,s0,sS]
    refine tk 8 ⟨some 14,.fieldAddr 77 (.tmp 3) 0,0, "ref.go:26",#[⟨4,.guard⟩],some (4,false)⟩ hS ?_;simp only [Act.put,sA,s0,sS]
    refine tk 9 ⟨some 15,.load 3 (.tmp 14),3, "ref.go:26",#[⟨8,.data⟩,⟨4,.guard⟩],some (4,false)⟩ hS ?_;simp only [Act.put,sA,s0,sS]
    refine wpAnyL_one' (i:=10) (o:=⟨some 16,.call ⟨.value (.func 71),#[.tmp 13,.tmp 15],#[25,3]⟩,56, "ref.go:26",#[⟨7,.data⟩,⟨9,.data⟩,⟨4,.chain⟩,⟨4,.guard⟩],some (4,false)⟩) (by kernel_rfl) rfl rfl (fun K hK=>?_)
    go_simp
    refine (HRR.out _ hS).mono ?_
    rintro e w1 ⟨va,vc,rfl,_,hS1⟩
    refine hK.out _ _ (fun _=>hS1) ?_
    clear hK
    refine tk 11 ⟨some 17,.call ⟨.builtin .len,#[.tmp 16],#[56]⟩,3, "ref.go:26",#[⟨10,.data⟩,⟨4,.guard⟩],some (4,false)⟩ hS1 ?_;simp only [Act.put,sA,s0,sS]
    refine tk 12 ⟨some 18,.binOp .eql 3 (.tmp 12) (.tmp 17) 3,4, "ref.go:26",#[⟨6,.data⟩,⟨11,.data⟩,⟨4,.guard⟩],some (4,false)⟩ hS1 ?_;simp only [Act.put,sA,s0,sS]
    refine tk 13 ⟨some 19,.pick (.tmp 10) (.const (.bool true)) (.tmp 18),4, "ref.go:26",#[⟨4,.data⟩,⟨12,.data⟩],none⟩ hS1 ?_;simp only [Act.put,sA,s0,sS]
    refine wpAnyL_done (by kernel_rfl) ?_ _
    have HF:Hid (Below w.heap.size w w1):=HBB.out _ hS1.2.2.2.2.2.2
    clear hS hS1 HFF HBB HS0 HRR HDR
    go_wp2_with fail
    go_ret2
    exact ⟨by rw [HNX.out]; rfl,HF.out⟩
end Go.Proofs.YtbilbgjojdlobaaGreatDoor
