import Derived.Test.YtbilbgjojdlobaaGreatDoorJ01
import Derived.Test.YtbilbgjojdlobaaGreatDoorJ02
import Derived.Maps.OwnSet
import Derived.Maps.Views
import Derived.DeepKeys4
import Derived.Laws.IdiomStrings
import Derived.Lib.Builder
import Derived.Deep.Cut

namespace Go.Proofs.YtbilbgjojdlobaaGreatDoor
open Go.RowKit Go.Maps
theorem laidOutM:laidOutB Tryz.prog=true:=by kernel_rfl
theorem lawLr:Keyed Tryz.prog 77:=Keyed.of_law (deep_law_laid laidOutM (m:=2) (by omega) (of_decide_eq_true (by kernel_rfl)) (by kernel_rfl) (by kernel_rfl))
theorem lawCore:Keyed Tryz.prog 239:=Keyed.of_law (deep_law_laid laidOutM (m:=2) (by omega) (of_decide_eq_true (by kernel_rfl)) (by kernel_rfl) (by kernel_rfl))
theorem lawStart:Keyed Tryz.prog 219:=Keyed.of_law (deep_law_laid laidOutM (m:=2) (by omega) (of_decide_eq_true (by kernel_rfl)) (by kernel_rfl) (by kernel_rfl))
theorem lawStr:Keyed Tryz.prog 9:=string_keyed Tryz.underlying9
theorem wf64 {x:Int} (h:i64B x):(Lit.int .i64 x).wf=true:=WalkArith.wf_i64 (by unfold i64B at h; omega)
def val2 (x:Int × Int):Value:=.agg #[.int .i64 x.1,.int .i64 x.2]
def ok2 (x:Int × Int):Prop:=i64B x.1∧i64B x.2
theorem sizeT:∃ m,Tryz.prog.types.size=m+1:=⟨Tryz.prog.types.size - 1,by have:0<Tryz.prog.types.size:=of_decide_eq_true (by kernel_rfl); omega⟩
theorem keyLr {x:Ir} (h:okR x):∃ kl,keyOf Tryz.prog 77 (valR x)=some kl:=by
  obtain ⟨m,hm⟩:=sizeT
  have h0:=wf64 h.1
  have h1:=wf64 h.2.1
  have h2:=wf64 h.2.2
  have e1:Tryz.prog.keyType 77=true:=by kernel_rfl
  have e2:Tryz.prog.cellsOf 77=3:=by kernel_rfl
  have e3:Tryz.prog.cellsOf 3=1:=by kernel_rfl
  unfold keyOf
  simp only [Tryz.underlying77]
  rw [if_pos (by simp [e1,Value.formed,Tryz.underlying77,e2,valR]),hm]
  unfold Program.keyLits
  simp [Tryz.underlying77,valR,Value.cells,e2,e3,Program.keyLits,Tryz.underlying3,h0,h1,h2]
theorem keyCore {x:Int × Int} (h:ok2 x):∃ kl,keyOf Tryz.prog 239 (val2 x)=some kl:=by
  obtain ⟨m,hm⟩:=sizeT
  have h0:=wf64 h.1
  have h1:=wf64 h.2
  have e1:Tryz.prog.keyType 239=true:=by kernel_rfl
  have e2:Tryz.prog.cellsOf 239=2:=by kernel_rfl
  have e3:Tryz.prog.cellsOf 3=1:=by kernel_rfl
  unfold keyOf
  simp only [Tryz.underlying239]
  rw [if_pos (by simp [e1,Value.formed,Tryz.underlying239,e2,val2]),hm]
  unfold Program.keyLits
  simp [Tryz.underlying239,val2,Value.cells,e2,e3,Program.keyLits,Tryz.underlying3,h0,h1]
theorem keyStart {x:Int × Int} (h:ok2 x):∃ kl,keyOf Tryz.prog 219 (val2 x)=some kl:=by
  obtain ⟨m,hm⟩:=sizeT
  have h0:=wf64 h.1
  have h1:=wf64 h.2
  have e1:Tryz.prog.keyType 219=true:=by kernel_rfl
  have e2:Tryz.prog.cellsOf 219=2:=by kernel_rfl
  have e3:Tryz.prog.cellsOf 3=1:=by kernel_rfl
  unfold keyOf
  simp only [Tryz.underlying219]
  rw [if_pos (by simp [e1,Value.formed,Tryz.underlying219,e2,val2]),hm]
  unfold Program.keyLits
  simp [Tryz.underlying219,val2,Value.cells,e2,e3,Program.keyLits,Tryz.underlying3,h0,h1]
theorem valR_inj {x y:Ir} (h:valR x=valR y):x=y:=by
  unfold valR at h
  simp at h
  exact ir_ext h.1 h.2.1 h.2.2
theorem val2_inj {x y:Int × Int} (h:val2 x=val2 y):x=y:=by
  unfold val2 at h
  simp at h
  exact Prod.ext h.1 h.2
def MapSet {α:Type} (k:TypeId) (val:α→Value) (b:Nat) (L:List α) (W:World):Prop :=
  ∃ D:DataW Unit,W.ownsMap Tryz.prog k unitElem b L.length D∧Maps.size D=L.length∧∀ kl,Maps.has D kl=true↔∃ x∈L,keyOf Tryz.prog k (val x)=some kl
theorem MapSet.made {α:Type} (k:TypeId) (val:α→Value) (W:World):MapSet k val W.heap.size [] (W.alloc (.map #[] 0)) :=
  ⟨.map [],World.ownsMap_made W _ _ _,rfl,fun kl=>by simp [Maps.has]⟩
theorem MapSet.lt {α:Type} {k:TypeId} {val:α→Value} {b:Nat} {L:List α} {W:World} (h:MapSet k val b L W):b<W.heap.size:=by
  obtain ⟨D,h,_⟩:=h; exact h.lt
theorem MapSet.kept {α:Type} {k:TypeId} {val:α→Value} {b:Nat} {L:List α} {W W':World} (h:MapSet k val b L W) (hb:W'.heap[b]?=W.heap[b]?):MapSet k val b L W':=by
  obtain ⟨D,⟨es,clock,h1,h2⟩,h3⟩:=h
  exact ⟨D,⟨es,clock,hb.trans h1,h2⟩,h3⟩
theorem MapSet.but {α:Type} {k:TypeId} {val:α→Value} {b:Nat} {L:List α} {W W':World} {D:Nat→Prop} (h:MapSet k val b L W) (hb:But D W W') (hd:¬ D b):MapSet k val b L W':=h.kept (hb.block b h.lt hd)
theorem MapSet.notCells {α:Type} {k:TypeId} {val:α→Value} {b:Nat} {L:List α} {W:World} (h:MapSet k val b L W):∀ off v,W.cell? ⟨b,off,none⟩≠some v:=by
  obtain ⟨D,⟨es,clock,h1,_⟩,_⟩:=h
  intro off v hv
  simp [World.cell?,h1] at hv
theorem MapSet.put {α:Type} [BEq α] [LawfulBEq α] {k:TypeId} {val:α→Value} {b:Nat} {L:List α} {D:DataW Unit} {W':World} (K:Keyed Tryz.prog k) {x:α} (hv:∀ y∈L,val x=val y→x=y) (ht:Tidy D) (hs:Maps.size D=L.length)
    (hh:∀ kl,Maps.has D kl=true↔∃ x∈L,keyOf Tryz.prog k (val x)=some kl) {kl:Lit} (hk:keyOf Tryz.prog k (val x)=some kl) (ho:W'.ownsMap Tryz.prog k unitElem b (L.length+1) (D.put kl (.agg []))) :
    Maps.has D kl=decide (x∈L)∧MapSet k val b (if x∈L then L else L++[x]) W':=by
  have h1:Maps.has D kl=decide (x∈L):=by
    rw [Bool.eq_iff_iff,decide_eq_true_eq,hh]
    constructor
    · rintro ⟨y,hy,hyk⟩
      rw [hv y hy (K.inj hk hyk)]; exact hy
    · intro hx; exact ⟨x,hx,hk⟩
  have h2:=size_put (k:=kl) ht (.agg [])
  rw [h1,hs] at h2
  have hlow:W'.ownsMap Tryz.prog k unitElem b (Maps.size (D.put kl (.agg []))) (D.put kl (.agg [])):=by
    obtain ⟨es,clock,k1,k2,k3,k4⟩:=ho
    refine ⟨es,clock,k1,k2,?_,k4⟩
    rw [k4]
    simp [Maps.size,length_sorted]
  have hkey:=K.key hk
  refine ⟨h1,D.put kl (.agg []),?_,?_,fun kl'=>?_⟩
  · rw [h2] at hlow
    split
    · rename_i hx; rw [if_pos (by simpa using hx)] at hlow; exact hlow
    · rename_i hx; rw [if_neg (by simpa using hx)] at hlow; simpa using hlow
  · rw [h2]; split
    · rename_i hx; rw [if_pos (by simpa using hx)]
    · rename_i hx; rw [if_neg (by simpa using hx)]; simp
  · by_cases e:kl'=kl
    · subst e
      rw [has_put_same ht.isMap hkey]
      simp only [true_iff]
      refine ⟨x,?_,hk⟩
      split
      · assumption
      · simp
    · rw [has_put_other e,hh]
      split
      · exact Iff.rfl
      · constructor
        · rintro ⟨y,hy,hyk⟩; exact ⟨y,by simp [hy],hyk⟩
        · rintro ⟨y,hy,hyk⟩
          rcases List.mem_append.1 hy with hy | hy
          · exact ⟨y,hy,hyk⟩
          · simp at hy; subst hy
            rw [hk] at hyk; cases hyk; exact absurd rfl e
theorem new_gt {m n:Nat} {b:Bool} (h:m=if b=true then n else n+1):decide ((m:Int) > (n:Int))=!b:=by
  cases b <;> simp at h <;> subst h <;> simp <;> omega
def NewP {α:Type} [BEq α] [LawfulBEq α] (k:TypeId) (val:α→Value) (b:Nat) (L:List α) (x:α) (w:World) (e:Ending) (w':World):Prop :=
  e=.returned (.bool (!decide (x∈L)))∧MapSet k val b (if x∈L then L else L++[x]) w'∧But (fun k=>k=b) w w'
theorem newP_of {α:Type} [BEq α] [LawfulBEq α] {k:TypeId} {val:α→Value} {b:Nat} {L:List α} {x:α} {w W1 w1:World} {e:Ending} {D D2:DataW Unit} {kl:Lit} (B1:But (fun k=>k=b) w W1) (hg1:W1.grownBy w1 (some b)) (hP:Maps.has D kl=decide (x∈L)∧MapSet k val b (if x∈L then L else L++[x]) w1)
    (hZ:Maps.size D2=if Maps.has D kl=true then Maps.size D else Maps.size D+1) (he:e=.returned (.bool (decide ((Maps.size D2:Int) > (Maps.size D:Int))))):NewP k val b L x w e w1:=by
  refine ⟨?_,hP.2,⟨hg1.os.trans B1.os,hg1.tape.trans B1.tape,hg1.output.trans B1.output,Nat.le_trans B1.size hg1.size,fun k hk' hd=>(hg1.block k (Nat.lt_of_lt_of_le hk' B1.size) (fun e=>hd (by cases e; rfl))).trans (B1.block k hk' hd)⟩⟩
  have:=new_gt hZ
  rw [hP.1] at this
  rw [he,this]
def byte2 (x:Int):List UInt8:=[UInt8.ofNat (x.toNat / 256),UInt8.ofNat x.toNat]
def keyI (x:Ir):List UInt8:=byte2 (x.1+1)++[UInt8.ofNat x.2.1.toNat]++byte2 x.2.2
def keyK (K:List Ir):ByteArray:=⟨(K.flatMap keyI).toArray⟩
def valK (K:List Ir):Value:=.string (keyK K)
set_option maxRecDepth 100000 in
set_option maxHeartbeats 1000000 in
theorem isNewR_any (b:Nat) (L:List Ir) (x:Ir) (w:World) (hM:MapSet 77 valR b L w) (h:okR x) (hl:L.length<100000000) :
    Calls Tryz.prog 156 #[.map (some b),valR x] w fun e w'=>NewP 77 valR b L x w e w':=by
  obtain ⟨kl,hk⟩:=keyLr h
  obtain ⟨D,ho,hs,hh⟩:=hM
  have ht:=ho.tidy lawLr
  have HP:Hid (∀ W',W'.ownsMap Tryz.prog 77 unitElem b (L.length+1) (D.put kl (.agg []))→Maps.has D kl=decide (x∈L)∧MapSet 77 valR b (if x∈L then L else L++[x]) W'):=fun W' h'=>MapSet.put lawLr (fun _ _=>valR_inj) ht hs hh hk h'
  have HSZ:Hid (Maps.size (D.put kl (.agg []))=if Maps.has D kl=true then Maps.size D else Maps.size D+1):=size_put (k:=kl) ht (.agg [])
  clear hs hh ht
  have ho1:=ho.alloc (Obj.cells #[.int .i64 x.1,.int .i64 x.2.1,.int .i64 x.2.2] 77)
  have B1:But (fun k=>k=b) w (w.alloc (Obj.cells #[.int .i64 x.1,.int .i64 x.2.1,.int .i64 x.2.2] 77)):=But.of_next ((Below.refl _ _).alloc (Nat.le_refl _) _)
  clear ho
  have hk2:keyOf Tryz.prog 77 (.agg #[.int .i64 x.1,.int .i64 x.2.1,.int .i64 x.2.2])=some kl:=hk
  show Calls Tryz.prog 156 #[.map (some b),.agg #[.int .i64 x.1,.int .i64 x.2.1,.int .i64 x.2.2]] w _
  clear hk h
  go_enter Tryz.func156,Tryz.ntmps156
  go_wp2_with (first
    | (at_len; first
        | refine wpList_len_own _ rfl _ 210 rfl 77 190 Tryz.underlying210 _ b _ _ rfl ho2 ?_
        | refine wpList_len_own _ rfl _ 210 rfl 77 190 Tryz.underlying210 _ b _ _ rfl ho1 ?_)
    | (at_mapUpdate; refine wpList_mapUpdate_own _ rfl _ _ _ 210 rfl 77 190 lawLr Tryz.underlying210 _ b L.length _ rfl ho1 (by unfold maxLen; omega) _ _ _ rfl rfl hk2 _ [] unitElem_mk ?_; intro w1 ho2 hg1))
  go_ret
  exact newP_of B1 hg1 (HP.out _ ho2) HSZ.out (ret_bool (by first | rfl | (simp; done)))
set_option maxRecDepth 100000 in
set_option maxHeartbeats 1000000 in
theorem isNewC_any (b:Nat) (L:List (Int × Int)) (x:(Int × Int)) (w:World) (hM:MapSet 239 val2 b L w) (h:ok2 x) (hl:L.length<100000000) :
    Calls Tryz.prog 176 #[.map (some b),val2 x] w fun e w'=>NewP 239 val2 b L x w e w':=by
  obtain ⟨kl,hk⟩:=keyCore h
  obtain ⟨D,ho,hs,hh⟩:=hM
  have ht:=ho.tidy lawCore
  have HP:Hid (∀ W',W'.ownsMap Tryz.prog 239 unitElem b (L.length+1) (D.put kl (.agg []))→Maps.has D kl=decide (x∈L)∧MapSet 239 val2 b (if x∈L then L else L++[x]) W'):=fun W' h'=>MapSet.put lawCore (fun _ _=>val2_inj) ht hs hh hk h'
  have HSZ:Hid (Maps.size (D.put kl (.agg []))=if Maps.has D kl=true then Maps.size D else Maps.size D+1):=size_put (k:=kl) ht (.agg [])
  clear hs hh ht
  have ho1:=ho.alloc (Obj.cells #[.int .i64 x.1,.int .i64 x.2] 239)
  have B1:But (fun k=>k=b) w (w.alloc (Obj.cells #[.int .i64 x.1,.int .i64 x.2] 239)):=But.of_next ((Below.refl _ _).alloc (Nat.le_refl _) _)
  clear ho
  have hk2:keyOf Tryz.prog 239 (.agg #[.int .i64 x.1,.int .i64 x.2])=some kl:=hk
  show Calls Tryz.prog 176 #[.map (some b),.agg #[.int .i64 x.1,.int .i64 x.2]] w _
  clear hk h
  go_enter Tryz.func176,Tryz.ntmps176
  go_wp2_with (first
    | (at_len; first
        | refine wpList_len_own _ rfl _ 211 rfl 239 190 Tryz.underlying211 _ b _ _ rfl ho2 ?_
        | refine wpList_len_own _ rfl _ 211 rfl 239 190 Tryz.underlying211 _ b _ _ rfl ho1 ?_)
    | (at_mapUpdate; refine wpList_mapUpdate_own _ rfl _ _ _ 211 rfl 239 190 lawCore Tryz.underlying211 _ b L.length _ rfl ho1 (by unfold maxLen; omega) _ _ _ rfl rfl hk2 _ [] unitElem_mk ?_; intro w1 ho2 hg1))
  go_ret
  exact newP_of B1 hg1 (HP.out _ ho2) HSZ.out (ret_bool (by first | rfl | (simp; done)))
set_option maxRecDepth 100000 in
set_option maxHeartbeats 1000000 in
theorem isNewS_any (b:Nat) (L:List (Int × Int)) (x:(Int × Int)) (w:World) (hM:MapSet 219 val2 b L w) (h:ok2 x) (hl:L.length<100000000) :
    Calls Tryz.prog 178 #[.map (some b),val2 x] w fun e w'=>NewP 219 val2 b L x w e w':=by
  obtain ⟨kl,hk⟩:=keyStart h
  obtain ⟨D,ho,hs,hh⟩:=hM
  have ht:=ho.tidy lawStart
  have HP:Hid (∀ W',W'.ownsMap Tryz.prog 219 unitElem b (L.length+1) (D.put kl (.agg []))→Maps.has D kl=decide (x∈L)∧MapSet 219 val2 b (if x∈L then L else L++[x]) W'):=fun W' h'=>MapSet.put lawStart (fun _ _=>val2_inj) ht hs hh hk h'
  have HSZ:Hid (Maps.size (D.put kl (.agg []))=if Maps.has D kl=true then Maps.size D else Maps.size D+1):=size_put (k:=kl) ht (.agg [])
  clear hs hh ht
  have ho1:=ho.alloc (Obj.cells #[.int .i64 x.1,.int .i64 x.2] 219)
  have B1:But (fun k=>k=b) w (w.alloc (Obj.cells #[.int .i64 x.1,.int .i64 x.2] 219)):=But.of_next ((Below.refl _ _).alloc (Nat.le_refl _) _)
  clear ho
  have hk2:keyOf Tryz.prog 219 (.agg #[.int .i64 x.1,.int .i64 x.2])=some kl:=hk
  show Calls Tryz.prog 178 #[.map (some b),.agg #[.int .i64 x.1,.int .i64 x.2]] w _
  clear hk h
  go_enter Tryz.func178,Tryz.ntmps178
  go_wp2_with (first
    | (at_len; first
        | refine wpList_len_own _ rfl _ 212 rfl 219 190 Tryz.underlying212 _ b _ _ rfl ho2 ?_
        | refine wpList_len_own _ rfl _ 212 rfl 219 190 Tryz.underlying212 _ b _ _ rfl ho1 ?_)
    | (at_mapUpdate; refine wpList_mapUpdate_own _ rfl _ _ _ 212 rfl 219 190 lawStart Tryz.underlying212 _ b L.length _ rfl ho1 (by unfold maxLen; omega) _ _ _ rfl rfl hk2 _ [] unitElem_mk ?_; intro w1 ho2 hg1))
  go_ret
  exact newP_of B1 hg1 (HP.out _ ho2) HSZ.out (ret_bool (by first | rfl | (simp; done)))
set_option maxRecDepth 100000 in
set_option maxHeartbeats 1000000 in
theorem isNewT_any (b:Nat) (L:List (List Ir)) (x:(List Ir)) (w:World) (hM:MapSet 9 valK b L w) (h:(keyK x).size≤maxLen∧∀ y∈L,keyK x=keyK y→x=y) (hl:L.length<100000000) :
    Calls Tryz.prog 97 #[.map (some b),valK x] w fun e w'=>NewP 9 valK b L x w e w':=by
  obtain ⟨kl,hk⟩:=(⟨_,WideMaps.keyOf_string_mk Tryz.underlying9 h.1⟩:∃ kl,keyOf Tryz.prog 9 (valK x)=some kl)
  obtain ⟨D,ho,hs,hh⟩:=hM
  have ht:=ho.tidy lawStr
  have HP:Hid (∀ W',W'.ownsMap Tryz.prog 9 unitElem b (L.length+1) (D.put kl (.agg []))→Maps.has D kl=decide (x∈L)∧MapSet 9 valK b (if x∈L then L else L++[x]) W'):=fun W' h'=>MapSet.put lawStr (fun y hy e=>h.2 y hy (Value.string.inj e)) ht hs hh hk h'
  have HSZ:Hid (Maps.size (D.put kl (.agg []))=if Maps.has D kl=true then Maps.size D else Maps.size D+1):=size_put (k:=kl) ht (.agg [])
  clear hs hh ht
  have ho1:=ho
  have B1:But (fun k=>k=b) w w:=But.refl _ _
  clear ho
  have hk2:keyOf Tryz.prog 9 (.string (keyK x))=some kl:=hk
  show Calls Tryz.prog 97 #[.map (some b),.string (keyK x)] w _
  clear hk h
  go_enter Tryz.func97,Tryz.ntmps97
  go_wp2_with (first
    | (at_len; first
        | refine wpList_len_own _ rfl _ 154 rfl 9 190 Tryz.underlying154 _ b _ _ rfl ho2 ?_
        | refine wpList_len_own _ rfl _ 154 rfl 9 190 Tryz.underlying154 _ b _ _ rfl ho1 ?_)
    | (at_mapUpdate; refine wpList_mapUpdate_own _ rfl _ _ _ 154 rfl 9 190 lawStr Tryz.underlying154 _ b L.length _ rfl ho1 (by unfold maxLen; omega) _ _ _ rfl rfl hk2 _ [] unitElem_mk ?_; intro w1 ho2 hg1))
  go_ret
  exact newP_of B1 hg1 (HP.out _ ho2) HSZ.out (ret_bool (by first | rfl | (simp; done)))
end Go.Proofs.YtbilbgjojdlobaaGreatDoor
namespace Go.Proofs.YtbilbgjojdlobaaGreatDoor
open Go.RowKit
set_option maxHeartbeats 400000 in
theorem highByte_any (n:Nat) (h:n<65536) (w:World):Calls Tryz.prog 132 #[.int .i64 n] w fun e w'=>e=.returned (.int .u8 ((n / 256:Nat):Int))∧w'=w:=by
  go_enter Tryz.func132,Tryz.ntmps132
  go_wp2_with fail
  go_ret
  exact ⟨by simp,rfl⟩
def encU8 (u:UInt8):Value:=.int .u8 (u.toNat:Int)
def OwnB (B:Nat) (l:List UInt8) (v:Value) (W:World):Prop:=W.ownsRow B 5 1 v l.length (l.map encU8)
def keyL (K:List Ir):List UInt8:=K.flatMap keyI
theorem keyL_take {K:List Ir} {j:Nat} (h:j<K.length):keyL (K.take (j+1))=keyL (K.take j)++keyI K[j]:=by
  unfold keyL
  rw [List.take_succ_eq_append_getElem h,List.flatMap_append]
  simp
theorem keyI_len (x:Ir):(keyI x).length=5:=rfl
theorem keyL_len:∀ (K:List Ir),(keyL K).length=5 * K.length
  | []=>rfl
  | x :: K=>by
    have:=keyL_len K
    unfold keyL at this ⊢
    rw [List.flatMap_cons,List.length_append,this,keyI_len,List.length_cons]
    omega
theorem new5 (W:World) (a0 a1 a2 a3 a4:Value) (ty:TypeId):∀ (i:Nat) (u:Value),[a0,a1,a2,a3,a4][i]?=some u→(W.alloc (Obj.cells #[a0,a1,a2,a3,a4] ty)).cell? ((⟨W.heap.size,0,none⟩:Addr).add i)=some u:=by
  intro i u hi
  rw [add_plain,Nat.zero_add]
  rcases i with _ | _ | _ | _ | _ | i <;> simp at hi <;> subst hi <;> simp
theorem infoU8:(Tryz.prog.info? 5).map (fun i=>(i.zero,i.size,i.bytes))=some (some (.int .u8 0),1,1):=by kernel_rfl
def KeyFit (x:Ir):Prop:=0≤x.1+1∧x.1+1≤400∧0≤x.2.1∧x.2.1≤64∧0≤x.2.2∧x.2.2≤600
theorem u8_of {q:Nat}:IntKind.u8.wrap (q:Int)=((UInt8.ofNat q).toNat:Int):=by
  simp [IntKind.wrap,IntKind.bits,IntKind.signed]
set_option maxRecDepth 100000 in
set_option maxHeartbeats 2000000 in
theorem keyOf_any (K:List Ir) (v:Value) (w:World) (hK:SlL K v w) (hf:∀ x∈K,KeyFit x) (hne:K≠[]) (hl:K.length≤20000000) :
    Calls Tryz.prog 98 #[v] w fun e w'=>e=.returned (valK K)∧Below w.heap.size w w':=by
  obtain ⟨i0,hi0,hz0,hz1,hz2⟩:=info_parts infoU8
  obtain ⟨la,lc,rfl,hI,_,_⟩:=hK
  have HI:Hid (∀ W,Below w.heap.size w W→IrsAt K la W):=fun W hb=>hI.next hb
  have HF:Hid (∀ x∈K,KeyFit x):=hf
  have hpos:0<K.length:=List.length_pos_iff.2 hne
  clear hI hf hne
  go_enter Tryz.func98,Tryz.ntmps98
  go_wp2_with fail
  go_loopw [3,8] (fun kv i wr=>∃ (j:Nat),i=.int .i64 j∧j≤K.length∧OwnB w.heap.size (keyL (K.take j)) kv wr∧Below w.heap.size w wr) (fun _ i _=>K.length - (intOf i).toNat)
  case atStart=>exact ⟨0,rfl,Nat.zero_le _,World.ownsRow_nil _ _ _ _,Below.refl _ _⟩
  case round =>
  obtain ⟨j,rfl,hj,hown,B1⟩:=hrel
  have hsz:=B1.size
  obtain ⟨ka,kc,rfl⟩:=slice_of_ownK hown
  have hkl:(keyL (K.take j)).length≤100000000:=by rw [keyL_len,List.length_take]; omega
  have htk:(K.take j).length≤20000000:=by rw [List.length_take]; omega
  by_cases hlt:j<K.length
  · obtain ⟨b,off,rfl,hbl,c0,c1,c2,hok⟩:=(HI.out _ B1).at (Below.refl _ _) hlt
    have hfx:=HF.out K[j] (by simp)
    have hT:=keyL_take hlt
    generalize K[j]=x at *
    obtain ⟨x0,x1,x2⟩:=x
    unfold KeyFit at hfx
    simp only at c0 c1 c2 hfx
    obtain ⟨d,rfl⟩:∃ d:Nat,x1=d:=⟨x1.toNat,by omega⟩
    obtain ⟨t,rfl⟩:∃ t:Nat,x2=t:=⟨x2.toNat,by omega⟩
    obtain ⟨q,hq⟩:∃ q:Nat,x0+1=q:=⟨(x0+1).toNat,by omega⟩
    obtain ⟨bq,hbq⟩:∃ bq:Int,((UInt8.ofNat q).toNat:Int)=bq:=⟨_,rfl⟩
    obtain ⟨bt,hbt⟩:∃ bt:Int,((UInt8.ofNat t).toNat:Int)=bt:=⟨_,rfl⟩
    obtain ⟨z1,hz1'⟩:∃ z:Int,((q / 256:Nat):Int)=z:=⟨_,rfl⟩
    obtain ⟨z2,hz2'⟩:∃ z:Int,((t / 256:Nat):Int)=z:=⟨_,rfl⟩
    have hwq:IntKind.u8.wrap (q:Int)=bq:=u8_of.trans hbq
    have hwt:IntKind.u8.wrap (t:Int)=bt:=u8_of.trans hbt
    have hwd:IntKind.u8.wrap (d:Int)=d:=u8_of.trans (by simp; omega)
    have hwi:IntKind.i64.wrap (x0+1)=(q:Int):=by rw [← hq]; exact IntWalk.i64_in _ (by omega)
    have HKY:Hid ((keyI (x0,(d:Int),(t:Int))).map encU8=[.int .u8 z1,.int .u8 bq,.int .u8 d,.int .u8 z2,.int .u8 bt]):=by
      show _=_
      unfold keyI byte2
      simp only [hq,Int.toNat_natCast,List.map_append,List.map_cons,List.map_nil,encU8,← hbq,← hbt,← hz1',← hz2']
      have e1:(UInt8.ofNat (q / 256)).toNat=q / 256:=by simp; omega
      have e2:(UInt8.ofNat d).toNat=d:=by simp; omega
      have e3:(UInt8.ofNat (t / 256)).toNat=t / 256:=by simp; omega
      rw [e1,e2,e3]
      rfl
    have HT:Hid (keyL (K.take (j+1))=keyL (K.take j)++keyI (x0,(d:Int),(t:Int))):=hT
    have Bx:Below wr.heap.size wr (wr.alloc (Obj.cells #[.int .i64 x0,.int .i64 d,.int .i64 t] 77)):=(Below.refl _ _).alloc (Nat.le_refl _) _
    have X0:=RBox.new (x0,(d:Int),(t:Int)) 77 wr
    have hq4:q≤400:=by omega
    have ht6:t≤600:=by omega
    have hd6:d≤64:=by omega
    generalize keyL (K.take j)=kl at *
    have HOW:Hid (OwnB w.heap.size kl (.slice ka kl.length kc) wr):=hown
    clear hT hown hfx hbq hbt hq
    go_wp2_with fail
    generalize wr.alloc (Obj.cells #[.int .i64 x0,.int .i64 d,.int .i64 t] 77)=wb at *
    obtain ⟨hxl,y0,y1,y2⟩:=X0
    simp only at y0 y1 y2
    have HS0:(wb.drew.cell? ⟨wr.heap.size,0,none⟩=some (.int .i64 x0)∧wb.drew.cell? ⟨wr.heap.size,1,none⟩=some (.int .i64 d)∧wb.drew.cell? ⟨wr.heap.size,2,none⟩=some (.int .i64 t)):=⟨y0,y1,y2⟩
    have hH1:=highByte_any q (by omega) wb.drew
    have hH2:=highByte_any t (by omega) wb.drew
    rw [hz1'] at hH1
    rw [hz2'] at hH2
    clear hz1' hz2'
    have Bn:Below wb.heap.size wb (wb.drew.alloc (Obj.cells #[.int .u8 z1,.int .u8 bq,.int .u8 d,.int .u8 z2,.int .u8 bt] 5)):=(Below.refl _ _).drew.alloc (Nat.le_refl _) _
    have HSI:Hid (∀ W,Below wb.heap.size wb W→(W.cell? ⟨wr.heap.size,0,none⟩=some (.int .i64 x0)∧W.cell? ⟨wr.heap.size,1,none⟩=some (.int .i64 d)∧W.cell? ⟨wr.heap.size,2,none⟩=some (.int .i64 t))):=fun W hb=>⟨(hb.cell (p:=⟨wr.heap.size,0,none⟩) hxl).trans y0,(hb.cell (p:=⟨wr.heap.size,1,none⟩) hxl).trans y1,(hb.cell (p:=⟨wr.heap.size,2,none⟩) hxl).trans y2⟩
    have HON:Hid ((wb.drew.alloc (Obj.cells #[.int .u8 z1,.int .u8 bq,.int .u8 d,.int .u8 z2,.int .u8 bt] 5)).ownsRow w.heap.size 5 1 (.slice ka kl.length kc) kl.length (kl.map encU8)):=ownsRow_next (ownsRow_next (show wr.ownsRow w.heap.size 5 1 (.slice ka kl.length kc) kl.length (kl.map encU8) from HOW.out) Bx) Bn
    have HOB:Hid (∀ k,(Value.slice ka kl.length kc).ownBlock=some k→w.heap.size≤k∧k<wr.heap.size):=fun k e=>World.ownsRow.lt HOW.out k e
    have hszn:w.heap.size≤(wb.drew.alloc (Obj.cells #[.int .u8 z1,.int .u8 bq,.int .u8 d,.int .u8 z2,.int .u8 bt] 5)).heap.size:=Nat.le_trans hsz (Nat.le_trans Bx.size Bn.size)
    have HNW:Hid (∀ (i:Nat) (u:Value),[Value.int .u8 z1,.int .u8 bq,.int .u8 d,.int .u8 z2,.int .u8 bt][i]?=some u→(wb.drew.alloc (Obj.cells #[.int .u8 z1,.int .u8 bq,.int .u8 d,.int .u8 z2,.int .u8 bt] 5)).cell? ((⟨wb.heap.size,0,none⟩:Addr).add i)=some u):=new5 wb.drew _ _ _ _ _ _
    have B3:Below w.heap.size w (wb.drew.alloc (Obj.cells #[.int .u8 z1,.int .u8 bq,.int .u8 d,.int .u8 z2,.int .u8 bt] 5)):=(B1.trans (Bx.mono hsz)).trans (Bn.mono (Nat.le_trans hsz Bx.size))
    have hSn:=HSI.out _ Bn
    clear HOW
    refine wp_region_L (fun W=>W.cell? ⟨wr.heap.size,0,none⟩=some (.int .i64 x0)∧W.cell? ⟨wr.heap.size,1,none⟩=some (.int .i64 d)∧W.cell? ⟨wr.heap.size,2,none⟩=some (.int .i64 t)) 20 (by kernel_rfl) 21 rfl ?_
    refine tk 0 ⟨some 12,.move (.tmp 3),98, "all.go:52",#[],none⟩ HS0 ?_;simp only [Act.put,sA,s0,sS]
    refine tk 1 ⟨some 13,.fieldAddr 77 (.tmp 5) 0,0, "all.go:52",#[],none⟩ HS0 ?_;simp only [Act.put,sA,s0,sS]
    refine tk 2 ⟨some 14,.load 3 (.tmp 13),3, "all.go:52",#[⟨1,.data⟩],none⟩ HS0 ?_;simp only [Act.put,sA,s0,sS]
    refine tk 3 ⟨some 15,.binOp .add 3 (.tmp 14) (.const (.int .i64 1)) 3,3, "all.go:52",#[⟨2,.data⟩],none⟩ HS0 ?_;simp only [Act.put,sA,s0,sS]
    refine tk 5 ⟨some 17,.fieldAddr 77 (.tmp 5) 0,0, "all.go:52",#[],none⟩ HS0 ?_;simp only [Act.put,sA,s0,sS]
    refine tk 6 ⟨some 18,.load 3 (.tmp 17),3, "all.go:52",#[⟨5,.data⟩],none⟩ HS0 ?_;simp only [Act.put,sA,s0,sS]
    refine tk 7 ⟨some 19,.binOp .add 3 (.tmp 18) (.const (.int .i64 1)) 3,3, "all.go:52",#[⟨6,.data⟩],none⟩ HS0 ?_;simp only [Act.put,sA,s0,sS]
    refine tk 8 ⟨some 20,.convert 3 5 (.tmp 19),5, "all.go:52",#[⟨7,.data⟩],none⟩ HS0 ?_;simp only [Act.put,sA,s0,sS]
    refine tk 9 ⟨some 21,.fieldAddr 77 (.tmp 5) 1,0, "all.go:52",#[],none⟩ HS0 ?_;simp only [Act.put,sA,s0,sS]
    refine tk 10 ⟨some 22,.load 3 (.tmp 21),3, "all.go:52",#[⟨9,.data⟩],none⟩ HS0 ?_;simp only [Act.put,sA,s0,sS]
    refine tk 11 ⟨some 23,.convert 3 5 (.tmp 22),5, "all.go:52",#[⟨10,.data⟩],none⟩ HS0 ?_;simp only [Act.put,sA,s0,sS]
    refine tk 12 ⟨some 24,.fieldAddr 77 (.tmp 5) 2,0, "all.go:52",#[],none⟩ HS0 ?_;simp only [Act.put,sA,s0,sS]
    refine tk 13 ⟨some 25,.load 3 (.tmp 24),3, "all.go:52",#[⟨12,.data⟩],none⟩ HS0 ?_;simp only [Act.put,sA,s0,sS]
    refine tk 15 ⟨some 27,.fieldAddr 77 (.tmp 5) 2,0, "all.go:52",#[],none⟩ HS0 ?_;simp only [Act.put,sA,s0,sS]
    refine tk 16 ⟨some 28,.load 3 (.tmp 27),3, "all.go:52",#[⟨15,.data⟩],none⟩ HS0 ?_;simp only [Act.put,sA,s0,sS]
    refine tk 17 ⟨some 29,.convert 3 5 (.tmp 28),5, "all.go:52",#[⟨16,.data⟩],none⟩ HS0 ?_;simp only [Act.put,sA,s0,sS]
    refine wpAnyL_one' (i:=4) (o:=⟨some 16,.call ⟨.value (.func 132),#[.tmp 15],#[3]⟩,5, "all.go:52",#[⟨3,.data⟩],none⟩) (by kernel_rfl) rfl rfl (fun K0 hK=>?_)
    go_simp
    refine hH1.mono ?_
    rintro e W2 ⟨rfl,rfl⟩
    refine hK.out _ _ (fun _=>HS0) ?_
    clear hK
    refine wpAnyL_one' (i:=14) (o:=⟨some 26,.call ⟨.value (.func 132),#[.tmp 25],#[3]⟩,5, "all.go:52",#[⟨13,.data⟩,⟨4,.chain⟩],none⟩) (by kernel_rfl) rfl rfl (fun K0 hK=>?_)
    go_simp
    refine hH2.mono ?_
    rintro e W2 ⟨rfl,rfl⟩
    refine hK.out _ _ (fun _=>HS0) ?_
    clear hK
    refine wpAnyL_one' (i:=18) (o:=⟨some 30,.buildSlice 98 5 #[(0,.tmp 16),(1,.tmp 20),(2,.tmp 23),(3,.tmp 26),(4,.tmp 29)],98, "all.go:52",#[⟨4,.data⟩,⟨8,.data⟩,⟨11,.data⟩,⟨14,.data⟩,⟨17,.data⟩],none⟩) (by kernel_rfl) rfl rfl (fun K0 hK=>?_)
    go_simp
    refine hK.out _ _ (fun _=>hSn) ?_
    clear hK
    refine wpAnyL_one' (i:=19) (o:=⟨some 31,.call ⟨.builtin .append,#[.tmp 12,.tmp 30],#[98,98]⟩,98, "all.go:52",#[⟨0,.data⟩,⟨18,.data⟩,⟨14,.chain⟩],none⟩) (by kernel_rfl) rfl rfl (fun K0 hK=>?_)
    rw [if_pos (by rfl)]
    refine wp_append_own _ (.tmp 12) (.tmp 30) 98 rfl w.heap.size 5 i0 _ 1 1 Tryz.underlying98 hi0 hz0 hz1 hz2 rfl (by decide) _ kl.length _ rfl HON.out ⟨wb.heap.size,0,none⟩ 5 5 [.int .u8 z1,.int .u8 bq,.int .u8 d,.int .u8 z2,.int .u8 bt] rfl rfl HNW.out (by simp [Value.oneCell']) (by unfold maxLen; omega) (by omega) hszn ?_
    intro v5 w5 hown5 hg5 _
    obtain ⟨a5,c5,rfl⟩:=slice_of_ownK hown5
    have hg5':(wb.drew.alloc (Obj.cells #[.int .u8 z1,.int .u8 bq,.int .u8 d,.int .u8 z2,.int .u8 bt] 5)).grownBy w5 (Value.slice ka kl.length kc).ownBlock:=hg5
    have B5:Below w.heap.size w w5:=B3.grown hg5' hszn (fun k e=>(HOB.out k e).1)
    have hS5:(w5.cell? ⟨wr.heap.size,0,none⟩=some (.int .i64 x0)∧w5.cell? ⟨wr.heap.size,1,none⟩=some (.int .i64 d)∧w5.cell? ⟨wr.heap.size,2,none⟩=some (.int .i64 t)):=by
      have kc':∀ {o:Nat} {u:Value},(wb.drew.alloc (Obj.cells #[.int .u8 z1,.int .u8 bq,.int .u8 d,.int .u8 z2,.int .u8 bt] 5)).cell? ⟨wr.heap.size,o,none⟩=some u→w5.cell? ⟨wr.heap.size,o,none⟩=some u:=fun {o u} hu=>(World.cell?_of_block (hg5'.block _ (World.block_lt_of_cell? _ _ hu) (fun e=>absurd (HOB.out _ e.symm).2 (Nat.lt_irrefl _)))).trans hu
      exact ⟨kc' hSn.1,kc' hSn.2.1,kc' hSn.2.2⟩
    have HO5:Hid (OwnB w.heap.size (keyL (K.take (j+1))) (.slice a5 (kl.length+5) c5) w5):=by
      show OwnB _ _ _ _
      unfold OwnB
      rw [HT.out,List.length_append,List.map_append,HKY.out]
      exact hown5
    refine hK.out _ _ (fun _=>hS5) ?_
    clear hK hown5 hg5
    simp only [Act.put,sA,s0,sS]
    refine wpAnyL_one' (i:=20) (o:=⟨some 3,.assign (.tmp 31),98, "all.go:52",#[⟨19,.data⟩,⟨19,.chain⟩,⟨0,.phase⟩,⟨1,.phase⟩,⟨2,.phase⟩,⟨3,.phase⟩,⟨4,.phase⟩,⟨5,.phase⟩,⟨6,.phase⟩,⟨7,.phase⟩,⟨8,.phase⟩,⟨9,.phase⟩,⟨10,.phase⟩,⟨11,.phase⟩,⟨12,.phase⟩,⟨13,.phase⟩,⟨14,.phase⟩,⟨15,.phase⟩,⟨16,.phase⟩,⟨17,.phase⟩,⟨18,.phase⟩,⟨19,.phase⟩],none⟩) (by kernel_rfl) rfl rfl (fun K0 hK=>?_)
    go_simp
    refine hK.out _ _ (fun h=>absurd h (by decide)) ?_
    clear hK
    refine wpAnyL_done (by kernel_rfl) ?_ _
    clear HSI HON HOB HNW HKY HT hS5 hSn HS0 hH1 hH2 hg5' B3 Bn Bx
    go_wp2_with fail
    exact ⟨⟨j+1,by go_num,by omega,HO5.out,B5⟩,by simp [intOf]; omega⟩
  · obtain rfl:j=K.length:=by omega
    rw [List.take_of_length_le (Nat.le_refl _)] at *
    have hk5:0<(keyL K).length:=by rw [keyL_len]; omega
    have HCV:Hid ((convert 98 9 (.slice ka (keyL K).length kc)).run Tryz.prog wr=.ok (valK K) wr):=by
      obtain ⟨h1,h2⟩:=hown
      rcases h2 with ⟨e,hn⟩ | ⟨g,cap,cur,e,hB,hg,h3⟩
      · omega
      · cases e
        refine run_convert_bytes_back wr _ _ 5 ⟨g,0,none⟩ kc (keyL K) Tryz.underlying98 Tryz.underlying5 Tryz.underlying9 (fun i hi=>?_)
        exact World.ownsRow.cells (show wr.ownsRow _ _ _ _ _ _ from ⟨h1,.inr ⟨g,_,cur,rfl,hB,hg,h3⟩⟩) (g:=g) rfl i _ (by simp [hi,encU8])
    clear hown hkl hk5
    go_wp2_with fail
    rw [HCV.out]
    simp only [Result.andThen]
    go_wp2_with fail
    go_ret
    exact ⟨rfl,B1⟩
structure Ac where
  look:Int
  to:Int
  red:List Int
  acc:Bool
deriving DecidableEq
structure Rw where
  acts:List Ac
  goes:List (Int × Int)
deriving DecidableEq
def AcsAt (l:List Ac) (ao:Option Addr) (W:World):Prop :=
  ∀ (i:Nat) (x:Ac),l[i]?=some x→∃ b off v,ao=some ⟨b,off,none⟩∧b<W.heap.size∧W.cell? ⟨b,off+i * 4,none⟩=some (.int .i64 x.look)∧W.cell? ⟨b,off+i * 4+1,none⟩=some (.int .i64 x.to)∧W.cell? ⟨b,off+i * 4+2,none⟩=some v∧W.cell? ⟨b,off+i * 4+3,none⟩=some (.bool x.acc)∧SlI x.red v W∧i64B x.look∧i64B x.to∧x.red.length≤140737488351232
theorem AcsAt.next {l:List Ac} {ao:Option Addr} {W W':World} (h:AcsAt l ao W) (hb:Below W.heap.size W W'):AcsAt l ao W':=fun i r hr=>by
  obtain ⟨b,off,v,h0,h1,h2,h3,h4,h5,h6,h7⟩:=h i r hr
  exact ⟨b,off,v,h0,Nat.lt_of_lt_of_le h1 hb.size,(hb.cell (p:=⟨b,off+i * 4,none⟩) h1).trans h2,(hb.cell (p:=⟨b,off+i * 4+1,none⟩) h1).trans h3,(hb.cell (p:=⟨b,off+i * 4+2,none⟩) h1).trans h4,(hb.cell (p:=⟨b,off+i * 4+3,none⟩) h1).trans h5,h6.next hb,h7⟩
theorem AcsAt.at {l:List Ac} {ao:Option Addr} {w W:World} (h:AcsAt l ao w) (hb:Below w.heap.size w W) {j:Nat} (hj:j<l.length) :
    ∃ b off v,ao=some ⟨b,off,none⟩∧b<W.heap.size∧W.cell? ⟨b,off+j * 4,none⟩=some (.int .i64 l[j].look)∧W.cell? ⟨b,off+j * 4+1,none⟩=some (.int .i64 l[j].to)∧W.cell? ⟨b,off+j * 4+2,none⟩=some v∧W.cell? ⟨b,off+j * 4+3,none⟩=some (.bool l[j].acc)∧SlI l[j].red v W∧i64B l[j].look∧i64B l[j].to∧l[j].red.length≤140737488351232:=h.next hb j l[j] (by simp [hj])
def SlA (l:List Ac) (v:Value) (W:World):Prop :=
  ∃ ao cap,v=.slice ao l.length cap∧AcsAt l ao W∧(ao=none→cap=0)∧l.length≤cap∧l.length≤140737488351232
theorem SlA.next {l:List Ac} {v:Value} {W W':World} (h:SlA l v W) (hb:Below W.heap.size W W'):SlA l v W':=by
  obtain ⟨ao,cap,h0,h1,h2⟩:=h
  exact ⟨ao,cap,h0,h1.next hb,h2⟩
theorem SlA.nil (W:World):SlA [] (.slice none 0 0) W:=⟨none,0,rfl,fun i r hr=>by simp at hr,fun _=>rfl,Nat.le_refl _,Nat.zero_le _⟩
def GosAt (l:List (Int × Int)) (ao:Option Addr) (W:World):Prop :=
  ∀ (i:Nat) (x:Int × Int),l[i]?=some x→∃ b off,ao=some ⟨b,off,none⟩∧b<W.heap.size∧W.cell? ⟨b,off+i * 2,none⟩=some (.int .i64 x.1)∧W.cell? ⟨b,off+i * 2+1,none⟩=some (.int .i64 x.2)∧i64B x.1∧i64B x.2
theorem GosAt.next {l:List (Int × Int)} {ao:Option Addr} {W W':World} (h:GosAt l ao W) (hb:Below W.heap.size W W'):GosAt l ao W':=fun i r hr=>by
  obtain ⟨b,off,h0,h1,h2,h3,h4⟩:=h i r hr
  exact ⟨b,off,h0,Nat.lt_of_lt_of_le h1 hb.size,(hb.cell (p:=⟨b,off+i * 2,none⟩) h1).trans h2,(hb.cell (p:=⟨b,off+i * 2+1,none⟩) h1).trans h3,h4⟩
theorem GosAt.at {l:List (Int × Int)} {ao:Option Addr} {w W:World} (h:GosAt l ao w) (hb:Below w.heap.size w W) {j:Nat} (hj:j<l.length) :
    ∃ b off,ao=some ⟨b,off,none⟩∧b<W.heap.size∧W.cell? ⟨b,off+j * 2,none⟩=some (.int .i64 l[j].1)∧W.cell? ⟨b,off+j * 2+1,none⟩=some (.int .i64 l[j].2)∧i64B l[j].1∧i64B l[j].2:=h.next hb j l[j] (by simp [hj])
def SlG (l:List (Int × Int)) (v:Value) (W:World):Prop :=
  ∃ ao cap,v=.slice ao l.length cap∧GosAt l ao W∧(ao=none→cap=0)∧l.length≤cap∧l.length≤140737488351232
theorem SlG.next {l:List (Int × Int)} {v:Value} {W W':World} (h:SlG l v W) (hb:Below W.heap.size W W'):SlG l v W':=by
  obtain ⟨ao,cap,h0,h1,h2⟩:=h
  exact ⟨ao,cap,h0,h1.next hb,h2⟩
theorem SlG.nil (W:World):SlG [] (.slice none 0 0) W:=⟨none,0,rfl,fun i r hr=>by simp at hr,fun _=>rfl,Nat.le_refl _,Nat.zero_le _⟩
def RwsAt (l:List Rw) (ao:Option Addr) (W:World):Prop :=
  ∀ (i:Nat) (x:Rw),l[i]?=some x→∃ b off va vg,ao=some ⟨b,off,none⟩∧b<W.heap.size∧W.cell? ⟨b,off+i * 2,none⟩=some va∧W.cell? ⟨b,off+i * 2+1,none⟩=some vg∧SlA x.acts va W∧SlG x.goes vg W
theorem RwsAt.next {l:List Rw} {ao:Option Addr} {W W':World} (h:RwsAt l ao W) (hb:Below W.heap.size W W'):RwsAt l ao W':=fun i r hr=>by
  obtain ⟨b,off,va,vg,h0,h1,h2,h3,h4,h5⟩:=h i r hr
  exact ⟨b,off,va,vg,h0,Nat.lt_of_lt_of_le h1 hb.size,(hb.cell (p:=⟨b,off+i * 2,none⟩) h1).trans h2,(hb.cell (p:=⟨b,off+i * 2+1,none⟩) h1).trans h3,h4.next hb,h5.next hb⟩
theorem RwsAt.at {l:List Rw} {ao:Option Addr} {w W:World} (h:RwsAt l ao w) (hb:Below w.heap.size w W) {j:Nat} (hj:j<l.length) :
    ∃ b off va vg,ao=some ⟨b,off,none⟩∧b<W.heap.size∧W.cell? ⟨b,off+j * 2,none⟩=some va∧W.cell? ⟨b,off+j * 2+1,none⟩=some vg∧SlA l[j].acts va W∧SlG l[j].goes vg W:=h.next hb j l[j] (by simp [hj])
def SlW (l:List Rw) (v:Value) (W:World):Prop :=
  ∃ ao cap,v=.slice ao l.length cap∧RwsAt l ao W∧(ao=none→cap=0)∧l.length≤cap∧l.length≤140737488351232
theorem SlW.next {l:List Rw} {v:Value} {W W':World} (h:SlW l v W) (hb:Below W.heap.size W W'):SlW l v W':=by
  obtain ⟨ao,cap,h0,h1,h2⟩:=h
  exact ⟨ao,cap,h0,h1.next hb,h2⟩
theorem SlW.nil (W:World):SlW [] (.slice none 0 0) W:=⟨none,0,rfl,fun i r hr=>by simp at hr,fun _=>rfl,Nat.le_refl _,Nat.zero_le _⟩
def tornA (a:Ac):Bool:=match a.red with
  | []=>false
  | [_]=>a.to != -1 || a.acc
  | _=>true
def tornRow (n:Int) (l:List Ac):List (Int × Int):=(l.filter tornA).map fun a=>(n,a.look)
def tornL (l:List Rw):List (Int × Int):=(l.zipIdx).flatMap fun p=>tornRow p.2 p.1.acts
theorem tornRow_succ {n:Int} {l:List Ac} {k:Nat} (hk:k<l.length):tornRow n (l.take (k+1))=tornRow n (l.take k)++(if tornA l[k] then [(n,l[k].look)] else []):=by
  unfold tornRow
  rw [List.take_succ_eq_append_getElem hk,List.filter_append,List.map_append]
  congr 1
  by_cases h:tornA l[k] <;> simp [h]
theorem tornL_succ {l:List Rw} {k:Nat} (hk:k<l.length):tornL (l.take (k+1))=tornL (l.take k)++tornRow k l[k].acts:=by
  unfold tornL
  rw [List.take_succ_eq_append_getElem hk,List.zipIdx_append,List.flatMap_append]
  simp [Nat.min_eq_left (Nat.le_of_lt hk)]
def sizeA (l:List Ac):Nat:=(l.map fun a=>1+a.red.length).sum
def sizeR (r:Rw):Nat:=1+r.goes.length+sizeA r.acts
def sizeTb (l:List Rw):Nat:=(l.map sizeR).sum
theorem sizeA_succ {l:List Ac} {k:Nat} (hk:k<l.length):sizeA (l.take (k+1))=sizeA (l.take k)+(1+l[k].red.length):=by
  unfold sizeA
  rw [List.take_succ_eq_append_getElem hk,List.map_append,List.sum_append]
  simp
theorem sizeTb_succ {l:List Rw} {k:Nat} (hk:k<l.length):sizeTb (l.take (k+1))=sizeTb (l.take k)+sizeR l[k]:=by
  unfold sizeTb
  rw [List.take_succ_eq_append_getElem hk,List.map_append,List.sum_append]
  simp
theorem sum_take_le (l:List Nat) (k:Nat):(l.take k).sum≤l.sum:=by
  conv=>rhs; rw [← List.take_append_drop k l,List.sum_append]
  omega
theorem sizeA_le (l:List Ac) (k:Nat):sizeA (l.take k)≤sizeA l:=by
  unfold sizeA; rw [List.map_take]; exact sum_take_le _ _
theorem sizeTb_le (l:List Rw) (k:Nat):sizeTb (l.take k)≤sizeTb l:=by
  unfold sizeTb; rw [List.map_take]; exact sum_take_le _ _
structure Wr where
  bs:List UInt8
  bad:Bool
structure WsAt (B g:Nat) (L:List Wr) (W:World):Prop where
  hB:B≤g
  blk:∃ cs:Array Value,W.heap[g]?=some (.cells cs 102 (0,0))∧cs.size=L.length * 3
  ptr:∀ i x,L[i]?=some x→W.cell? ⟨g,i * 3,none⟩=some (.pointer none)∨W.cell? ⟨g,i * 3,none⟩=some (.pointer (some ⟨g,i * 3,none⟩))
  buf:∀ i x,L[i]?=some x→∃ v,W.cell? ⟨g,i * 3+1,none⟩=some v∧OwnB B x.bs v W
  bad:∀ i x,L[i]?=some x→W.cell? ⟨g,i * 3+2,none⟩=some (.bool x.bad)
  nil:∀ i x v,L[i]?=some x→x.bs=[]→W.cell? ⟨g,i * 3+1,none⟩=some v→v=.slice none 0 0
  apart:∀ i j u v k,i≠j→W.cell? ⟨g,i * 3+1,none⟩=some u→W.cell? ⟨g,j * 3+1,none⟩=some v→u.ownBlock=some k→v.ownBlock=some k→False
def inW (g:Nat) (W:World) (k:Nat):Prop:=k=g∨∃ i v,W.cell? ⟨g,i * 3+1,none⟩=some v∧v.ownBlock=some k
def Wrote (g:Nat) (W W':World):Prop:=But (inW g W) W W'∧∀ k,inW g W' k→inW g W k∨W.heap.size≤k
theorem Wrote.refl (g:Nat) (W:World):Wrote g W W:=⟨But.refl _ _,fun _ h=>.inl h⟩
theorem Wrote.trans {g:Nat} {a b c:World} (h:Wrote g a b) (k:Wrote g b c):Wrote g a c :=
  ⟨⟨k.1.os.trans h.1.os,k.1.tape.trans h.1.tape,k.1.output.trans h.1.output,Nat.le_trans h.1.size k.1.size,fun i hi hd=>(k.1.block i (Nat.lt_of_lt_of_le hi h.1.size) (fun hb=>(h.2 i hb).elim hd (by omega))).trans (h.1.block i hi hd)⟩,
   fun i hi=>(k.2 i hi).elim (h.2 i) (fun h'=>.inr (Nat.le_trans h.1.size h'))⟩
theorem inW_same {g:Nat} {W W':World} (h:W'.heap[g]?=W.heap[g]?) (k:Nat):inW g W' k↔inW g W k:=by
  unfold inW
  have e:∀ i,W'.cell? ⟨g,i * 3+1,none⟩=W.cell? ⟨g,i * 3+1,none⟩:=fun i=>World.cell?_of_block h
  simp only [e]
theorem ownsRow_keep {W W':World} {B n k:Nat} {e:TypeId} {v:Value} {xs:List Value} {D:Nat→Prop} (h:W.ownsRow B e k v n xs) (hb:But D W W') (hd:∀ j,v.ownBlock=some j→¬ D j):W'.ownsRow B e k v n xs:=by
  obtain ⟨h1,h2⟩:=h
  refine ⟨h1,?_⟩
  rcases h2 with ⟨rfl,hn⟩ | ⟨g,cap,cur,rfl,hB,hg,h3⟩
  · exact .inl ⟨rfl,hn⟩
  · exact .inr ⟨g,cap,cur,rfl,hB,(hb.block g (Array.getElem?_eq_some_iff.1 hg).1 (hd g rfl)).trans hg,h3⟩
theorem WsAt.lt {B g:Nat} {L:List Wr} {W:World} (h:WsAt B g L W):g<W.heap.size:=by
  obtain ⟨cs,hc,_⟩:=h.blk
  exact (Array.getElem?_eq_some_iff.1 hc).1
theorem WsAt.inLt {B g:Nat} {L:List Wr} {W:World} (h:WsAt B g L W) {k:Nat} (hk:inW g W k):B≤k∧k<W.heap.size:=by
  rcases hk with rfl | ⟨i,v,hv,hk⟩
  · exact ⟨h.hB,h.lt⟩
  · obtain ⟨cs,hc,hs⟩:=h.blk
    have hl:i<L.length:=by
      have e:=hv
      rw [Lib.cell_of_heap hc] at e
      have:=(Array.getElem?_eq_some_iff.1 e).1
      omega
    obtain ⟨u,hu,ho⟩:=h.buf i L[i] (by simp [hl])
    rw [hv] at hu
    cases hu
    exact World.ownsRow.lt ho k hk
theorem WsAt.keep {B g:Nat} {L:List Wr} {W W':World} {D:Nat→Prop} (h:WsAt B g L W) (hb:But D W W') (hd:∀ k,inW g W k→¬ D k):WsAt B g L W':=by
  have hg:W'.heap[g]?=W.heap[g]?:=hb.block g h.lt (hd g (.inl rfl))
  have e:∀ o,W'.cell? ⟨g,o,none⟩=W.cell? ⟨g,o,none⟩:=fun o=>World.cell?_of_block hg
  refine ⟨h.hB,by rw [hg]; exact h.blk,fun i x hx=>by rw [e]; exact h.ptr i x hx,fun i x hx=>?_,fun i x hx=>by rw [e]; exact h.bad i x hx,fun i x v hx hb hv=>by rw [e] at hv; exact h.nil i x v hx hb hv,fun i j u v k hij hu hv=>?_⟩
  · obtain ⟨v,hv,ho⟩:=h.buf i x hx
    exact ⟨v,by rw [e]; exact hv,ownsRow_keep ho hb (fun k hk=>hd k (.inr ⟨i,v,hv,hk⟩))⟩
  · rw [e] at hu hv; exact h.apart i j u v k hij hu hv
theorem WsAt.next {B g:Nat} {L:List Wr} {W W':World} (h:WsAt B g L W) (hb:Below W.heap.size W W'):WsAt B g L W' :=
  h.keep (D:=fun _=>False) (But.of_next hb) (fun _ _ h=>h)
theorem WsAt.wrote {B g:Nat} {L:List Wr} {W W':World} (h:WsAt B g L W) (hb:Below W.heap.size W W'):Wrote g W W' :=
  ⟨But.of_next hb,fun k hk=>.inl ((inW_same (hb.block g h.lt) k).1 hk)⟩
theorem WsAt.below {B g:Nat} {L:List Wr} {W W':World} (h:WsAt B g L W) (hw:Wrote g W W') (hB:B≤W.heap.size):Below B W W' :=
  hw.1.below hB (fun _ hk=>(h.inLt hk).1)
theorem cell_set_ne (W:World) (g o o':Nat) (v:Value) (h:o≠o'):(W.setCell ⟨g,o,none⟩ v).cell? ⟨g,o',none⟩=W.cell? ⟨g,o',none⟩:=by
  simp only [World.cell?,World.setCell,Array.getElem?_modify,if_true]
  cases W.heap[g]? with
  | none=>rfl
  | some ob=>cases ob <;> simp [h]
theorem blk_set {W:World} {g o:Nat} {cs:Array Value} {T:TypeId} (h:W.heap[g]?=some (.cells cs T (0,0))) (v:Value):(W.setCell ⟨g,o,none⟩ v).heap[g]?=some (.cells (cs.setIfInBounds o v) T (0,0)):=by
  simp [World.setCell,Array.getElem?_modify,h]
theorem cell_set_eq {W:World} {g o:Nat} {cs:Array Value} {T:TypeId} (h:W.heap[g]?=some (.cells cs T (0,0))) (ho:o<cs.size) (v:Value):(W.setCell ⟨g,o,none⟩ v).cell? ⟨g,o,none⟩=some v:=by
  rw [Lib.cell_of_heap (blk_set h v)]
  simp [ho]
theorem set_block (W:World) (g o k:Nat) (v:Value) (h:k≠g):(W.setCell ⟨g,o,none⟩ v).heap[k]?=W.heap[k]?:=by
  simp [World.setCell,Array.getElem?_modify,Ne.symm h]
theorem OwnB.set {B g o:Nat} {l:List UInt8} {v u:Value} {W:World} {cs:Array Value} (h:OwnB B l v W) (hg:W.heap[g]?=some (.cells cs 102 (0,0))):OwnB B l v (W.setCell ⟨g,o,none⟩ u):=by
  have hne:=Lib.ownBlock_ne h hg (by decide)
  exact ownsRow_keep (D:=fun k=>k=g) h ((But.refl _ W).setCell _ _ (.inr rfl)) (fun j hj e=>hne (by rw [hj,e]))
theorem WsAt.setPtr {B g i:Nat} {L:List Wr} {W:World} {x:Wr} (h:WsAt B g L W) (hx:L[i]?=some x) :
    WsAt B g L (W.setCell ⟨g,i * 3,none⟩ (.pointer (some ⟨g,i * 3,none⟩)))∧Wrote g W (W.setCell ⟨g,i * 3,none⟩ (.pointer (some ⟨g,i * 3,none⟩))):=by
  obtain ⟨cs,hc,hs⟩:=h.blk
  have hi:i<L.length:=(List.getElem?_eq_some_iff.1 hx).1
  refine ⟨⟨h.hB,⟨_,blk_set hc _,by simp [hs]⟩,fun j y hy=>?_,fun j y hy=>?_,fun j y hy=>?_,fun j y v hy hb hv=>by rw [cell_set_ne _ _ _ _ _ (by omega)] at hv; exact h.nil j y v hy hb hv,fun a b u v k hab hu hv=>?_⟩,(But.refl _ W).setCell _ _ (.inr (.inl rfl)),fun k hk=>.inl ?_⟩
  · by_cases hij:j=i
    · subst hij; exact .inr (cell_set_eq hc (by omega) _)
    · rw [cell_set_ne _ _ _ _ _ (by omega)]; exact h.ptr j y hy
  · obtain ⟨v,hv,ho⟩:=h.buf j y hy
    exact ⟨v,by rw [cell_set_ne _ _ _ _ _ (by omega)]; exact hv,ho.set hc⟩
  · rw [cell_set_ne _ _ _ _ _ (by omega)]; exact h.bad j y hy
  · rw [cell_set_ne _ _ _ _ _ (by omega)] at hu hv; exact h.apart a b u v k hab hu hv
  · rcases hk with rfl | ⟨j,v,hv,hk⟩
    · exact .inl rfl
    · rw [cell_set_ne _ _ _ _ _ (by omega)] at hv; exact .inr ⟨j,v,hv,hk⟩
theorem WsAt.setBad {B g i:Nat} {L:List Wr} {W:World} {x:Wr} (b:Bool) (h:WsAt B g L W) (hx:L[i]?=some x) :
    WsAt B g (L.set i ⟨x.bs,b⟩) (W.setCell ⟨g,i * 3+2,none⟩ (.bool b))∧Wrote g W (W.setCell ⟨g,i * 3+2,none⟩ (.bool b)):=by
  obtain ⟨cs,hc,hs⟩:=h.blk
  have hi:i<L.length:=(List.getElem?_eq_some_iff.1 hx).1
  have hg:∀ (j:Nat) (y:Wr),(L.set i ⟨x.bs,b⟩)[j]?=some y→(j=i∧y=⟨x.bs,b⟩)∨(j≠i∧L[j]?=some y):=fun j y hy=>by
    rw [List.getElem?_set] at hy
    by_cases hij:i=j
    · rw [if_pos hij,if_pos (by omega)] at hy; exact .inl ⟨hij.symm,by simpa using hy.symm⟩
    · rw [if_neg hij] at hy; exact .inr ⟨fun e=>hij e.symm,hy⟩
  refine ⟨⟨h.hB,⟨_,blk_set hc _,by simp [hs]⟩,fun j y hy=>?_,fun j y hy=>?_,fun j y hy=>?_,fun j y v hy hb hv=>?_,fun a c u v k hab hu hv=>?_⟩,(But.refl _ W).setCell _ _ (.inr (.inl rfl)),fun k hk=>.inl ?_⟩
  · rw [cell_set_ne _ _ _ _ _ (by omega)]
    rcases hg j y hy with ⟨rfl,rfl⟩ | ⟨_,hy'⟩
    · exact h.ptr _ x hx
    · exact h.ptr j y hy'
  · rw [cell_set_ne _ _ _ _ _ (by omega)]
    rcases hg j y hy with ⟨rfl,rfl⟩ | ⟨_,hy'⟩
    · obtain ⟨v,hv,ho⟩:=h.buf _ x hx
      exact ⟨v,hv,ho.set hc⟩
    · obtain ⟨v,hv,ho⟩:=h.buf j y hy'
      exact ⟨v,hv,ho.set hc⟩
  · rcases hg j y hy with ⟨rfl,rfl⟩ | ⟨hn,hy'⟩
    · exact cell_set_eq hc (by omega) _
    · rw [cell_set_ne _ _ _ _ _ (by omega)]; exact h.bad j y hy'
  · rw [cell_set_ne _ _ _ _ _ (by omega)] at hv
    rcases hg j y hy with ⟨rfl,rfl⟩ | ⟨_,hy'⟩
    · exact h.nil _ x v hx hb hv
    · exact h.nil j y v hy' hb hv
  · rw [cell_set_ne _ _ _ _ _ (by omega)] at hu hv; exact h.apart a c u v k hab hu hv
  · rcases hk with rfl | ⟨j,v,hv,hk⟩
    · exact .inl rfl
    · rw [cell_set_ne _ _ _ _ _ (by omega)] at hv; exact .inr ⟨j,v,hv,hk⟩
theorem WsAt.put {B g i:Nat} {L:List Wr} {W W1:World} {x:Wr} {v v':Value} {l:List UInt8} (h:WsAt B g L W) (hx:L[i]?=some x) (hv:W.cell? ⟨g,i * 3+1,none⟩=some v) (hgr:W.grownBy W1 v.ownBlock) (ho:OwnB B l v' W1)
    (hat:v'.ownBlock=v.ownBlock∨v'.ownBlock=some W.heap.size) (hl:l≠[]) :
    WsAt B g (L.set i ⟨l,x.bad⟩) (W1.setCell ⟨g,i * 3+1,none⟩ v')∧Wrote g W (W1.setCell ⟨g,i * 3+1,none⟩ v'):=by
  obtain ⟨cs,hc,hs⟩:=h.blk
  have hi:i<L.length:=(List.getElem?_eq_some_iff.1 hx).1
  obtain ⟨v0,hv0,ho0⟩:=h.buf i x hx
  obtain rfl:v=v0:=by rw [hv] at hv0; exact Option.some.inj hv0
  have hne:=Lib.ownBlock_ne ho0 hc (by decide)
  have hc1:W1.heap[g]?=some (.cells cs 102 (0,0)):=(hgr.block g h.lt (fun e=>hne e.symm)).trans hc
  have e1:∀ o,W1.cell? ⟨g,o,none⟩=W.cell? ⟨g,o,none⟩:=fun o=>World.cell?_of_block (hgr.block g h.lt (fun e=>hne e.symm))
  have hg:∀ (j:Nat) (y:Wr),(L.set i ⟨l,x.bad⟩)[j]?=some y→(j=i∧y=⟨l,x.bad⟩)∨(j≠i∧L[j]?=some y):=fun j y hy=>by
    rw [List.getElem?_set] at hy
    by_cases hij:i=j
    · rw [if_pos hij,if_pos (by omega)] at hy; exact .inl ⟨hij.symm,by simpa using hy.symm⟩
    · rw [if_neg hij] at hy; exact .inr ⟨fun e=>hij e.symm,hy⟩
  have hold:∀ (j:Nat) (u:Value) (k:Nat),W.cell? ⟨g,j * 3+1,none⟩=some u→u.ownBlock=some k→k<W.heap.size:=fun j u k hu hk=>(h.inLt (.inr ⟨j,u,hu,hk⟩)).2
  have hB1:But (inW g W) W (W1.setCell ⟨g,i * 3+1,none⟩ v'):=by
    refine But.setCell (D:=inW g W) ⟨hgr.os,hgr.tape,hgr.output,hgr.size,fun k hk hd=>hgr.block k hk (fun e=>hd (.inr ⟨i,v,hv,e.symm⟩))⟩ _ _ (.inr (.inl rfl))
  refine ⟨⟨h.hB,⟨_,blk_set hc1 _,by simp [hs]⟩,fun j y hy=>?_,fun j y hy=>?_,fun j y hy=>?_,fun j y q hy hb hq=>?_,fun a c p q k hab hu hv2 hp hq=>?_⟩,hB1,fun k hk=>?_⟩
  · rw [cell_set_ne _ _ _ _ _ (by omega),e1]
    rcases hg j y hy with ⟨rfl,rfl⟩ | ⟨_,hy'⟩
    · exact h.ptr _ x hx
    · exact h.ptr j y hy'
  · rcases hg j y hy with ⟨rfl,rfl⟩ | ⟨hn,hy'⟩
    · exact ⟨v',cell_set_eq hc1 (by omega) _,ho.set hc1⟩
    · obtain ⟨u,hu,hou⟩:=h.buf j y hy'
      refine ⟨u,by rw [cell_set_ne _ _ _ _ _ (by omega),e1]; exact hu,OwnB.set (World.ownsRow.kept hou hgr ?_) hc1⟩
      cases hub:u.ownBlock with
      | none=>exact .inl rfl
      | some k=>exact .inr (fun e=>h.apart i j v u k (fun e=>hn e.symm) hv hu e.symm hub)
  · rw [cell_set_ne _ _ _ _ _ (by omega),e1]
    rcases hg j y hy with ⟨rfl,rfl⟩ | ⟨_,hy'⟩
    · exact h.bad _ x hx
    · exact h.bad j y hy'
  · rcases hg j y hy with ⟨rfl,rfl⟩ | ⟨hn,hy'⟩
    · exact absurd hb hl
    · rw [cell_set_ne _ _ _ _ _ (by omega),e1] at hq
      exact h.nil j y q hy' hb hq
  · have hcase:∀ (a:Nat) (p:Value),(W1.setCell ⟨g,i * 3+1,none⟩ v').cell? ⟨g,a * 3+1,none⟩=some p→(a=i∧p=v')∨(a≠i∧W.cell? ⟨g,a * 3+1,none⟩=some p):=fun a p ha=>by
      by_cases hai:a=i
      · subst hai
        rw [cell_set_eq hc1 (by omega)] at ha
        exact .inl ⟨rfl,(Option.some.inj ha).symm⟩
      · rw [cell_set_ne _ _ _ _ _ (by omega),e1] at ha
        exact .inr ⟨hai,ha⟩
    rcases hcase a p hu with ⟨rfl,rfl⟩ | ⟨ha,hu'⟩
    · rcases hcase c q hv2 with ⟨rfl,rfl⟩ | ⟨hc',hv'⟩
      · exact hab rfl
      · rcases hat with e | e
        · exact h.apart _ c v q k hab hv hv' (by rw [← e]; exact hp) hq
        · rw [e] at hp; cases hp
          have:=hold c q _ hv' hq; omega
    · rcases hcase c q hv2 with ⟨rfl,rfl⟩ | ⟨hc',hv'⟩
      · rcases hat with e | e
        · exact h.apart a _ p v k hab hu' hv hp (by rw [← e]; exact hq)
        · rw [e] at hq; cases hq
          have:=hold a p _ hu' hp; omega
      · exact h.apart a c p q k hab hu' hv' hp hq
  · rcases hk with rfl | ⟨j,u,hu,hk⟩
    · exact .inl (.inl rfl)
    · by_cases hji:j=i
      · subst hji
        rw [cell_set_eq hc1 (by omega)] at hu
        cases hu
        rcases hat with e | e
        · exact .inl (.inr ⟨j,v,hv,by rw [← e]; exact hk⟩)
        · rw [e] at hk; cases hk; exact .inr (Nat.le_refl _)
      · rw [cell_set_ne _ _ _ _ _ (by omega),e1] at hu
        exact .inl (.inr ⟨j,u,hu,hk⟩)
theorem WsAt.one {B:Nat} (W:World) (hB:B≤W.heap.size):WsAt B W.heap.size [⟨[],false⟩] (W.alloc (.cells #[.pointer none,.slice none 0 0,.bool false] 102)):=by
  have hb:(W.alloc (.cells #[.pointer none,.slice none 0 0,.bool false] 102)).heap[W.heap.size]?=some (.cells #[.pointer none,.slice none 0 0,.bool false] 102 (0,0)):=heap_alloc_new W _
  have hz:∀ (i:Nat) (x:Wr),([⟨[],false⟩]:List Wr)[i]?=some x→i=0∧x=⟨[],false⟩:=fun i x hx=>by
    rcases i with _ | i
    · simp at hx; exact ⟨rfl,hx.symm⟩
    · simp at hx
  refine ⟨hB,⟨_,hb,rfl⟩,fun i x hx=>?_,fun i x hx=>?_,fun i x hx=>?_,fun i x v hx _ hv=>?_,fun i j u v k hij hu hv=>?_⟩
  · obtain ⟨rfl,rfl⟩:=hz i x hx
    exact .inl (by rw [Lib.cell_of_heap hb]; rfl)
  · obtain ⟨rfl,rfl⟩:=hz i x hx
    exact ⟨.slice none 0 0,by rw [Lib.cell_of_heap hb]; rfl,World.ownsRow_nil _ _ _ _⟩
  · obtain ⟨rfl,rfl⟩:=hz i x hx
    rw [Lib.cell_of_heap hb]; rfl
  · obtain ⟨rfl,rfl⟩:=hz i x hx
    rw [Lib.cell_of_heap hb] at hv
    exact (Option.some.inj hv).symm
  · rw [Lib.cell_of_heap hb] at hu hv
    have h1:=(Array.getElem?_eq_some_iff.1 hu).1
    have h2:=(Array.getElem?_eq_some_iff.1 hv).1
    simp at h1 h2
    omega
theorem below_box (w:World) (v:Value) (t:TypeId):Below w.heap.size w (w.alloc (Obj.cells #[v] t)):=(Below.refl _ _).alloc (Nat.le_refl _) _
set_option maxRecDepth 100000 in
set_option maxHeartbeats 1600000 in
theorem rlight12_any (l:List Rw) (v:Value) (w:World) (hl:SlW l v w) :
    Calls Tryz.prog 15 #[.agg #[v]] w fun e w'=>e=.returned (.bool (decide (sizeTb l≤20000)))∧Below w.heap.size w w':=by
  have HL:Hid (∀ W,Below w.heap.size w W→SlW l v W):=fun W hb=>hl.next hb
  obtain ⟨la,lc,rfl,_,_,_,hlb⟩:=hl
  have B0:=below_box w (.slice la l.length lc) 30
  have HT0:Hid (∀ W,Below (w.heap.size+1) (w.alloc (Obj.cells #[.slice la l.length lc] 30)) W→W.cell? ⟨w.heap.size,0,none⟩=some (.slice la l.length lc)):=fun W hb=>(hb.cell (p:=⟨w.heap.size,0,none⟩) (by simp)).trans (by simp)
  have hsz0:(w.alloc (Obj.cells #[.slice la l.length lc] 30)).heap.size=w.heap.size+1:=by simp
  go_enter Tryz.func15,Tryz.ntmps15
  go_wp2_with fail
  have HT:Hid (∀ W,Below (w.alloc (Obj.cells #[.slice la l.length lc] 30)).heap.size (w.alloc (Obj.cells #[.slice la l.length lc] 30)) W→W.cell? ⟨w.heap.size,0,none⟩=some (.slice la l.length lc)∧Below w.heap.size w W):=fun W hb=>⟨HT0.out W (hsz0 ▸ hb),below_then B0 hb B0.size⟩
  clear HT0 hsz0 B0
  generalize w.alloc (Obj.cells #[.slice la l.length lc] 30)=w0 at *
  go_loopw [3,4] (fun lv iv wr=>∃ (i:Nat) (left:Int),lv=.int .i64 left∧iv=.int .i64 i∧i≤l.length∧-400000000000000≤left∧left≤20000∧(0≤left→left=20000 - (sizeTb (l.take i):Int))∧(left<0→20000<sizeTb l)∧Below w0.heap.size w0 wr) (fun _ i _=>l.length - (intOf i).toNat)
  case atStart=>exact ⟨0,20000,rfl,rfl,Nat.zero_le _,by omega,by omega,fun _=>by simp [sizeTb],fun h=>by omega,Below.refl _ _⟩
  case round =>
  obtain ⟨i,left,rfl,rfl,hi,h1,h2,h3,h4,BR⟩:=hrel
  have HD:Hid (decide (sizeTb l≤20000)=decide (0≤left)∨(0≤left∧i<l.length)):=by
    by_cases h:0≤left
    · rcases Nat.lt_or_ge i l.length with hlt | hge
      · exact .inr ⟨h,hlt⟩
      · left
        have e:=h3 h
        rw [List.take_of_length_le hge] at e
        rw [decide_eq_true h]; exact decide_eq_true (by omega)
    · left
      have:=h4 (by omega)
      rw [decide_eq_false h]; exact decide_eq_false (by omega)
  obtain ⟨t0,BW⟩:=HT.out _ BR
  by_cases hgo:i<l.length∧0≤left
  case neg =>
    have hcase:(decide ((i:Int)<l.length)=false∧¬ ((i:Int)<l.length))∨((decide ((i:Int)<l.length)=true∧(i:Int)<l.length)∧decide (left ≥ 0)=false∧¬ (left ≥ 0)):=by
      by_cases g1:i<l.length
      · exact .inr ⟨⟨decide_eq_true (by omega),by omega⟩,decide_eq_false (by omega),by omega⟩
      · exact .inl ⟨decide_eq_false (by omega),by omega⟩
    have HE:Hid (decide (sizeTb l≤20000)=decide (left ≥ 0)):=by
      rcases HD.out with h | ⟨h,h'⟩
      · exact h
      · exact absurd ⟨h',h⟩ hgo
    clear HD h3 h4 hgo
    rcases hcase with ⟨c1,c2⟩ | ⟨⟨c1,c2⟩,c3,c4⟩
    all_goals
      go_wp2_with fail
      go_ret
      exact ⟨by first | (rw [HE.out]; rfl) | (rw [HE.out]; simp; try omega),BW⟩
  obtain ⟨g1,g2⟩:=hgo
  have hsn:=sizeTb_succ g1
  have hle:=sizeTb_le l (i+1)
  obtain ⟨_,_,e0,hrws,_⟩:=HL.out _ BW
  cases e0
  obtain ⟨b,off,va,vg,rfl,hb,ca,cg,hA,hG⟩:=hrws.at (Below.refl _ _) g1
  have hR:sizeR l[i]=1+l[i].goes.length+sizeA l[i].acts:=rfl
  generalize l[i]=r at *
  obtain ⟨aa,ac,rfl,hacs,_,_,hab⟩:=hA
  obtain ⟨ga,gc,rfl,_,_,_,hgb⟩:=hG
  have c1:decide (left ≥ 0)=true:=decide_eq_true g2
  have h3':=h3 g2
  clear HD hrws h3 h4
  have HAC:Hid (∀ W,Below wr.heap.size wr W→(W.cell? ⟨b,off+i * 2,none⟩=some (.slice aa r.acts.length ac)∧AcsAt r.acts aa W∧W.cell? ⟨w.heap.size,0,none⟩=some (.slice (some ⟨b,off,none⟩) l.length lc))):=fun W hb'=>⟨(hb'.cell (p:=⟨b,off+i * 2,none⟩) hb).trans ca,hacs.next hb',(HT.out _ (below_then BR hb' BR.size)).1⟩
  generalize wr=wx at *
  go_wp2_with fail
  clear t0 ca cg hacs
  go_loopw [3,5] (fun lv iv wr=>∃ (k:Nat) (lf:Int),lv=.int .i64 lf∧iv=.int .i64 k∧k≤r.acts.length∧-400000000000000≤lf∧lf≤20000∧(0≤lf∨k=0→lf=left - 1 - r.goes.length - (sizeA (r.acts.take k):Int))∧(lf<0→20000<sizeTb l)∧Below wx.heap.size wx wr) (fun _ i _=>r.acts.length - (intOf i).toNat)
  case atStart=>exact ⟨0,left - 1 - r.goes.length,by go_num,rfl,Nat.zero_le _,by omega,by omega,fun _=>by simp [sizeA],fun h=>by omega,Below.refl _ _⟩
  case round =>
  obtain ⟨k,lf,rfl,rfl,hk,k1,k2,k3,k4,BK⟩:=hrel
  obtain ⟨ca,hacs,t0⟩:=HAC.out _ BK
  have BKR:=below_then BR BK BR.size
  by_cases hgo:k<r.acts.length∧0≤lf
  case neg =>
    have hcase:(decide ((k:Int)<r.acts.length)=false∧¬ ((k:Int)<r.acts.length))∨((decide ((k:Int)<r.acts.length)=true∧(k:Int)<r.acts.length)∧decide (lf ≥ 0)=false∧¬ (lf ≥ 0)):=by
      by_cases g1:k<r.acts.length
      · exact .inr ⟨⟨decide_eq_true (by omega),by omega⟩,decide_eq_false (by omega),by omega⟩
      · exact .inl ⟨decide_eq_false (by omega),by omega⟩
    have HE:Hid (0≤lf→lf=20000 - (sizeTb (l.take (i+1)):Int)):=fun h=>by
      have hkl:k=r.acts.length:=by
        rcases Nat.lt_or_ge k r.acts.length with h' | h'
        · exact absurd ⟨h',h⟩ hgo
        · omega
      have e:=k3 (.inl h)
      rw [hkl,List.take_of_length_le (Nat.le_refl _)] at e
      rw [hsn,hR]; omega
    have HF:Hid (lf<0→20000<sizeTb l):=k4
    clear k3 k4 hacs
    rcases hcase with ⟨c2,c3⟩ | ⟨⟨c2,c3⟩,c4,c5⟩
    all_goals
      go_wp2_with fail
      exact ⟨⟨i+1,lf,rfl,by go_num,by omega,by omega,by omega,HE.out,HF.out,BKR⟩,by simp [intOf]; omega⟩
  obtain ⟨q1,q2⟩:=hgo
  have hsk:=sizeA_succ q1
  have hka:=sizeA_le r.acts (k+1)
  obtain ⟨b2,off2,v2,rfl,hb2,a0,a1,a2,a3,hred,_,_,hrb⟩:=hacs.at (Below.refl _ _) q1
  generalize r.acts[k]=x at *
  obtain ⟨da,dc,rfl,_⟩:=hred
  have k3':=k3 (.inl q2)
  have c2:decide (lf ≥ 0)=true:=decide_eq_true q2
  clear k3 k4 hacs
  go_wp2_with fail
  exact ⟨⟨k+1,lf - 1 - x.red.length,by go_num,by go_num,by omega,by omega,by omega,fun _=>by omega,fun h=>by omega,BK⟩,by simp [intOf]; omega⟩
def encP (p:Int × Int):List Value:=[.int .i64 p.1,.int .i64 p.2]
def okP (p:Int × Int):Prop:=i64B p.1∧i64B p.2
def OwnP (t:TypeId) (B:Nat) (l:List (Int × Int)) (v:Value) (W:World):Prop:=W.ownsRow B t 2 v l.length (l.flatMap encP)
theorem flatP_get:∀ {l:List (Int × Int)} {i c:Nat} {x:Int × Int},l[i]?=some x→c<2→(l.flatMap encP)[i * 2+c]?=(encP x)[c]?
  | y :: l,0,c,x,h,hc=>by
    simp at h; subst h
    rw [List.flatMap_cons,Nat.zero_mul,Nat.zero_add,List.getElem?_append_left (by simp [encP]; exact hc)]
  | y :: l,i+1,c,x,h,hc=>by
    simp at h
    rw [List.flatMap_cons,List.getElem?_append_right (by simp [encP]; omega)]
    have e:(i+1) * 2+c - (encP y).length=i * 2+c:=by simp [encP]; omega
    rw [e]
    exact flatP_get h hc
theorem OwnP.nil (t:TypeId) (B:Nat) (W:World):OwnP t B [] (.slice none 0 0) W:=World.ownsRow_nil W B t 2
theorem OwnP.sl {t:TypeId} {B:Nat} {l:List (Int × Int)} {v:Value} {W:World} (h:OwnP t B l v W) (hok:∀ x∈l,okP x) (hlen:l.length≤140737488351232):SlG l v W:=by
  have h0:=h
  obtain ⟨h1,h2⟩:=h
  rcases h2 with ⟨rfl,hn⟩ | ⟨g,cap,cur,rfl,hB,hg,hcap,hm,hsz,hx⟩
  · obtain rfl:l=[]:=List.eq_nil_of_length_eq_zero hn
    exact SlG.nil W
  · have hgl:g<W.heap.size:=(Array.getElem?_eq_some_iff.1 hg).1
    refine ⟨some ⟨g,0,none⟩,cap,rfl,fun i x hi=>⟨g,0,rfl,hgl,?_,?_,hok x (List.mem_of_getElem? hi)⟩,(fun h=>by cases h),hcap,hlen⟩
    · have:=World.ownsRow.cells h0 (g:=g) rfl (i * 2+0) (.int .i64 x.1) (by rw [flatP_get hi (by omega)]; rfl)
      rw [add_plain] at this
      simpa using this
    · have:=World.ownsRow.cells h0 (g:=g) rfl (i * 2+1) (.int .i64 x.2) (by rw [flatP_get hi (by omega)]; rfl)
      rw [add_plain] at this
      simpa [Nat.add_assoc] using this
theorem own_apart2 {W:World} {B n k:Nat} {e:TypeId} {v:Value} {xs:List Value} (h:W.ownsRow B e k v n xs):Apart B v:=by
  intro ad m c hv
  rcases h.2 with ⟨rfl,_⟩ | ⟨g,c,cur,rfl,hb,_⟩
  · cases hv
  · cases hv; exact hb
theorem own_slice2 {W:World} {B n k:Nat} {e:TypeId} {v:Value} {xs:List Value} (h:W.ownsRow B e k v n xs):∃ a c,v=.slice a n c:=by
  rcases h.2 with ⟨rfl,h'⟩ | ⟨g,c,cur,rfl,_⟩
  · exact ⟨none,0,by rw [h']⟩
  · exact ⟨_,_,rfl⟩
theorem ownsRow_below4 {W W':World} {B n k:Nat} {e:TypeId} {v:Value} {xs:List Value} (h:W.ownsRow B e k v n xs) (hb:Below W.heap.size W W'):W'.ownsRow B e k v n xs:=by
  obtain ⟨h1,h2⟩:=h
  refine ⟨h1,?_⟩
  rcases h2 with h2 | ⟨g,cap,cur,rfl,hB,hg,rest⟩
  · exact .inl h2
  · exact .inr ⟨g,cap,cur,rfl,hB,(hb.block g (Array.getElem?_eq_some_iff.1 hg).1).trans hg,rest⟩
theorem infoArr2:(Tryz.prog.info? 38).map (fun i=>(i.zero,i.size,i.bytes))=some (some (.agg #[.int .i64 0,.int .i64 0]),2,16):=by kernel_rfl
theorem new_cellP (W:World) (x:Int × Int) (t:TypeId):∀ (k:Nat) (u:Value),(encP x)[k]?=some u→(W.alloc (Obj.cells #[.int .i64 x.1,.int .i64 x.2] t)).cell? ((⟨W.heap.size,0,none⟩:Addr).add k)=some u:=by
  intro k u hk
  rw [add_plain]
  rcases k with _ | _ | k
  · simp [encP] at hk; subst hk; simp
  · simp [encP] at hk; subst hk; simp
  · simp [encP] at hk
theorem sizeTb_acts {l:List Rw} {k:Nat} (hk:k<l.length):sizeA l[k].acts≤sizeTb l:=by
  have h1:=sizeTb_succ hk
  have h2:=sizeTb_le l (k+1)
  unfold sizeR at h1; omega
theorem sizeA_len (l:List Ac):l.length≤sizeA l:=by
  induction l with
  | nil=>simp [sizeA]
  | cons a l ih=>unfold sizeA at *; simp; omega
theorem tornRow_len (n:Int) (l:List Ac):(tornRow n l).length≤sizeA l:=by
  unfold tornRow
  rw [List.length_map]
  exact Nat.le_trans (List.length_filter_le _ _) (sizeA_len l)
theorem tornL_len (l:List Rw):(tornL l).length≤sizeTb l:=by
  have:∀ k,k≤l.length→(tornL (l.take k)).length≤sizeTb (l.take k):=by
    intro k
    induction k with
    | zero=>intro _; simp [tornL,sizeTb]
    | succ k ih =>
      intro hk
      rw [tornL_succ hk,sizeTb_succ hk,List.length_append]
      have:=ih (by omega)
      have h2:=tornRow_len k l[k].acts
      unfold sizeR; omega
  have h:=this l.length (Nat.le_refl _)
  rwa [List.take_of_length_le (Nat.le_refl _)] at h
theorem mem_tornL {l:List Rw} {p:Int × Int} (h:p∈tornL l):∃ (i:Nat) (hi:i<l.length) (a:Ac),p=((i:Int),a.look)∧a∈l[i].acts:=by
  unfold tornL at h
  obtain ⟨⟨r,i⟩,hr,hp⟩:=List.mem_flatMap.1 h
  have hg:=List.mem_zipIdx_iff_getElem?.1 hr
  simp at hg hp
  unfold tornRow at hp
  obtain ⟨a,ha,rfl⟩:=List.mem_map.1 hp
  obtain ⟨hi,e⟩:=List.getElem?_eq_some_iff.1 hg
  exact ⟨i,hi,a,rfl,by rw [e]; exact (List.mem_filter.1 ha).1⟩
theorem torn_iff (a:Ac):tornA a=true↔0<a.red.length∧1<a.red.length+(if a.to=-1 then 0 else 1)+(if a.acc=true then 1 else 0):=by
  obtain ⟨lk,t,r,c⟩:=a
  unfold tornA
  rcases r with _ | ⟨x,_ | ⟨y,r⟩⟩
  · simp
  · by_cases h:t=-1 <;> cases c <;> simp [h]
  · simp; omega
theorem torn_false {a:Ac} (h:¬ (0<a.red.length∧1<a.red.length+(if a.to=-1 then 0 else 1)+(if a.acc=true then 1 else 0))):tornA a=false:=by
  cases e:tornA a
  · rfl
  · exact absurd ((torn_iff a).1 e) h
theorem ok_torn {l:List Rw} {v:Value} {w:World} (h:SlW l v w):∀ p∈tornL l,okP p:=fun p hp=>by
  obtain ⟨i,hi,a,rfl,ha⟩:=mem_tornL hp
  obtain ⟨_,_,rfl,hr,_,_,hb⟩:=h
  obtain ⟨_,_,_,_,_,_,_,_,hA,_⟩:=hr.at (Below.refl _ _) hi
  obtain ⟨_,_,_,hacs,_⟩:=hA
  obtain ⟨k,hk,e⟩:=List.getElem_of_mem ha
  obtain ⟨_,_,_,_,_,_,_,_,_,_,hlk,_⟩:=hacs.at (Below.refl _ _) hk
  refine ⟨?_,by rw [← e]; exact hlk⟩
  show -9223372036854775808≤(i:Int)∧(i:Int)≤9223372036854775807
  omega
set_option maxRecDepth 100000 in
set_option maxHeartbeats 4000000 in
theorem rtorn_any (l:List Rw) (v:Value) (w:World) (hl:SlW l v w) (hsz:sizeTb l≤100000000) :
    Calls Tryz.prog 13 #[.agg #[v]] w fun e w'=>∃ v',e=.returned v'∧SlG (tornL l) v' w'∧Apart w.heap.size v'∧Below w.heap.size w w':=by
  obtain ⟨i0,hi0,hz0,hz1,hz2⟩:=info_parts infoArr2
  have HL:Hid (∀ W,Below w.heap.size w W→SlW l v W):=fun W hb=>hl.next hb
  have HOK:Hid (∀ p∈tornL l,okP p):=ok_torn hl
  have HTL:Hid ((tornL l).length≤sizeTb l):=tornL_len l
  obtain ⟨la,lc,rfl,_,_,_,hlb⟩:=hl
  have B0:=below_box w (.slice la l.length lc) 30
  have HT0:Hid (∀ W,Below (w.heap.size+1) (w.alloc (Obj.cells #[.slice la l.length lc] 30)) W→W.cell? ⟨w.heap.size,0,none⟩=some (.slice la l.length lc)):=fun W hb=>(hb.cell (p:=⟨w.heap.size,0,none⟩) (by simp)).trans (by simp)
  have hsz0:(w.alloc (Obj.cells #[.slice la l.length lc] 30)).heap.size=w.heap.size+1:=by simp
  go_enter Tryz.func13,Tryz.ntmps13
  go_wp2_with fail
  have HT:Hid (∀ W,Below (w.alloc (Obj.cells #[.slice la l.length lc] 30)).heap.size (w.alloc (Obj.cells #[.slice la l.length lc] 30)) W→W.cell? ⟨w.heap.size,0,none⟩=some (.slice la l.length lc)∧Below w.heap.size w W):=fun W hb=>⟨HT0.out W (hsz0 ▸ hb),below_then B0 hb B0.size⟩
  have HZ:Hid (w.heap.size≤(w.alloc (Obj.cells #[.slice la l.length lc] 30)).heap.size):=B0.size
  clear HT0 hsz0 B0
  generalize w.alloc (Obj.cells #[.slice la l.length lc] 30)=w0 at *
  go_loopw [3,4] (fun ov iv wr=>∃ (i:Nat),iv=.int .i64 i∧i≤l.length∧OwnP 38 w0.heap.size (tornL (l.take i)) ov wr∧Below w0.heap.size w0 wr) (fun _ i _=>l.length - (intOf i).toNat)
  case atStart=>exact ⟨0,rfl,Nat.zero_le _,by simpa [tornL] using OwnP.nil _ _ _,Below.refl _ _⟩
  case round =>
  obtain ⟨i,rfl,hi,hown,BR⟩:=hrel
  obtain ⟨oa,oc,rfl⟩:=own_slice2 hown
  have HO:Hid (OwnP 38 w0.heap.size (tornL (l.take i)) (.slice oa (tornL (l.take i)).length oc) wr):=hown
  clear hown
  obtain ⟨t0,BW⟩:=HT.out _ BR
  by_cases hlt:i<l.length
  case neg =>
    obtain rfl:i=l.length:=by omega
    rw [List.take_of_length_le (Nat.le_refl _)] at HO ⊢
    go_wp2_with fail
    go_ret
    exact ⟨_,rfl,OwnP.sl HO.out HOK.out (by have:=HTL.out; omega),(own_apart2 HO.out).mono HZ.out,BW⟩
  obtain ⟨_,_,e0,hrws,_⟩:=HL.out _ (Below.refl _ w)
  cases e0
  obtain ⟨b,off,va,vg,rfl,hb,ca0,cg,hA,_⟩:=hrws.at (Below.refl _ _) hlt
  have ca:=(BW.cell (p:=⟨b,off+i * 2,none⟩) hb).trans ca0
  have HSN:Hid (tornL (l.take (i+1))=tornL (l.take i)++tornRow i l[i].acts):=tornL_succ hlt
  have hsA:sizeTb (l.take i)+sizeA l[i].acts≤100000000:=by
    have h1:=sizeTb_succ hlt
    have h2:=sizeTb_le l (i+1)
    unfold sizeR at h1; omega
  have htl:(tornL (l.take i)).length≤sizeTb (l.take i):=tornL_len _
  generalize l[i]=r at *
  have HAA:Hid (∀ W,Below w.heap.size w W→SlA r.acts va W):=fun W hb=>hA.next hb
  obtain ⟨aa,ac,rfl,_,_,_,hab⟩:=hA
  generalize sizeTb (l.take i)=SZ at *
  generalize tornL (l.take i)=T at *
  clear hrws ca0 cg
  generalize wr=wx at *
  go_wp2_with fail
  clear t0 ca
  go_loopw [3,6] (fun ov kv wr=>∃ (k:Nat),kv=.int .i64 k∧k≤r.acts.length∧OwnP 38 w0.heap.size (T++tornRow i (r.acts.take k)) ov wr∧Below w0.heap.size w0 wr) (fun _ i _=>r.acts.length - (intOf i).toNat)
  case atStart=>exact ⟨0,rfl,Nat.zero_le _,by simpa [tornRow] using HO.out,BR⟩
  case round =>
  clear HO BW BR
  obtain ⟨k,rfl,hk,hown,BK⟩:=hrel
  obtain ⟨pa,pc,rfl⟩:=own_slice2 hown
  have hszk:=BK.size
  obtain ⟨_,BW⟩:=HT.out _ BK
  by_cases hkl:k<r.acts.length
  case neg =>
    obtain rfl:k=r.acts.length:=by omega
    rw [List.take_of_length_le (Nat.le_refl _)] at hown ⊢
    have HO2:Hid (OwnP 38 w0.heap.size (T++tornRow i r.acts) (.slice pa (T++tornRow i r.acts).length pc) wr):=hown
    clear hown
    generalize T++tornRow i r.acts=T2 at *
    go_wp2_with fail
    exact ⟨⟨i+1,by go_num,by omega,by rw [HSN.out]; exact HO2.out,BK⟩,by simp [intOf]; omega⟩
  obtain ⟨_,_,e0,hacs,_⟩:=HAA.out _ BW
  cases e0
  obtain ⟨b2,off2,v2,rfl,hb2,a0,a1,a2,a3,hred,_,_,hrb⟩:=hacs.at (Below.refl _ _) hkl
  have HTR:Hid (tornRow i (r.acts.take (k+1))=tornRow i (r.acts.take k)++(if tornA r.acts[k] then [((i:Int),r.acts[k].look)] else [])):=tornRow_succ hkl
  have hlen2:(tornRow i (r.acts.take k)).length≤sizeA r.acts:=Nat.le_trans (tornRow_len _ _) (sizeA_le _ _)
  have hlen3:(T++tornRow i (r.acts.take k)).length≤100000000:=by rw [List.length_append]; omega
  unfold OwnP at hown
  obtain ⟨RL,hRL⟩:∃ RL,T++tornRow i (r.acts.take k)=RL:=⟨_,rfl⟩
  have HRL:Hid (T++tornRow i (r.acts.take k)=RL):=hRL
  rw [hRL] at hown hlen3 ⊢
  clear hRL
  generalize hxe:r.acts[k]=x at *
  obtain ⟨da,dc,rfl,_⟩:=hred
  have HTI:=torn_iff x
  have HTF:Hid (¬ (0<x.red.length∧1<x.red.length+(if x.to=-1 then 0 else 1)+(if x.acc=true then 1 else 0))→tornA x=false):=fun h=>torn_false h
  have HTT:Hid ((0<x.red.length∧1<x.red.length+(if x.to=-1 then 0 else 1)+(if x.acc=true then 1 else 0))→tornA x=true):=(torn_iff x).2
  clear HTI hxe hacs
  obtain ⟨x0,x1,xr,x3⟩:=x
  simp only at *
  obtain ⟨LV,hLV⟩:∃ LV,RL.flatMap encP=LV:=⟨_,rfl⟩
  have HLV:Hid (RL.flatMap encP=LV):=hLV
  rw [hLV] at hown
  clear hLV
  have HNO:Hid (tornA ⟨x0,x1,xr,x3⟩=false→T++tornRow i (r.acts.take (k+1))=RL):=fun h=>by
    rw [HTR.out,h,← HRL.out]; simp
  have HYES:Hid (tornA ⟨x0,x1,xr,x3⟩=true→T++tornRow i (r.acts.take (k+1))=RL++[((i:Int),x0)]):=fun h=>by
    rw [HTR.out,h,← HRL.out]; simp
  have HOWN:Hid (OwnP 38 w0.heap.size RL (.slice pa RL.length pc) wr):=by
    show World.ownsRow _ _ _ _ _ _ _
    rw [HLV.out]; exact hown
  clear HTR HRL
  by_cases ht:x1=-1
  · subst ht
    cases x3 with
    | true =>
      by_cases g1:(xr.length:Int)+1 > 1
      · have g1d:decide ((xr.length:Int)+1 > 1)=true:=decide_eq_true g1
        by_cases g2:(xr.length:Int) > 0
        · have g2d:decide ((xr.length:Int) > 0)=true:=decide_eq_true g2
          have hyes:tornA _=true:=HTT.out ⟨by omega,by simp only [reduceIte,Nat.add_zero]; omega⟩
          clear HTT HTF HNO
          go_wp2_with (at_builtin; refine wpList_append_own _ rfl (.tmp 59) (.tmp 67) 36 rfl w0.heap.size 38 i0 _ 2 16 Tryz.underlying36 hi0 hz0 hz1 hz2 rfl (by decide) _ RL.length LV rfl (World.ownsRow.alloc hown _) ⟨wr.heap.size,0,none⟩ 1 1 (encP ((i:Int),x0)) rfl rfl (by first | exact new_cellP wr ((i:Int),x0) _ | (have:=new_cellP wr ((i:Int),x0) 38; simpa [encP] using this)) (by intro u hu; simp [encP] at hu; rcases hu with rfl | rfl <;> rfl) (by unfold maxLen; omega) (by omega) (by simp; omega) ?_)
          intro v9 w9 hown9 hg9 _
          have B9:Below w0.heap.size w0 w9:=(BK.alloc hszk _).grown hg9 (by simp; omega) (fun k e=>(World.ownsRow.lt hown k e).1)
          obtain ⟨a9,c9,rfl⟩:=own_slice2 hown9
          have HW9:Hid (OwnP 38 w0.heap.size (RL++[((i:Int),x0)]) (.slice a9 (RL.length+1) c9) w9):=by
            show World.ownsRow _ _ _ _ _ _ _
            have:=hown9
            rw [← HLV.out] at this
            simpa [encP] using this
          have HY:Hid (T++tornRow i (r.acts.take (k+1))=RL++[((i:Int),x0)]):=HYES.out hyes
          clear hown9 hg9 hown a0 a1 a2 a3
          go_wp2_with fail
          exact ⟨⟨k+1,by go_num,by omega,by rw [HY.out]; exact HW9.out,B9⟩,by simp [intOf]; omega⟩
        · have g2d:decide ((xr.length:Int) > 0)=false:=decide_eq_false g2
          exfalso; omega
      · have g1d:decide ((xr.length:Int)+1 > 1)=false:=decide_eq_false g1
        have hno:tornA _=false:=HTF.out (fun h=>by have h1:=h.1; have h2:=h.2; simp only [reduceIte,Nat.add_zero] at h2; omega)
        clear HTT HTF HYES
        go_wp2_with fail
        exact ⟨⟨k+1,by go_num,by omega,by rw [HNO.out hno]; exact HOWN.out,BK⟩,by simp [intOf]; omega⟩
    | false =>
      by_cases g1:(xr.length:Int) > 1
      · have g1d:decide ((xr.length:Int) > 1)=true:=decide_eq_true g1
        by_cases g2:(xr.length:Int) > 0
        · have g2d:decide ((xr.length:Int) > 0)=true:=decide_eq_true g2
          have hyes:tornA _=true:=HTT.out ⟨by omega,by simp only [reduceIte,Bool.false_eq_true,Nat.add_zero]; omega⟩
          clear HTT HTF HNO
          go_wp2_with (at_builtin; refine wpList_append_own _ rfl (.tmp 59) (.tmp 67) 36 rfl w0.heap.size 38 i0 _ 2 16 Tryz.underlying36 hi0 hz0 hz1 hz2 rfl (by decide) _ RL.length LV rfl (World.ownsRow.alloc hown _) ⟨wr.heap.size,0,none⟩ 1 1 (encP ((i:Int),x0)) rfl rfl (by first | exact new_cellP wr ((i:Int),x0) _ | (have:=new_cellP wr ((i:Int),x0) 38; simpa [encP] using this)) (by intro u hu; simp [encP] at hu; rcases hu with rfl | rfl <;> rfl) (by unfold maxLen; omega) (by omega) (by simp; omega) ?_)
          intro v9 w9 hown9 hg9 _
          have B9:Below w0.heap.size w0 w9:=(BK.alloc hszk _).grown hg9 (by simp; omega) (fun k e=>(World.ownsRow.lt hown k e).1)
          obtain ⟨a9,c9,rfl⟩:=own_slice2 hown9
          have HW9:Hid (OwnP 38 w0.heap.size (RL++[((i:Int),x0)]) (.slice a9 (RL.length+1) c9) w9):=by
            show World.ownsRow _ _ _ _ _ _ _
            have:=hown9
            rw [← HLV.out] at this
            simpa [encP] using this
          have HY:Hid (T++tornRow i (r.acts.take (k+1))=RL++[((i:Int),x0)]):=HYES.out hyes
          clear hown9 hg9 hown a0 a1 a2 a3
          go_wp2_with fail
          exact ⟨⟨k+1,by go_num,by omega,by rw [HY.out]; exact HW9.out,B9⟩,by simp [intOf]; omega⟩
        · have g2d:decide ((xr.length:Int) > 0)=false:=decide_eq_false g2
          exfalso; omega
      · have g1d:decide ((xr.length:Int) > 1)=false:=decide_eq_false g1
        have hno:tornA _=false:=HTF.out (fun h=>by have h1:=h.1; have h2:=h.2; simp only [reduceIte,Bool.false_eq_true,Nat.add_zero] at h2; omega)
        clear HTT HTF HYES
        go_wp2_with fail
        exact ⟨⟨k+1,by go_num,by omega,by rw [HNO.out hno]; exact HOWN.out,BK⟩,by simp [intOf]; omega⟩
  · have ht2:(x1 != -1)=true:=by simpa using ht
    cases x3 with
    | true =>
      by_cases g1:(xr.length:Int)+1+1 > 1
      · have g1d:decide ((xr.length:Int)+1+1 > 1)=true:=decide_eq_true g1
        by_cases g2:(xr.length:Int) > 0
        · have g2d:decide ((xr.length:Int) > 0)=true:=decide_eq_true g2
          have hyes:tornA _=true:=HTT.out ⟨by omega,by simp only [if_neg ht,reduceIte]; omega⟩
          clear HTT HTF HNO
          go_wp2_with (at_builtin; refine wpList_append_own _ rfl (.tmp 59) (.tmp 67) 36 rfl w0.heap.size 38 i0 _ 2 16 Tryz.underlying36 hi0 hz0 hz1 hz2 rfl (by decide) _ RL.length LV rfl (World.ownsRow.alloc hown _) ⟨wr.heap.size,0,none⟩ 1 1 (encP ((i:Int),x0)) rfl rfl (by first | exact new_cellP wr ((i:Int),x0) _ | (have:=new_cellP wr ((i:Int),x0) 38; simpa [encP] using this)) (by intro u hu; simp [encP] at hu; rcases hu with rfl | rfl <;> rfl) (by unfold maxLen; omega) (by omega) (by simp; omega) ?_)
          intro v9 w9 hown9 hg9 _
          have B9:Below w0.heap.size w0 w9:=(BK.alloc hszk _).grown hg9 (by simp; omega) (fun k e=>(World.ownsRow.lt hown k e).1)
          obtain ⟨a9,c9,rfl⟩:=own_slice2 hown9
          have HW9:Hid (OwnP 38 w0.heap.size (RL++[((i:Int),x0)]) (.slice a9 (RL.length+1) c9) w9):=by
            show World.ownsRow _ _ _ _ _ _ _
            have:=hown9
            rw [← HLV.out] at this
            simpa [encP] using this
          have HY:Hid (T++tornRow i (r.acts.take (k+1))=RL++[((i:Int),x0)]):=HYES.out hyes
          clear hown9 hg9 hown a0 a1 a2 a3
          go_wp2_with fail
          exact ⟨⟨k+1,by go_num,by omega,by rw [HY.out]; exact HW9.out,B9⟩,by simp [intOf]; omega⟩
        · have g2d:decide ((xr.length:Int) > 0)=false:=decide_eq_false g2
          have hno:tornA _=false:=HTF.out (fun h=>by have h1:=h.1; have h2:=h.2; simp only [if_neg ht,reduceIte] at h2; omega)
          clear HTT HTF HYES
          go_wp2_with fail
          exact ⟨⟨k+1,by go_num,by omega,by rw [HNO.out hno]; exact HOWN.out,BK⟩,by simp [intOf]; omega⟩
      · have g1d:decide ((xr.length:Int)+1+1 > 1)=false:=decide_eq_false g1
        exfalso; omega
    | false =>
      by_cases g1:(xr.length:Int)+1 > 1
      · have g1d:decide ((xr.length:Int)+1 > 1)=true:=decide_eq_true g1
        by_cases g2:(xr.length:Int) > 0
        · have g2d:decide ((xr.length:Int) > 0)=true:=decide_eq_true g2
          have hyes:tornA _=true:=HTT.out ⟨by omega,by simp only [if_neg ht,reduceIte,Bool.false_eq_true,Nat.add_zero]; omega⟩
          clear HTT HTF HNO
          go_wp2_with (at_builtin; refine wpList_append_own _ rfl (.tmp 59) (.tmp 67) 36 rfl w0.heap.size 38 i0 _ 2 16 Tryz.underlying36 hi0 hz0 hz1 hz2 rfl (by decide) _ RL.length LV rfl (World.ownsRow.alloc hown _) ⟨wr.heap.size,0,none⟩ 1 1 (encP ((i:Int),x0)) rfl rfl (by first | exact new_cellP wr ((i:Int),x0) _ | (have:=new_cellP wr ((i:Int),x0) 38; simpa [encP] using this)) (by intro u hu; simp [encP] at hu; rcases hu with rfl | rfl <;> rfl) (by unfold maxLen; omega) (by omega) (by simp; omega) ?_)
          intro v9 w9 hown9 hg9 _
          have B9:Below w0.heap.size w0 w9:=(BK.alloc hszk _).grown hg9 (by simp; omega) (fun k e=>(World.ownsRow.lt hown k e).1)
          obtain ⟨a9,c9,rfl⟩:=own_slice2 hown9
          have HW9:Hid (OwnP 38 w0.heap.size (RL++[((i:Int),x0)]) (.slice a9 (RL.length+1) c9) w9):=by
            show World.ownsRow _ _ _ _ _ _ _
            have:=hown9
            rw [← HLV.out] at this
            simpa [encP] using this
          have HY:Hid (T++tornRow i (r.acts.take (k+1))=RL++[((i:Int),x0)]):=HYES.out hyes
          clear hown9 hg9 hown a0 a1 a2 a3
          go_wp2_with fail
          exact ⟨⟨k+1,by go_num,by omega,by rw [HY.out]; exact HW9.out,B9⟩,by simp [intOf]; omega⟩
        · have g2d:decide ((xr.length:Int) > 0)=false:=decide_eq_false g2
          exfalso; omega
      · have g1d:decide ((xr.length:Int)+1 > 1)=false:=decide_eq_false g1
        have hno:tornA _=false:=HTF.out (fun h=>by have h1:=h.1; have h2:=h.2; simp only [if_neg ht,reduceIte,Bool.false_eq_true,Nat.add_zero] at h2; omega)
        clear HTT HTF HYES
        go_wp2_with fail
        exact ⟨⟨k+1,by go_num,by omega,by rw [HNO.out hno]; exact HOWN.out,BK⟩,by simp [intOf]; omega⟩
set_option maxRecDepth 100000 in
set_option maxHeartbeats 1600000 in
theorem isTorn_any (a:Ac) (u:Value) (w:World) (hu:SlI a.red u w) :
    Calls Tryz.prog 38 #[.agg #[.int .i64 a.look,.int .i64 a.to,u,.bool a.acc]] w fun e w'=>e=.returned (.bool (tornA a))∧Below w.heap.size w w':=by
  obtain ⟨ua,uc,rfl,_⟩:=hu
  obtain ⟨a0,a1,ar,a3⟩:=a
  simp only at *
  have HTF:Hid (¬ (0<ar.length∧1<ar.length+(if a1=-1 then 0 else 1)+(if a3=true then 1 else 0))→tornA ⟨a0,a1,ar,a3⟩=false):=fun h=>torn_false h
  have HTT:Hid ((0<ar.length∧1<ar.length+(if a1=-1 then 0 else 1)+(if a3=true then 1 else 0))→tornA ⟨a0,a1,ar,a3⟩=true):=(torn_iff ⟨a0,a1,ar,a3⟩).2
  have B0:Below w.heap.size w (w.alloc (Obj.cells #[.int .i64 a0,.int .i64 a1,.slice ua ar.length uc,.bool a3] 45)):=(Below.refl _ _).alloc (Nat.le_refl _) _
  go_enter Tryz.func38,Tryz.ntmps38
  rcases Nat.lt_trichotomy ar.length 1 with h | h | h
  · have h0:((ar.length:Int) == 0)=true:=by simp; exact List.eq_nil_of_length_eq_zero (by omega)
    have h0':(ar.length:Int)=0:=by omega
    have HE:Hid (tornA ⟨a0,a1,ar,a3⟩=false):=HTF.out (fun q=>by have:=q.1; omega)
    clear HTF HTT
    go_wp2_with fail
    go_ret
    exact ⟨by rw [HE.out]; rfl,B0⟩
  · have h0:((ar.length:Int) == 0)=false:=by rw [h]; rfl
    have h0':¬ (ar.length:Int)=0:=by omega
    have h1:((ar.length:Int) == 1)=true:=by rw [h]; rfl
    have h1':(ar.length:Int)=1:=by omega
    by_cases ht:a1=-1
    · subst ht
      cases a3 with
      | true =>
        have HE:Hid (tornA ⟨a0,-1,ar,true⟩=true):=HTT.out ⟨by omega,by simp only [reduceIte,Nat.add_zero]; omega⟩
        clear HTF HTT
        go_wp2_with fail
        go_ret
        exact ⟨by rw [HE.out]; rfl,by rw [h] at B0; exact B0⟩
      | false =>
        have HE:Hid (tornA ⟨a0,-1,ar,false⟩=false):=HTF.out (fun q=>by have h2:=q.2; simp only [reduceIte,Bool.false_eq_true,Nat.add_zero] at h2; omega)
        clear HTF HTT
        go_wp2_with fail
        go_ret
        exact ⟨by rw [HE.out]; rfl,by rw [h] at B0; exact B0⟩
    · have ht2:(a1 != -1)=true:=by simpa using ht
      have HE:Hid (tornA ⟨a0,a1,ar,a3⟩=true):=HTT.out ⟨by omega,by simp only [if_neg ht]; omega⟩
      clear HTF HTT
      go_wp2_with fail
      go_ret
      exact ⟨by rw [HE.out]; rfl,by rw [h] at B0; exact B0⟩
  · have h0:((ar.length:Int) == 0)=false:=beq_eq_false_iff_ne.2 (by omega)
    have h0':¬ (ar.length:Int)=0:=by omega
    have h1:((ar.length:Int) == 1)=false:=beq_eq_false_iff_ne.2 (by omega)
    have h1':¬ (ar.length:Int)=1:=by omega
    have HE:Hid (tornA ⟨a0,a1,ar,a3⟩=true):=HTT.out ⟨by omega,by omega⟩
    clear HTF HTT
    go_wp2_with fail
    go_ret
    exact ⟨by rw [HE.out]; rfl,B0⟩
set_option maxRecDepth 100000 in
set_option maxHeartbeats 4000000 in
theorem torn_any (l:List Rw) (v:Value) (w:World) (hl:SlW l v w) (hsz:sizeTb l≤100000000) :
    Calls Tryz.prog 12 #[.agg #[v]] w fun e w'=>∃ v',e=.returned v'∧SlG (tornL l) v' w'∧Apart w.heap.size v'∧Below w.heap.size w w':=by
  obtain ⟨i0,hi0,hz0,hz1,hz2⟩:=info_parts infoArr2
  have HIS:Hid (∀ (a:Ac) (u:Value) W,SlI a.red u W→Calls Tryz.prog 38 #[.agg #[.int .i64 a.look,.int .i64 a.to,u,.bool a.acc]] W fun e w'=>e=.returned (.bool (tornA a))∧Below W.heap.size W w'):=fun a u W h=>isTorn_any a u W h
  have HL:Hid (∀ W,Below w.heap.size w W→SlW l v W):=fun W hb=>hl.next hb
  have HOK:Hid (∀ p∈tornL l,okP p):=ok_torn hl
  have HTL:Hid ((tornL l).length≤sizeTb l):=tornL_len l
  obtain ⟨la,lc,rfl,_,_,_,hlb⟩:=hl
  have B0:=below_box w (.slice la l.length lc) 30
  go_enter Tryz.func12,Tryz.ntmps12
  go_wp2_with fail
  have HT:Hid (∀ W,Below (w.alloc (Obj.cells #[.slice la l.length lc] 30)).heap.size (w.alloc (Obj.cells #[.slice la l.length lc] 30)) W→Below w.heap.size w W):=fun W hb=>below_then B0 hb B0.size
  have HZ:Hid (w.heap.size≤(w.alloc (Obj.cells #[.slice la l.length lc] 30)).heap.size):=B0.size
  clear B0
  generalize w.alloc (Obj.cells #[.slice la l.length lc] 30)=w0 at *
  go_loopw [3,11] (fun ov iv wr=>∃ (i:Nat),iv=.int .i64 i∧i≤l.length∧OwnP 38 w0.heap.size (tornL (l.take i)) ov wr∧Below w0.heap.size w0 wr) (fun _ i _=>l.length - (intOf i).toNat)
  case atStart=>exact ⟨0,rfl,Nat.zero_le _,by simpa [tornL] using OwnP.nil _ _ _,Below.refl _ _⟩
  case round =>
  obtain ⟨i,rfl,hi,hown,BR⟩:=hrel
  obtain ⟨oa,oc,rfl⟩:=own_slice2 hown
  have HO:Hid (OwnP 38 w0.heap.size (tornL (l.take i)) (.slice oa (tornL (l.take i)).length oc) wr):=hown
  clear hown
  have BW:=HT.out _ BR
  by_cases hlt:i<l.length
  case neg =>
    obtain rfl:i=l.length:=by omega
    rw [List.take_of_length_le (Nat.le_refl _)] at HO ⊢
    go_wp2_with fail
    go_ret
    exact ⟨_,rfl,OwnP.sl HO.out HOK.out (by have:=HTL.out; omega),(own_apart2 HO.out).mono HZ.out,BW⟩
  obtain ⟨_,_,e0,hrws,_⟩:=HL.out _ (Below.refl _ w)
  cases e0
  obtain ⟨b,off,va,vg,rfl,hb,ca0,cg0,hA,hG⟩:=hrws.at (Below.refl _ _) hlt
  have ca:=(BW.cell (p:=⟨b,off+i * 2,none⟩) hb).trans ca0
  have cg:=(BW.cell (p:=⟨b,off+i * 2+1,none⟩) hb).trans cg0
  have HSN:Hid (tornL (l.take (i+1))=tornL (l.take i)++tornRow i l[i].acts):=tornL_succ hlt
  have hsA:sizeTb (l.take i)+sizeA l[i].acts≤100000000:=by
    have h1:=sizeTb_succ hlt
    have h2:=sizeTb_le l (i+1)
    unfold sizeR at h1; omega
  have htl:(tornL (l.take i)).length≤sizeTb (l.take i):=tornL_len _
  generalize l[i]=r at *
  have HAA:Hid (∀ W,Below w.heap.size w W→SlA r.acts va W):=fun W hb=>hA.next hb
  obtain ⟨aa,ac,rfl,_,_,_,hab⟩:=hA
  obtain ⟨ga,gc,rfl,_⟩:=hG
  generalize sizeTb (l.take i)=SZ at *
  generalize tornL (l.take i)=T at *
  clear hrws ca0 cg0
  generalize wr=wx at *
  have BX:Below w0.heap.size w0 (wx.alloc (Obj.cells #[.slice aa r.acts.length ac,.slice ga r.goes.length gc] 68)):=BR.alloc BR.size _
  have HOX:Hid (OwnP 38 w0.heap.size T (.slice oa T.length oc) (wx.alloc (Obj.cells #[.slice aa r.acts.length ac,.slice ga r.goes.length gc] 68))):=World.ownsRow.alloc HO.out _
  go_wp2_with fail
  clear ca cg HO
  generalize wx.alloc (Obj.cells #[.slice aa r.acts.length ac,.slice ga r.goes.length gc] 68)=w2 at *
  go_loopw [3,19] (fun ov kv wr=>∃ (k:Nat),kv=.int .i64 k∧k≤r.acts.length∧OwnP 38 w0.heap.size (T++tornRow i (r.acts.take k)) ov wr∧Below w0.heap.size w0 wr) (fun _ i _=>r.acts.length - (intOf i).toNat)
  case atStart=>exact ⟨0,rfl,Nat.zero_le _,by simpa [tornRow] using HOX.out,BX⟩
  case round =>
  clear HOX BW BR BX
  obtain ⟨k,rfl,hk,hown,BK⟩:=hrel
  obtain ⟨pa,pc,rfl⟩:=own_slice2 hown
  have hszk:=BK.size
  have BW:=HT.out _ BK
  by_cases hkl:k<r.acts.length
  case neg =>
    obtain rfl:k=r.acts.length:=by omega
    rw [List.take_of_length_le (Nat.le_refl _)] at hown ⊢
    have HO2:Hid (OwnP 38 w0.heap.size (T++tornRow i r.acts) (.slice pa (T++tornRow i r.acts).length pc) wr):=hown
    clear hown
    generalize T++tornRow i r.acts=T2 at *
    go_wp2_with fail
    exact ⟨⟨i+1,by go_num,by omega,by rw [HSN.out]; exact HO2.out,BK⟩,by simp [intOf]; omega⟩
  obtain ⟨_,_,e0,hacs,_⟩:=HAA.out _ BW
  cases e0
  obtain ⟨b2,off2,v2,rfl,hb2,a0,a1,a2,a3,hred,_,_,hrb⟩:=hacs.at (Below.refl _ _) hkl
  have HTR:Hid (tornRow i (r.acts.take (k+1))=tornRow i (r.acts.take k)++(if tornA r.acts[k] then [((i:Int),r.acts[k].look)] else [])):=tornRow_succ hkl
  have hlen2:(tornRow i (r.acts.take k)).length≤sizeA r.acts:=Nat.le_trans (tornRow_len _ _) (sizeA_le _ _)
  have hlen3:(T++tornRow i (r.acts.take k)).length≤100000000:=by rw [List.length_append]; omega
  unfold OwnP at hown
  obtain ⟨RL,hRL⟩:∃ RL,T++tornRow i (r.acts.take k)=RL:=⟨_,rfl⟩
  have HRL:Hid (T++tornRow i (r.acts.take k)=RL):=hRL
  rw [hRL] at hown hlen3 ⊢
  clear hRL
  generalize r.acts[k]=x at *
  have HNO:Hid (tornA x=false→T++tornRow i (r.acts.take (k+1))=RL):=fun h=>by
    rw [HTR.out,h,← HRL.out]; simp
  have HYES:Hid (tornA x=true→T++tornRow i (r.acts.take (k+1))=RL++[((i:Int),x.look)]):=fun h=>by
    rw [HTR.out,h,← HRL.out]; simp
  have HX:=HIS.out x v2 (wr.alloc (Obj.cells #[.int .i64 x.look,.int .i64 x.to,v2,.bool x.acc] 45)) (hred.next ((Below.refl _ _).alloc (Nat.le_refl _) _))
  obtain ⟨da,dc,rfl,_⟩:=hred
  have HOX:Hid (OwnP 38 w0.heap.size RL (.slice pa RL.length pc) (wr.alloc (Obj.cells #[.int .i64 x.look,.int .i64 x.to,.slice da x.red.length dc,.bool x.acc] 45))):=World.ownsRow.alloc hown _
  have BX:Below w0.heap.size w0 (wr.alloc (Obj.cells #[.int .i64 x.look,.int .i64 x.to,.slice da x.red.length dc,.bool x.acc] 45)):=BK.alloc hszk _
  have y0:(wr.alloc (Obj.cells #[.int .i64 x.look,.int .i64 x.to,.slice da x.red.length dc,.bool x.acc] 45)).cell? ⟨wr.heap.size,0,none⟩=some (.int .i64 x.look):=by simp
  have yl:wr.heap.size<(wr.alloc (Obj.cells #[.int .i64 x.look,.int .i64 x.to,.slice da x.red.length dc,.bool x.acc] 45)).heap.size:=by simp
  clear HTR HRL hown hacs
  go_wp2_with fail
  clear a0 a1 a2 a3
  generalize wr.alloc (Obj.cells #[.int .i64 x.look,.int .i64 x.to,.slice da x.red.length dc,.bool x.acc] 45)=w3 at *
  refine HX.mono ?_
  rintro e w4 ⟨rfl,b4⟩
  have B4:=below_then BX b4 BX.size
  have y4:=(b4.cell (p:=⟨wr.heap.size,0,none⟩) yl).trans y0
  have hown4:w4.ownsRow w0.heap.size 38 2 (.slice pa RL.length pc) RL.length (RL.flatMap encP):=ownsRow_below4 HOX.out b4
  have HO4:Hid (OwnP 38 w0.heap.size RL (.slice pa RL.length pc) w4):=hown4
  obtain ⟨LV,hLV⟩:∃ LV,RL.flatMap encP=LV:=⟨_,rfl⟩
  have HLV:Hid (RL.flatMap encP=LV):=hLV
  rw [hLV] at hown4
  have hsz4:=B4.size
  clear hLV HX b4 y0 yl HOX BX
  cases hx:tornA x with
  | false =>
    have HN:=HNO.out hx
    have HN2:Hid (T++tornRow i (r.acts.take (k+1))=RL):=HN
    clear HNO HYES HN hx
    go_wp2_with fail
    exact ⟨⟨k+1,by go_num,by omega,by rw [HN2.out]; exact HO4.out,B4⟩,by simp [intOf]; omega⟩
  | true =>
    have HN2:Hid (T++tornRow i (r.acts.take (k+1))=RL++[((i:Int),x.look)]):=HYES.out hx
    clear HNO HYES hx
    go_wp2_with (at_builtin; refine wpList_append_own _ rfl (.tmp 25) (.tmp 30) 36 rfl w0.heap.size 38 i0 _ 2 16 Tryz.underlying36 hi0 hz0 hz1 hz2 rfl (by decide) _ RL.length LV rfl (World.ownsRow.alloc hown4 _) ⟨w4.heap.size,0,none⟩ 1 1 (encP ((i:Int),x.look)) rfl rfl (by first | exact new_cellP w4 ((i:Int),x.look) _ | (have:=new_cellP w4 ((i:Int),x.look) 38; simpa [encP] using this)) (by intro u hu; simp [encP] at hu; rcases hu with rfl | rfl <;> rfl) (by unfold maxLen; omega) (by omega) (by simp; omega) ?_)
    intro v9 w9 hown9 hg9 _
    have B9:Below w0.heap.size w0 w9:=(B4.alloc hsz4 _).grown hg9 (by simp; omega) (fun k e=>(World.ownsRow.lt hown4 k e).1)
    obtain ⟨a9,c9,rfl⟩:=own_slice2 hown9
    have HW9:Hid (OwnP 38 w0.heap.size (RL++[((i:Int),x.look)]) (.slice a9 (RL.length+1) c9) w9):=by
      show World.ownsRow _ _ _ _ _ _ _
      have:=hown9
      rw [← HLV.out] at this
      simpa [encP] using this
    clear hown9 hg9 hown4 y4
    go_wp2_with fail
    exact ⟨⟨k+1,by go_num,by omega,by rw [HN2.out]; exact HW9.out,B9⟩,by simp [intOf]; omega⟩
theorem take_ext {l m:List Int} (hlen:l.length=m.length) (h:∀ k,k<l.length→l[k]?=m[k]?):l=m:=by
  apply List.ext_getElem?
  intro k
  rcases Nat.lt_or_ge k l.length with hk | hk
  · exact h k hk
  · rw [List.getElem?_eq_none hk,List.getElem?_eq_none (by omega)]
set_option maxRecDepth 100000 in
set_option maxHeartbeats 1600000 in
theorem rsameAct_any (a b:Ac) (u v:Value) (w:World) (hu:SlI a.red u w) (hv:SlI b.red v w) (hbd:a.red.length≤140737488351232) :
    Calls Tryz.prog 39 #[.agg #[.int .i64 a.look,.int .i64 a.to,u,.bool a.acc],.agg #[.int .i64 b.look,.int .i64 b.to,v,.bool b.acc]] w fun e w'=>e=.returned (.bool (decide (a=b)))∧Below w.heap.size w w':=by
  have HU:Hid (∀ W,Below w.heap.size w W→SlI a.red u W∧SlI b.red v W):=fun W hb=>⟨hu.next hb,hv.next hb⟩
  obtain ⟨ua,uc,rfl,_⟩:=hu
  obtain ⟨va,vc,rfl,_⟩:=hv
  obtain ⟨a0,a1,ar,a3⟩:=a
  obtain ⟨b0,b1,br,b3⟩:=b
  simp only at *
  have B0:Below w.heap.size w ((w.alloc (Obj.cells #[.int .i64 a0,.int .i64 a1,.slice ua ar.length uc,.bool a3] 45)).alloc (Obj.cells #[.int .i64 b0,.int .i64 b1,.slice va br.length vc,.bool b3] 45)):=((Below.refl _ _).alloc (Nat.le_refl _) _).alloc (by simp) _
  have x0:((w.alloc (Obj.cells #[.int .i64 a0,.int .i64 a1,.slice ua ar.length uc,.bool a3] 45)).alloc (Obj.cells #[.int .i64 b0,.int .i64 b1,.slice va br.length vc,.bool b3] 45)).cell? ⟨w.heap.size,0,none⟩=some (.int .i64 a0):=by simp
  have x1:((w.alloc (Obj.cells #[.int .i64 a0,.int .i64 a1,.slice ua ar.length uc,.bool a3] 45)).alloc (Obj.cells #[.int .i64 b0,.int .i64 b1,.slice va br.length vc,.bool b3] 45)).cell? ⟨w.heap.size,1,none⟩=some (.int .i64 a1):=by simp
  have x2:((w.alloc (Obj.cells #[.int .i64 a0,.int .i64 a1,.slice ua ar.length uc,.bool a3] 45)).alloc (Obj.cells #[.int .i64 b0,.int .i64 b1,.slice va br.length vc,.bool b3] 45)).cell? ⟨w.heap.size,2,none⟩=some (.slice ua ar.length uc):=by simp
  have x3:((w.alloc (Obj.cells #[.int .i64 a0,.int .i64 a1,.slice ua ar.length uc,.bool a3] 45)).alloc (Obj.cells #[.int .i64 b0,.int .i64 b1,.slice va br.length vc,.bool b3] 45)).cell? ⟨w.heap.size,3,none⟩=some (.bool a3):=by simp
  have y0:((w.alloc (Obj.cells #[.int .i64 a0,.int .i64 a1,.slice ua ar.length uc,.bool a3] 45)).alloc (Obj.cells #[.int .i64 b0,.int .i64 b1,.slice va br.length vc,.bool b3] 45)).cell? ⟨w.heap.size+1,0,none⟩=some (.int .i64 b0):=by simp
  have y1:((w.alloc (Obj.cells #[.int .i64 a0,.int .i64 a1,.slice ua ar.length uc,.bool a3] 45)).alloc (Obj.cells #[.int .i64 b0,.int .i64 b1,.slice va br.length vc,.bool b3] 45)).cell? ⟨w.heap.size+1,1,none⟩=some (.int .i64 b1):=by simp
  have y2:((w.alloc (Obj.cells #[.int .i64 a0,.int .i64 a1,.slice ua ar.length uc,.bool a3] 45)).alloc (Obj.cells #[.int .i64 b0,.int .i64 b1,.slice va br.length vc,.bool b3] 45)).cell? ⟨w.heap.size+1,2,none⟩=some (.slice va br.length vc):=by simp
  have y3:((w.alloc (Obj.cells #[.int .i64 a0,.int .i64 a1,.slice ua ar.length uc,.bool a3] 45)).alloc (Obj.cells #[.int .i64 b0,.int .i64 b1,.slice va br.length vc,.bool b3] 45)).cell? ⟨w.heap.size+1,3,none⟩=some (.bool b3):=by simp
  have hs2:((w.alloc (Obj.cells #[.int .i64 a0,.int .i64 a1,.slice ua ar.length uc,.bool a3] 45)).alloc (Obj.cells #[.int .i64 b0,.int .i64 b1,.slice va br.length vc,.bool b3] 45)).heap.size=w.heap.size+2:=by simp
  go_enter Tryz.func39,Tryz.ntmps39
  go_upto_region 1 with fail
  generalize (w.alloc (Obj.cells #[.int .i64 a0,.int .i64 a1,.slice ua ar.length uc,.bool a3] 45)).alloc (Obj.cells #[.int .i64 b0,.int .i64 b1,.slice va br.length vc,.bool b3] 45)=w0 at *
  have HC:Hid (∀ W,Below w0.heap.size w0 W→W.cell? ⟨w.heap.size,2,none⟩=some (.slice ua ar.length uc)∧W.cell? ⟨w.heap.size+1,2,none⟩=some (.slice va br.length vc)):=fun W hb=>⟨(hb.cell (p:=⟨w.heap.size,2,none⟩) (by simp only; omega)).trans x2,(hb.cell (p:=⟨w.heap.size+1,2,none⟩) (by simp only; omega)).trans y2⟩
  by_cases e0:a0=b0
  case neg =>
    have HE:Hid (decide ((⟨a0,a1,ar,a3⟩:Ac)=⟨b0,b1,br,b3⟩)=false):=decide_eq_false (fun h=>e0 (by cases h; rfl))
    have e0':(a0 != b0)=true:=by simpa using e0
    go_wp2_with fail
    go_ret
    exact ⟨by rw [HE.out]; rfl,B0⟩
  subst e0
  by_cases e1:a1=b1
  case neg =>
    have HE:Hid (decide ((⟨a0,a1,ar,a3⟩:Ac)=⟨a0,b1,br,b3⟩)=false):=decide_eq_false (fun h=>e1 (by cases h; rfl))
    have e1':(a1 != b1)=true:=by simpa using e1
    go_wp2_with fail
    go_ret
    exact ⟨by rw [HE.out]; rfl,B0⟩
  subst e1
  by_cases e3:a3=b3
  case neg =>
    have HE:Hid (decide ((⟨a0,a1,ar,a3⟩:Ac)=⟨a0,a1,br,b3⟩)=false):=decide_eq_false (fun h=>e3 (by cases h; rfl))
    have e3':(a3 != b3)=true:=by simpa using e3
    go_wp2_with fail
    go_ret
    exact ⟨by rw [HE.out]; rfl,B0⟩
  subst e3
  by_cases e2:ar.length=br.length
  case neg =>
    have HE:Hid (decide ((⟨a0,a1,ar,a3⟩:Ac)=⟨a0,a1,br,a3⟩)=false):=decide_eq_false (fun h=>e2 (by cases h; rfl))
    have e2':((ar.length:Int) != (br.length:Int))=true:=by simp; omega
    have e2'':¬ (ar.length:Int)=(br.length:Int):=by omega
    go_wp2_with fail
    go_ret
    exact ⟨by rw [HE.out]; rfl,B0⟩
  have HEQ:Hid ((∀ k:Nat,k<ar.length→ar[k]?=br[k]?)→decide ((⟨a0,a1,ar,a3⟩:Ac)=⟨a0,a1,br,a3⟩)=true):=fun h=>decide_eq_true (by rw [take_ext e2 h])
  have HNE:Hid (∀ k:Nat,ar[k]?≠br[k]?→decide ((⟨a0,a1,ar,a3⟩:Ac)=⟨a0,a1,br,a3⟩)=false):=fun k h=>decide_eq_false (fun e=>h (by cases e; rfl))
  have e2':((ar.length:Int) != (br.length:Int))=false:=by simp; omega
  have e2'':(ar.length:Int)=(br.length:Int):=by omega
  go_wp2_with fail
  clear x0 x1 x2 x3 y0 y1 y2 y3
  go_loopw [5] (fun iv wr=>∃ (i:Nat),iv=.int .i64 i∧i≤ar.length∧(∀ k,k<i→ar[k]?=br[k]?)∧Below w0.heap.size w0 wr) (fun i _=>ar.length - (intOf i).toNat)
  case atStart=>exact ⟨0,rfl,Nat.zero_le _,fun k hk=>by omega,Below.refl _ _⟩
  case round =>
  obtain ⟨i,rfl,hi,hall,BR⟩:=hrel
  have HAL:Hid (∀ k,k<i→ar[k]?=br[k]?):=hall
  clear hall
  obtain ⟨x2,y2⟩:=HC.out _ BR
  have BW:=below_then B0 BR B0.size
  by_cases hlt:i<ar.length
  case neg =>
    obtain rfl:i=ar.length:=by omega
    have HE:Hid (decide ((⟨a0,a1,ar,a3⟩:Ac)=⟨a0,a1,br,a3⟩)=true):=HEQ.out HAL.out
    clear HEQ HNE
    go_wp2_with fail
    go_ret
    exact ⟨by rw [HE.out]; rfl,BW⟩
  obtain ⟨s1,s2⟩:=HU.out _ BW
  obtain ⟨_,_,ee,hra,_⟩:=s1
  cases ee
  obtain ⟨_,_,ee,hrb,_⟩:=s2
  cases ee
  have hlt2:i<br.length:=by omega
  obtain ⟨ub,uo,rfl,_,c1⟩:=hra.at (Below.refl _ _) hlt
  obtain ⟨vb,vo,rfl,_,c2⟩:=hrb.at (Below.refl _ _) hlt2
  unfold encI at c1 c2
  have HA1:Hid (ar[i]?=some ar[i]∧br[i]?=some br[i]):=by constructor <;> simp
  generalize ar[i]=p at *
  generalize br[i]=q at *
  clear hra hrb
  by_cases hpq:p=q
  · subst hpq
    have HAN:Hid (∀ k,k<i+1→ar[k]?=br[k]?):=fun k hk=>by
      rcases Nat.lt_or_ge k i with h | h
      · exact HAL.out k h
      · obtain rfl:k=i:=by omega
        rw [HA1.out.1,HA1.out.2]
    clear HA1 HEQ HNE HAL
    go_wp2_with fail
    go_quiet (fail)
    go_wp2_with fail
    exact ⟨⟨i+1,by go_num,by omega,HAN.out,below_drewN BR _⟩,by simp [intOf]; omega⟩
  · have hpq':(p != q)=true:=by simpa using hpq
    have HE:Hid (decide ((⟨a0,a1,ar,a3⟩:Ac)=⟨a0,a1,br,a3⟩)=false):=HNE.out i (by rw [HA1.out.1,HA1.out.2]; simpa using hpq)
    clear HA1 HEQ HNE HAL
    go_wp2_with fail
    go_quiet (fail)
    go_wp2_with fail
    go_ret
    exact ⟨by rw [HE.out]; rfl,below_drewN BW _⟩
def rowF (l:List Rw) (s:Int):Rw:=if 0≤s then (l[s.toNat]?).getD ⟨[],[]⟩ else ⟨[],[]⟩
def actF (l:List Rw) (s look:Int):Ac:=((rowF l s).acts.find? (fun a=>a.look == look)).getD ⟨look,-1,[],false⟩
def goF (l:List Rw) (s sym:Int):Int:=(((rowF l s).goes.find? (fun g=>g.1 == sym)).map (·.2)).getD (-1)
theorem rowF_out {l:List Rw} {s:Int} (h:¬ (0≤s∧s<l.length)):rowF l s=⟨[],[]⟩:=by
  unfold rowF
  by_cases h0:0≤s
  · rw [if_pos h0,List.getElem?_eq_none (by omega)]; rfl
  · rw [if_neg h0]
theorem rowF_in {l:List Rw} {k:Nat} (h:k<l.length):rowF l (k:Int)=l[k]:=by
  unfold rowF
  rw [if_pos (by omega),Int.toNat_natCast,List.getElem?_eq_getElem h]; rfl
set_option maxRecDepth 100000 in
theorem isBelow_any (n m:Int) (w:World):Calls Tryz.prog 77 #[.int .i64 n,.int .i64 m] w fun e w'=>e=.returned (.bool (decide (0≤n∧n<m)))∧w'=w:=by
  go_enter Tryz.func77,Tryz.ntmps77
  by_cases h0:0≤n
  · have d0:decide (0≤n)=true:=decide_eq_true h0
    by_cases h1:n<m
    · have d1:decide (n<m)=true:=decide_eq_true h1
      have HE:Hid (decide (0≤n∧n<m)=true):=decide_eq_true ⟨h0,h1⟩
      go_wp2_with fail
      go_ret
      exact ⟨by first | rfl | (rw [HE.out]; rfl),rfl⟩
    · have d1:decide (n<m)=false:=decide_eq_false h1
      have HE:Hid (decide (0≤n∧n<m)=false):=decide_eq_false (fun h=>h1 h.2)
      go_wp2_with fail
      go_ret
      exact ⟨by first | rfl | (rw [HE.out]; rfl),rfl⟩
  · have d0:decide (0≤n)=false:=decide_eq_false h0
    have HE:Hid (decide (0≤n∧n<m)=false):=decide_eq_false (fun h=>h0 h.1)
    go_wp2_with fail
    go_ret
    exact ⟨by first | rfl | (rw [HE.out]; rfl),rfl⟩
set_option maxRecDepth 100000 in
set_option maxHeartbeats 1600000 in
theorem rowOf_any (l:List Rw) (v:Value) (s:Int) (w:World) (hl:SlW l v w) :
    Calls Tryz.prog 45 #[.agg #[v],.int .i64 s] w fun e w'=>∃ va vg,e=.returned (.agg #[va,vg])∧SlA (rowF l s).acts va w'∧SlG (rowF l s).goes vg w'∧Below w.heap.size w w':=by
  have HL:Hid (∀ W,Below w.heap.size w W→SlW l v W):=fun W hb=>hl.next hb
  have HIB:Hid (∀ (n m:Int) W,Calls Tryz.prog 77 #[.int .i64 n,.int .i64 m] W fun e w'=>e=.returned (.bool (decide (0≤n∧n<m)))∧w'=W):=fun n m W=>isBelow_any n m W
  obtain ⟨la,lc,rfl,_,_,_,hlb⟩:=hl
  have B0:Below w.heap.size w ((w.alloc (Obj.cells #[.slice la l.length lc] 30)).alloc (Obj.cells #[.slice none 0 0,.slice none 0 0] 68)):=((Below.refl _ _).alloc (Nat.le_refl _) _).alloc (by simp) _
  go_enter Tryz.func45,Tryz.ntmps45
  go_wp2_with fail
  refine (HIB.out s l.length _).mono ?_
  rintro e w1 ⟨rfl,rfl⟩
  clear HIB
  by_cases hin:0≤s∧s<l.length
  case neg =>
    have HE:Hid (rowF l s=⟨[],[]⟩):=rowF_out hin
    have hd:decide (0≤s∧s<l.length)=false:=decide_eq_false hin
    rw [hd]
    clear hd hin
    go_wp2_with fail
    refine bodyPost_ret (results_cell_row rfl _ _ (w.heap.size+1) 68 #[.slice none 0 0,.slice none 0 0] (0,0) _ rfl (heap_alloc2_new _ _ _) Tryz.underlying68 rfl (by kernel_rfl)) rfl ?_
    exact ⟨_,_,rfl,by rw [HE.out]; exact SlA.nil _,by rw [HE.out]; exact SlG.nil _,B0⟩
  have hd:decide (0≤s∧s<l.length)=true:=decide_eq_true hin
  rw [hd]
  clear hd
  obtain ⟨k,rfl⟩:∃ k:Nat,s=k:=⟨s.toNat,by omega⟩
  have hk:k<l.length:=by omega
  have HE:Hid (rowF l (k:Int)=l[k]):=rowF_in hk
  obtain ⟨_,_,e0,hrws,_⟩:=HL.out _ (Below.refl _ _)
  cases e0
  obtain ⟨b,off,va,vg,rfl,hb,ca0,cg0,hA,hG⟩:=hrws.at (Below.refl _ _) hk
  have ca:=(B0.cell (p:=⟨b,off+k * 2,none⟩) hb).trans ca0
  have cg:=(B0.cell (p:=⟨b,off+k * 2+1,none⟩) hb).trans cg0
  have HA:Hid (∀ W,Below w.heap.size w W→SlA l[k].acts va W∧SlG l[k].goes vg W):=fun W hb=>⟨hA.next hb,hG.next hb⟩
  obtain ⟨aa,ac,rfl,_⟩:=hA
  obtain ⟨ga,gc,rfl,_⟩:=hG
  generalize l[k]=r at *
  clear hrws ca0 cg0 hin
  have B1:Below w.heap.size w ((w.alloc (Obj.cells #[.slice (some ⟨b,off,none⟩) l.length lc] 30)).alloc (Obj.cells #[.slice aa r.acts.length ac,.slice ga r.goes.length gc] 68)):=((Below.refl _ _).alloc (Nat.le_refl _) _).alloc (by simp) _
  go_wp2_with fail
  refine bodyPost_ret (results_cell_row rfl _ _ (w.heap.size+1) 68 #[.slice aa r.acts.length ac,.slice ga r.goes.length gc] (0,0) _ rfl (heap_alloc2_new _ _ _) Tryz.underlying68 rfl (by kernel_rfl)) rfl ?_
  exact ⟨_,_,rfl,by rw [HE.out]; exact (HA.out _ B1).1,by rw [HE.out]; exact (HA.out _ B1).2,B1⟩
theorem find_take {α:Type} (p:α→Bool) {l:List α} {j:Nat} (hj:j<l.length) (h:∀ k,(hk:k<l.length)→k<j→p l[k]=false) (hp:p l[j]=true):l.find? p=some l[j]:=by
  induction l generalizing j with
  | nil=>simp at hj
  | cons a l ih =>
    cases j with
    | zero=>simp at hp; simp [hp]
    | succ j =>
      have h0:=h 0 (by simp) (by omega)
      simp at h0 hp hj ⊢
      exact .inr ⟨h0,ih hj (fun k hk hkj=>h (k+1) (by simp; exact hk) (by omega)) hp⟩
theorem find_none {α:Type} (p:α→Bool) {l:List α} (h:∀ k,(hk:k<l.length)→p l[k]=false):l.find? p=none:=by
  rw [List.find?_eq_none]
  intro x hx
  obtain ⟨k,hk,rfl⟩:=List.getElem_of_mem hx
  simp [h k hk]
set_option maxRecDepth 100000 in
set_option maxHeartbeats 1600000 in
theorem rgo_any (l:List Rw) (v:Value) (s y:Int) (w:World) (hl:SlW l v w) :
    Calls Tryz.prog 23 #[.agg #[v],.int .i64 s,.int .i64 y] w fun e w'=>e=.returned (.int .i64 (goF l s y))∧Below w.heap.size w w':=by
  have HL:Hid (∀ W,Below w.heap.size w W→SlW l v W):=fun W hb=>hl.next hb
  obtain ⟨la,lc,rfl,_,_,_,hlb⟩:=hl
  have B0:=below_box w (.slice la l.length lc) 30
  have t0:(w.alloc (Obj.cells #[.slice la l.length lc] 30)).cell? ⟨w.heap.size,0,none⟩=some (.slice la l.length lc):=by simp
  go_enter Tryz.func23,Tryz.ntmps23
  go_upto_region 1 with fail
  generalize w.alloc (Obj.cells #[.slice la l.length lc] 30)=w0 at *
  by_cases hin:0≤s∧s<l.length
  case neg =>
    have HE:Hid (goF l s y=-1):=by
      show _=_
      unfold goF; rw [rowF_out hin]; rfl
    have hcase:(decide (s ≥ 0)=false∧¬ s ≥ 0)∨((decide (s ≥ 0)=true∧s ≥ 0)∧decide (s<l.length)=false∧¬ s<l.length):=by
      by_cases g:s ≥ 0
      · exact .inr ⟨⟨decide_eq_true g,g⟩,decide_eq_false (by omega),by omega⟩
      · exact .inl ⟨decide_eq_false g,g⟩
    clear hin
    rcases hcase with ⟨c1,c2⟩ | ⟨⟨c1,c2⟩,c3,c4⟩
    all_goals
      go_wp2_with fail
      go_ret
      exact ⟨by rw [HE.out]; rfl,B0⟩
  obtain ⟨k,rfl⟩:∃ k:Nat,s=k:=⟨s.toNat,by omega⟩
  have hk:k<l.length:=by omega
  have HE:Hid (rowF l (k:Int)=l[k]):=rowF_in hk
  obtain ⟨_,_,e0,hrws,_⟩:=HL.out _ B0
  cases e0
  obtain ⟨b,off,va,vg,rfl,hb,ca,cg,hA,hG⟩:=hrws.at (Below.refl _ _) hk
  obtain ⟨ga,gc,rfl,hgo,_,_,hgb⟩:=hG
  generalize l[k]=r at *
  have HR:Hid (goF l (k:Int) y=((r.goes.find? (fun g=>g.1 == y)).map (·.2)).getD (-1)):=by
    show _=_
    unfold goF; rw [HE.out]
  have c1:decide ((k:Int) ≥ 0)=true:=decide_eq_true (by omega)
  clear hrws hin HE hA
  go_wp2_with fail
  go_loopw [8] (fun iv wr=>∃ (j:Nat),iv=.int .i64 j∧j≤r.goes.length∧(∀ k,(hk:k<r.goes.length)→k<j→(r.goes[k].1 == y)=false)∧wr=w0) (fun i _=>r.goes.length - (intOf i).toNat)
  case atStart=>exact ⟨0,rfl,Nat.zero_le _,fun k _ hk=>by omega,rfl⟩
  case round =>
  obtain ⟨j,rfl,hj,hall,rfl⟩:=hrel
  have HAL:Hid (∀ k,(hk:k<r.goes.length)→k<j→(r.goes[k].1 == y)=false):=hall
  clear hall
  by_cases hlt:j<r.goes.length
  case neg =>
    have HN:Hid (goF l (k:Int) y=-1):=by
      show _=_
      rw [HR.out,find_none _ (fun q hq=>HAL.out q hq (by omega))]; rfl
    clear HR HAL hgo
    go_wp2_with fail
    go_ret
    exact ⟨by rw [HN.out]; rfl,B0⟩
  obtain ⟨b2,off2,rfl,hb2,d0,d1,_⟩:=hgo.at (Below.refl _ _) hlt
  by_cases he:r.goes[j].1=y
  · have HN:Hid (goF l (k:Int) y=r.goes[j].2):=by
      show _=_
      rw [HR.out,find_take _ hlt HAL.out (by simpa using he)]; rfl
    have he':(r.goes[j].1 == y)=true:=by simpa using he
    generalize r.goes[j]=g at *
    clear HR HAL hgo
    go_wp2_with fail
    go_ret
    exact ⟨by rw [HN.out]; rfl,B0⟩
  · have he':(r.goes[j].1 == y)=false:=by simpa using he
    have HA2:Hid (∀ k,(hk:k<r.goes.length)→k<j+1→(r.goes[k].1 == y)=false):=fun q hq hqj=>by
      rcases Nat.lt_or_ge q j with h | h
      · exact HAL.out q hq h
      · obtain rfl:q=j:=by omega
        exact he'
    generalize r.goes[j]=g at *
    clear HR HAL
    go_wp2_with fail
    exact ⟨⟨j+1,by go_num,by omega,HA2.out,trivial⟩,by simp [intOf]; omega⟩
set_option maxRecDepth 100000 in
set_option maxHeartbeats 1600000 in
theorem go12_any (l:List Rw) (v:Value) (s y:Int) (w:World) (hl:SlW l v w) :
    Calls Tryz.prog 22 #[.agg #[v],.int .i64 s,.int .i64 y] w fun e w'=>e=.returned (.int .i64 (goF l s y))∧Below w.heap.size w w':=by
  have B0:=below_box w v 30
  have HRO:=rowOf_any l v s _ (hl.next B0)
  obtain ⟨la,lc,rfl,_,_,_,hlb⟩:=hl
  have t0:(w.alloc (Obj.cells #[.slice la l.length lc] 30)).cell? ⟨w.heap.size,0,none⟩=some (.slice la l.length lc):=by simp
  have HR:Hid (goF l s y=(((rowF l s).goes.find? (fun g=>g.1 == y)).map (·.2)).getD (-1)):=rfl
  generalize rowF l s=r at *
  go_enter Tryz.func22,Tryz.ntmps22
  go_wp2_with fail
  generalize w.alloc (Obj.cells #[.slice la l.length lc] 30)=w0 at *
  refine HRO.mono ?_
  rintro e w1 ⟨va,vg,rfl,hA,hG,b1⟩
  have B1:=below_then B0 b1 B0.size
  have HG:Hid (∀ W,Below w1.heap.size w1 W→SlG r.goes vg W):=fun W hb=>hG.next hb
  obtain ⟨ga,gc,rfl,_,_,_,hgb⟩:=hG
  obtain ⟨aa,ac,rfl,_⟩:=hA
  clear HRO t0 b1 B0
  have hfd:∀ W:World,(Instr.field 68 (.agg #[.slice aa r.acts.length ac,.slice ga r.goes.length gc]) 1).run Tryz.prog W=.ok (.slice ga r.goes.length gc) W:=fun _=>by kernel_rfl
  go_wp2_with fail
  clear hfd
  go_loopw [14] (fun iv wr=>∃ (j:Nat),iv=.int .i64 j∧j≤r.goes.length∧(∀ k,(hk:k<r.goes.length)→k<j→(r.goes[k].1 == y)=false)∧Below w1.heap.size w1 wr) (fun i _=>r.goes.length - (intOf i).toNat)
  case atStart=>exact ⟨0,rfl,Nat.zero_le _,fun k _ hk=>by omega,Below.refl _ _⟩
  case round =>
  obtain ⟨j,rfl,hj,hall,BR⟩:=hrel
  have HAL:Hid (∀ k,(hk:k<r.goes.length)→k<j→(r.goes[k].1 == y)=false):=hall
  clear hall
  have BW:=below_then B1 BR B1.size
  by_cases hlt:j<r.goes.length
  case neg =>
    have HN:Hid (goF l s y=-1):=by
      show _=_
      rw [HR.out,find_none _ (fun q hq=>HAL.out q hq (by omega))]; rfl
    clear HR HAL
    go_wp2_with fail
    go_ret
    exact ⟨by rw [HN.out]; rfl,BW⟩
  obtain ⟨_,_,e0,hgo,_⟩:=HG.out _ BR
  cases e0
  obtain ⟨b2,off2,rfl,hb2,d0,d1,_⟩:=hgo.at (Below.refl _ _) hlt
  have HA2:Hid ((r.goes[j].1 == y)=false→∀ k,(hk:k<r.goes.length)→k<j+1→(r.goes[k].1 == y)=false):=fun he q hq hqj=>by
    rcases Nat.lt_or_ge q j with h | h
    · exact HAL.out q hq h
    · obtain rfl:q=j:=by omega
      exact he
  have HN:Hid (r.goes[j].1=y→goF l s y=r.goes[j].2):=fun he=>by
    rw [HR.out,find_take _ hlt HAL.out (by simpa using he)]; rfl
  generalize r.goes[j]=g at *
  clear HR HAL hgo
  have BX:Below w.heap.size w (wr.alloc (Obj.cells #[.int .i64 g.1,.int .i64 g.2] 75)):=BW.alloc BW.size _
  have BX1:Below w1.heap.size w1 (wr.alloc (Obj.cells #[.int .i64 g.1,.int .i64 g.2] 75)):=BR.alloc BR.size _
  have y0:(wr.alloc (Obj.cells #[.int .i64 g.1,.int .i64 g.2] 75)).cell? ⟨wr.heap.size,0,none⟩=some (.int .i64 g.1):=by simp
  have y1:(wr.alloc (Obj.cells #[.int .i64 g.1,.int .i64 g.2] 75)).cell? ⟨wr.heap.size,1,none⟩=some (.int .i64 g.2):=by simp
  by_cases he:g.1=y
  · have HN2:Hid (goF l s y=g.2):=HN.out he
    have he':(g.1 == y)=true:=by simpa using he
    clear HN HA2
    go_wp2_with fail
    go_ret
    exact ⟨by rw [HN2.out]; rfl,by rw [he] at BX; exact BX⟩
  · have he':(g.1 == y)=false:=by simpa using he
    have HA3:Hid (∀ k,(hk:k<r.goes.length)→k<j+1→(r.goes[k].1 == y)=false):=HA2.out he'
    clear HN HA2
    go_wp2_with fail
    exact ⟨⟨j+1,by go_num,by omega,HA3.out,BX1⟩,by simp [intOf]; omega⟩
end Go.Proofs.YtbilbgjojdlobaaGreatDoor
