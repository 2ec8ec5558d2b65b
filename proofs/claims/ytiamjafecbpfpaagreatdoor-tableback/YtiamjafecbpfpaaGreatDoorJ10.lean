import Derived.Test.YtiamjafecbpfpaaGreatDoorJ01
import Derived.Test.YtiamjafecbpfpaaGreatDoorJ03
import Derived.Test.YtiamjafecbpfpaaGreatDoorJ04
import Derived.Test.YtiamjafecbpfpaaGreatDoorJ05
import Derived.Test.YtiamjafecbpfpaaGreatDoorJ07
import Derived.Test.YtiamjafecbpfpaaGreatDoorJ08
import Derived.Test.YtiamjafecbpfpaaGreatDoorJ09

namespace Go.Proofs.YtiamjafecbpfpaaGreatDoor
open Go.RowKit Go.Shelf
attribute [local go_sem] Oper.semAt_some
structure AW (f:Fl) (Mm P2 P3 P5 P6:Nat) (E:Nat→Prop) (T Tm:List (List Ir)) (wv:Value) (W:World):Prop where
  met:Met f T
  nodup:T.Nodup
  len:T.length+1≤600
  wo:OwnZ E (begL f :: T) wv W
  mp:MapSet 9 valK Mm Tm W
  c5:W.cell? ⟨P5,0,none⟩=some (.map (some Mm))
  c6:W.cell? ⟨P6,0,none⟩=some wv
  f6:W.frozen? ⟨P6,0,none⟩=false
  c2:W.cell? ⟨P2,0,none⟩=some (.slice none 0 0)
  f2:W.frozen? ⟨P2,0,none⟩=false
  c3:W.cell? ⟨P3,0,none⟩=some (.int .i64 0)
  f3:W.frozen? ⟨P3,0,none⟩=false
  w2:¬ inB wv P2
  w3:¬ inB wv P3
  w5:¬ inB wv P5
  w6:¬ inB wv P6
  wm:¬ inB wv Mm
def SepA (Mm P2 P3 P6:Nat) (Z:Nat→Prop) (wv:Value) (W:World):Prop:=∀ k,Z k→k<W.heap.size∧¬ inB wv k∧k≠P2∧k≠P3∧k≠P6∧k≠Mm
theorem AW.keep {f:Fl} {Mm P2 P3 P5 P6:Nat} {E D:Nat→Prop} {T Tm:List (List Ir)} {wv:Value} {W W':World} (h:AW f Mm P2 P3 P5 P6 E T Tm wv W) (hb:But D W W') (h2:¬ D P2) (h3:¬ D P3) (h5:¬ D P5) (h6:¬ D P6) (hm:¬ D Mm) (hv:∀ k,inB wv k→¬ D k) (hE:∀ k,k<W.heap.size→D k→(∀ off u,W.cell? ⟨k,off,none⟩≠some u)∨¬ E k):AW f Mm P2 P3 P5 P6 E T Tm wv W':=by
  have c:∀ {p:Nat} {v:Value},¬ D p→W.cell? ⟨p,0,none⟩=some v→W'.cell? ⟨p,0,none⟩=some v:=fun {p v} hp hc=>(hb.cell (p:=⟨p,0,none⟩) (World.block_lt_of_cell? _ _ hc) hp).trans hc
  have z:∀ {p:Nat} {v:Value},¬ D p→W.cell? ⟨p,0,none⟩=some v→W.frozen? ⟨p,0,none⟩=false→W'.frozen? ⟨p,0,none⟩=false:=fun {p v} hp hc hf=>(hb.frozen (p:=⟨p,0,none⟩) (World.block_lt_of_cell? _ _ hc) hp).trans hf
  exact ⟨h.met,h.nodup,h.len,h.wo.keep hb hv hE,h.mp.but hb hm,c h5 h.c5,c h6 h.c6,z h6 h.c6 h.f6,c h2 h.c2,z h2 h.c2 h.f2,c h3 h.c3,z h3 h.c3 h.f3,h.w2,h.w3,h.w5,h.w6,h.wm⟩
theorem AW.next {f:Fl} {Mm P2 P3 P5 P6:Nat} {E:Nat→Prop} {T Tm:List (List Ir)} {wv:Value} {W W':World} (h:AW f Mm P2 P3 P5 P6 E T Tm wv W) (hb:Below W.heap.size W W'):AW f Mm P2 P3 P5 P6 E T Tm wv W' :=
  h.keep (D:=fun _=>False) (But.of_next hb) id id id id id (fun _ _ h=>h) (fun _ _ h=>h.elim)
theorem AW.newmap {f:Fl} {Mm P2 P3 P5 P6:Nat} {E:Nat→Prop} {T Tm T2:List (List Ir)} {wv:Value} {W W':World} (h:AW f Mm P2 P3 P5 P6 E T Tm wv W) (hb:But (fun k=>k=Mm) W W') (hm:MapSet 9 valK Mm T2 W') (o:P2<P3∧P3<Mm∧Mm<P5∧P5<P6):AW f Mm P2 P3 P5 P6 E T T2 wv W':=by
  have c:∀ {p:Nat} {v:Value},p≠Mm→W.cell? ⟨p,0,none⟩=some v→W'.cell? ⟨p,0,none⟩=some v:=fun {p v} hp hc=>(hb.cell (p:=⟨p,0,none⟩) (World.block_lt_of_cell? _ _ hc) hp).trans hc
  have z:∀ {p:Nat} {v:Value},p≠Mm→W.cell? ⟨p,0,none⟩=some v→W.frozen? ⟨p,0,none⟩=false→W'.frozen? ⟨p,0,none⟩=false:=fun {p v} hp hc hf=>(hb.frozen (p:=⟨p,0,none⟩) (World.block_lt_of_cell? _ _ hc) hp).trans hf
  exact ⟨h.met,h.nodup,h.len,h.wo.keep hb (fun k hk e=>h.wm (e ▸ hk)) (fun k _ e=>.inl (by subst e; exact h.mp.notCells)),hm,c (by omega) h.c5,c (by omega) h.c6,z (by omega) h.c6 h.f6,c (by omega) h.c2,z (by omega) h.c2 h.f2,c (by omega) h.c3,z (by omega) h.c3 h.f3,h.w2,h.w3,h.w5,h.w6,h.wm⟩
structure LV (Bz:Nat) (w:World) (Ds:List Nat) (Et:Nat→Prop) (Tl:List (List Ir)) (tv:Value) (W:World):Prop where
  tl:OwnZ Et Tl tv W
  mks:Mk Bz Ds W
  bw:Below Bz w W
def ZL (Bz P5:Nat) (Ds:List Nat) (Et:Nat→Prop) (tv:Value) (k:Nat):Prop:=k<Bz∨k=P5∨k∈Ds∨Et k∨inB tv k
theorem LV.keep {Bz P5:Nat} {w:World} {Ds:List Nat} {Et D:Nat→Prop} {Tl:List (List Ir)} {tv:Value} {W W':World} (h:LV Bz w Ds Et Tl tv W) (hs:Bz≤W.heap.size) (hb:But D W W') (hz:∀ k,ZL Bz P5 Ds Et tv k→¬ D k):LV Bz w Ds Et Tl tv W' :=
  ⟨h.tl.keep hb (fun k hk=>hz k (.inr (.inr (.inr (.inr hk))))) (fun k _ hd=>.inr fun he=>hz k (.inr (.inr (.inr (.inl he)))) hd),⟨h.mks.1,fun d hd=>⟨(h.mks.2 d hd).1,hb.same (h.mks.2 d hd).2 (hz d (.inr (.inr (.inl hd))))⟩⟩,h.bw.trans (hb.below hs (fun k hk=>Nat.le_of_not_lt fun hl=>hz k (.inl hl) hk))⟩
def RA (f:Fl) (w:World) (Bz Mm P2 P3 P5 P6:Nat) (Ds:List Nat) (Et:Nat→Prop) (Tl:List (List Ir)) (tv:Value) (T0:List (List Ir)) (E0:Nat→Prop) (Bk:Nat) (A:Nat→Prop) (pre:List (List Ir × Value)) (W:World):Prop :=
  ∃ T wv E,(rowK (pre.map (·.1)) T0=some T∧∀ k,E k→E0 k∨Bk≤k)∧AW f Mm P2 P3 P5 P6 E T T wv W∧SepA Mm P2 P3 P6 (fun k=>A k∨ZL Bz P5 Ds Et tv k∨E k) wv W∧LV Bz w Ds Et Tl tv W
def RX (f:Fl) (w:World) (l:List Ir) (Bz P2 P3:Nat) (Ds:List Nat) (T0:List (List Ir)) (W:World):Prop :=
  rowK (kernsL f l) T0=none∧W.cell? ⟨P2,0,none⟩=some (.slice none 0 0)∧W.cell? ⟨P3,0,none⟩=some (.int .i64 15)∧Mk Bz Ds W∧Below Bz w W
theorem no_cell {W:World} {k:Nat} (h:∃ r,W.heap[k]?=some (.loop r)):∀ off u,W.cell? ⟨k,off,none⟩≠some u:=by
  obtain ⟨r,h⟩:=h
  intro off u e
  simp [World.cell?,h] at e
theorem But.nots {A:Nat→Prop} {s:Nat} {a b:World} (h:But (fun k=>¬ (A k∨k=s∨k=s+1)) a b):But (fun k=>¬ A k∧¬ k=s∧¬ k=s+1) a b:=h.mono (fun _ _ h=>⟨fun h'=>h (.inl h'),fun h'=>h (.inr (.inl h')),fun h'=>h (.inr (.inr h'))⟩)
theorem rowK_one (K:List Ir) (T:List (List Ir)):rowK [K] T=if K∈T then some T else if T.length+1=600 then none else some (T++[K]):=by
  rw [rowK]
  split
  · rfl
  · split <;> rfl
theorem bind_none_prefix {KL Ks:List (List Ir)} {T:List (List Ir)} (hp:Ks <+: KL) (h:rowK Ks T=none):rowK KL T=none:=by
  obtain ⟨r,rfl⟩:=hp
  rw [rowK_append,h]; rfl
set_option maxRecDepth 100000 in
set_option maxHeartbeats 4000000 in
theorem all_range (n:Nat) (hn:5≤n) (f:Fl) (a:FlA) (Le:List Bool) (R:List (List Int)) (V:Nat) (l:List Ir) (la:Option Addr) (lc K1 K2:Nat) (wv0:World) (Bz Mm P2 P3 P5 P6:Nat) (Ds:List Nat) (Et E0:Nat→Prop) (Tl T0:List (List Ir)) (tv wv:Value) (w W:World)
    {t0 t1 t4 t7 t8 t9 t10 t11 t12 t13 t14 t15 t16 t17 t18 t19 t20 t21 t22 t23 t24 t25 t26 t27 t28 t29 t30 t31 t32 t33 t34 t36 t37 t38 t39 t40 t41 t42 t43 t44 t45 t46 t47 t48 t49:Value} {Q:Exit→Act→World→Prop}
    (hv:VwAt f a V Le R wv0) (hf:FlAt f a wv0) (hB:Below wv0.heap.size wv0 W) (hp:FitP f) (hk1:W.cell? ⟨K1,0,none⟩=some (.pointer (some ⟨V,0,none⟩))) (hk2:W.cell? ⟨K2,0,none⟩=some (.slice la l.length lc)) (hl:SlL l (.slice la l.length lc) W) (hr:RisingI l) (hll:l.length≤maxI)
    (hord:P2<P3∧P3<Mm∧Mm<P5∧P5<P6) (h:AW f Mm P2 P3 P5 P6 E0 T0 T0 wv W) (hz:SepA Mm P2 P3 P6 (fun k=>ZL Bz P5 Ds Et tv k∨E0 k) wv W) (hL:LV Bz w Ds Et Tl tv W) (hBz:Bz≤P2)
    (hQ:∀ (T:List (List Ir)) (wv':Value) (E:Nat→Prop) (W':World),rowK (kernsL f l) T0=some T→(∀ k,E k→E0 k∨W.heap.size≤k)→W.heap.size≤W'.heap.size→AW f Mm P2 P3 P5 P6 E T T wv' W'→SepA Mm P2 P3 P6 (fun k=>ZL Bz P5 (W.heap.size :: Ds) Et tv k∨E k) wv' W'→LV Bz w (W.heap.size :: Ds) Et Tl tv W'→Q .normal { tmps:=#[t0,t1,.pointer (some ⟨P2,0,none⟩),.pointer (some ⟨P3,0,none⟩),t4,.pointer (some ⟨P5,0,none⟩),.pointer (some ⟨P6,0,none⟩),t7,t8,t9,t10,t11,t12,t13,t14,t15,t16,t17,t18,t19,t20,t21,t22,t23,t24,t25,t26,t27,t28,t29,t30,t31,t32,t33,t34,.func (.func 81) #[] #[.pointer (some ⟨K1,0,none⟩),.pointer (some ⟨K2,0,none⟩)],t36,t37,t38,t39,t40,t41,t42,t43,t44,t45,t46,t47,t48,t49],defers:=mark W.heap.size :: Ds.map mark } W')
    (hX:∀ W',RX f w l Bz P2 P3 (W.heap.size :: Ds) T0 W'→Q .ret { tmps:=#[t0,t1,.pointer (some ⟨P2,0,none⟩),.pointer (some ⟨P3,0,none⟩),t4,.pointer (some ⟨P5,0,none⟩),.pointer (some ⟨P6,0,none⟩),t7,t8,t9,t10,t11,t12,t13,t14,t15,t16,t17,t18,t19,t20,t21,t22,t23,t24,t25,t26,t27,t28,t29,t30,t31,t32,t33,t34,.func (.func 81) #[] #[.pointer (some ⟨K1,0,none⟩),.pointer (some ⟨K2,0,none⟩)],t36,t37,t38,t39,t40,t41,t42,t43,t44,t45,t46,t47,t48,t49],defers:=mark W.heap.size :: Ds.map mark } W') :
    (Code.rangeFunc (Operand.tmp 35) #[36] (Code.region 10 #[⟨some 9,.assign (.tmp 36),84, "all.go:17",#[],none⟩] false) (Code.block 3 (((Code.region 11 #[⟨some 37,.load 135 (.tmp 5),135, "all.go:18",#[],none⟩,⟨some 38,.move (.tmp 9),84, "all.go:18",#[],none⟩,⟨some 39,.call ⟨.value (.func 62),#[.tmp 38],#[84]⟩,9, "all.go:18",#[⟨1,.data⟩],none⟩,⟨some 40,.call ⟨.value (.func 61),#[.tmp 37,.tmp 39],#[135,9]⟩,4, "all.go:18",#[⟨0,.data⟩,⟨2,.data⟩,⟨2,.chain⟩],none⟩,⟨some 41,.unOp .not 4 (.tmp 40),4, "all.go:18",#[⟨3,.data⟩],none⟩] true).seq (Code.cond (Operand.tmp 41) (Code.exit 3) Code.skip)).seq (((Code.region 12 #[⟨some 42,.load 79 (.tmp 6),79, "all.go:21",#[],none⟩,⟨some 43,.call ⟨.builtin .len,#[.tmp 42],#[79]⟩,3, "all.go:21",#[⟨0,.data⟩],none⟩,⟨some 44,.binOp .eql 3 (.tmp 43) (.const (.int .i64 600)) 3,4, "all.go:21",#[⟨1,.data⟩],none⟩] false).seq (Code.cond (Operand.tmp 44) ((Code.region 13 #[⟨none,.store 79 (.tmp 2) (.const (.slice none 0 0)),0, "all.go:22",#[],none⟩,⟨none,.store 27 (.tmp 3) (.const (.int .i64 15)),0, "all.go:22",#[⟨0,.chain⟩,⟨0,.phase⟩],none⟩] false).seq Code.ret) Code.skip)).seq (Code.region 14 #[⟨some 45,.load 79 (.tmp 6),79, "all.go:24",#[],none⟩,⟨some 46,.move (.tmp 9),84, "all.go:24",#[],none⟩,⟨some 47,.buildSlice 79 1 #[(0,.tmp 46)],79, "all.go:24",#[⟨1,.data⟩],none⟩,⟨some 48,.call ⟨.builtin .append,#[.tmp 45,.tmp 47],#[79,79]⟩,79, "all.go:24",#[⟨0,.data⟩,⟨2,.data⟩],none⟩,⟨none,.store 79 (.tmp 6) (.tmp 48),0, "all.go:24",#[⟨3,.data⟩,⟨3,.chain⟩,⟨0,.phase⟩,⟨1,.phase⟩,⟨2,.phase⟩,⟨3,.phase⟩],none⟩] false))))).wpIn Fence.wide n Tryz.prog Q { tmps:=#[t0,t1,.pointer (some ⟨P2,0,none⟩),.pointer (some ⟨P3,0,none⟩),t4,.pointer (some ⟨P5,0,none⟩),.pointer (some ⟨P6,0,none⟩),t7,t8,t9,t10,t11,t12,t13,t14,t15,t16,t17,t18,t19,t20,t21,t22,t23,t24,t25,t26,t27,t28,t29,t30,t31,t32,t33,t34,.func (.func 81) #[] #[.pointer (some ⟨K1,0,none⟩),.pointer (some ⟨K2,0,none⟩)],t36,t37,t38,t39,t40,t41,t42,t43,t44,t45,t46,t47,t48,t49],defers:=Ds.map mark } W:=by
  obtain ⟨o1,o2,o3,o4⟩:=hord
  have hP6:P6<W.heap.size:=World.block_lt_of_cell? _ _ h.c6
  have hDl:=hL.mks.lt
  have htl:∀ k,inB tv k→k<W.heap.size:=fun k hk=>hL.tl.inLt hk
  have hn6:f.n≤600:=hp.size
  refine wpIn_range_W (α:=List Ir × Value) (by omega) (gf:=81) (lb:=#[.pointer (some ⟨K1,0,none⟩),.pointer (some ⟨K2,0,none⟩)]) rfl (enters_of Tryz.func81 (by kernel_rfl) rfl)
    (A0:=fun _=>False) (fun _=>rfl)
    (fun W' hb=>kern1_gives (n - 1) (by omega) f a Le R V l la lc K1 K2 _ wv0 W' hv hf (hB.trans (hb.mono hB.size)) hp ((hb.cell (p:=⟨K1,0,none⟩) (World.block_lt_of_cell? _ _ hk1)).trans hk1) ((hb.cell (p:=⟨K2,0,none⟩) (World.block_lt_of_cell? _ _ hk2)).trans hk2) (hl.next hb) hll W.heap.size hb.size)
    (RA f w Bz Mm P2 P3 P5 P6 Ds Et Tl tv T0 E0 W.heap.size) ⟨?_,?_,?_⟩ (fun _ _ _ _=>trivial) ?_ ?_ ?_ (fun x a'=>a'={ tmps:=#[t0,t1,.pointer (some ⟨P2,0,none⟩),.pointer (some ⟨P3,0,none⟩),t4,.pointer (some ⟨P5,0,none⟩),.pointer (some ⟨P6,0,none⟩),t7,t8,x.2,t10,t11,t12,t13,t14,t15,t16,t17,t18,t19,t20,t21,t22,t23,t24,t25,t26,t27,t28,t29,t30,t31,t32,t33,t34,.func (.func 81) #[] #[.pointer (some ⟨K1,0,none⟩),.pointer (some ⟨K2,0,none⟩)],x.2,t37,t38,t39,t40,t41,t42,t43,t44,t45,t46,t47,t48,t49],defers:=[] }) (RX f w l Bz P2 P3 Ds T0) ?_ ?_ ?_ ?_
  · rintro A pre W1 W2 ⟨T,v,E,g1,g2,g3,g4⟩ hb
    have hp2:P2<W1.heap.size:=World.block_lt_of_cell? _ _ g2.c2
    have hp6:P6<W1.heap.size:=World.block_lt_of_cell? _ _ g2.c6
    refine ⟨T,v,E,g1,g2.next hb,fun k hk=>?_,g4.keep (P5:=P5) (by omega) (D:=fun _=>False) (But.of_next hb) (fun _ _ h=>h)⟩
    rcases hk with (hk | hk) | hk
    · exact ⟨Nat.lt_of_lt_of_le (g3 k (.inl hk)).1 hb.size,(g3 k (.inl hk)).2⟩
    · exact ⟨hk.2,fun h'=>by have:=g2.wo.inLt h'; omega,by omega,by omega,by omega,by omega⟩
    · exact ⟨Nat.lt_of_lt_of_le (g3 k (.inr hk)).1 hb.size,(g3 k (.inr hk)).2⟩
  · rintro A pre W1 k ⟨T,v,E,g1,g2,g3,g4⟩ hk
    exact (g3 k (.inl hk)).1
  · rintro A A' pre W1 ⟨T,v,E,g1,g2,g3,g4⟩ hk
    exact ⟨T,v,E,g1,g2,fun k h=>g3 k (h.imp (hk k) id),g4⟩
  · rintro A pre W1 W2 ⟨T,v,E,g1,g2,g3,g4⟩ hb hA hlp
    have hp2:P2<W1.heap.size:=World.block_lt_of_cell? _ _ g2.c2
    refine ⟨T,v,E,g1,g2.keep hb (by omega) (by omega) (by omega) (by omega) (by omega) (fun k hk e=>(g3 _ (.inl hA)).2.1 (e ▸ hk)) (fun k _ e=>.inl (by subst e; exact no_cell hlp)),fun k hk=>⟨Nat.lt_of_lt_of_le (g3 k hk).1 hb.size,(g3 k hk).2⟩,g4.keep (P5:=P5) (by omega) hb (fun k hk e=>by have:=(hz k (.inl hk)).1; omega)⟩
  · rintro A pre x W1 W2 ⟨k1,k2,k3,k4,k5⟩ hb hlp
    refine ⟨k1,k2.but hb (fun ad n c e hne hd=>?_),k3,k4,k5⟩
    obtain ⟨ao,cap,e0,h1,_⟩:=k2
    rw [e] at e0
    cases e0
    obtain ⟨y,l',hy⟩:=List.exists_cons_of_ne_nil hne
    obtain ⟨b,off,e',_,c0,_⟩:=h1 0 y (by rw [hy]; rfl)
    cases e'
    simp only at hd
    subst hd
    exact no_cell hlp _ _ c0
  · rintro W1 W2 hb hs rfl
    refine ⟨⟨T0,wv,E0,⟨rfl,fun k hk=>.inl hk⟩,h.next hb,fun k hk=>?_,hL.keep (P5:=P5) (by omega) (D:=fun _=>False) (But.of_next hb) (fun _ _ h=>h)⟩,rfl,rfl⟩
    rcases hk with (hk | hk | hk) | hk
    · exact hk.elim
    · exact ⟨by omega,fun h'=>by have:=h.wo.inLt h'; omega,by omega,by omega,by omega,by omega⟩
    · exact ⟨by omega,fun h'=>by have:=h.wo.inLt h'; omega,by omega,by omega,by omega,by omega⟩
    · exact ⟨Nat.lt_of_lt_of_le (hz k hk).1 hb.size,(hz k hk).2⟩
  · rintro lp x W1 K hK
    have HK:=hK _ rfl
    clear hK
    gi_wp2
    exact HK
  · rintro lp A pre ⟨K,u⟩ a' W1 ⟨T,v,E,⟨g1,g5⟩,g2,g3,g4⟩ rfl ⟨k1,k2,k3,k4,ua,uc,k5⟩
    simp only at k1 k2 k3 k4 k5
    subst k5
    obtain ⟨m,hm⟩:∃ m,T.length+1=m:=⟨_,rfl⟩
    have HM:Hid ((begL f :: T).length=m):=hm
    obtain ⟨va,vc,hvv⟩:=g2.wo.shape
    rw [HM.out] at hvv
    subst hvv
    obtain ⟨i0,hi0,hz0,hz1,hz2⟩:=info_parts infoSL
    have hK:Kern f K:=kernsL_kern hr K (k1.subset (by simp))
    have hKl:K.length≤maxI:=items_le hp hK.rise.nodup hK.fit
    unfold maxI at hKl
    have HKY:Hid (∀ W',Below W1.heap.size W1 W'→Calls Tryz.prog 62 #[.slice ua K.length uc] W' fun e w'=>e=.returned (.string (keyK K))∧Below W'.heap.size W' w'):=fun W' hb=>keyOf_any K _ W' (k2.next hb) (fun x hx=>fit_key hp (hK.fit x hx)) k3 (by omega)
    have HNW:Hid (∀ W',Below W1.heap.size W1 W'→Calls Tryz.prog 61 #[.map (some Mm),.string (keyK K)] W' fun e w'=>NewP 9 valK Mm T K W' e w'):=fun W' hb=>isNewT_any Mm T K W' ((g2.next hb).mp) ⟨by
        show (K.flatMap keyI).toArray.size≤maxLen
        have:=keyL_len K
        unfold keyL at this
        simp only [List.size_toArray,this]
        unfold maxLen
        omega,fun y hy e=>keyK_inj (fun x hx=>fit_key hp (hK.fit x hx)) (fun x hx=>fit_key hp ((g2.met y hy).fit x hx)) e⟩ (by have:=g2.len; omega)
    have HPRE:Hid ((pre++[(K,Value.slice ua K.length uc)]).map (·.1)=pre.map (·.1)++[K]):=by show _=_; simp
    have HRK:Hid (rowK (pre.map (·.1)++[K]) T0=if K∈T then some T else if T.length+1=600 then none else some (T++[K])):=by
      show _=_
      rw [rowK_append,g1,Option.bind_some,rowK_one]
    have HG2:Hid (AW f Mm P2 P3 P5 P6 E T T (.slice va m vc) W1):=g2
    have HG3:Hid (SepA Mm P2 P3 P6 (fun k=>(A k∨k=W.heap.size∨k=W.heap.size+1)∨ZL Bz P5 Ds Et tv k∨E k) (.slice va m vc) W1):=g3
    have HG4:Hid (LV Bz w Ds Et Tl tv W1):=g4
    have HK2:Hid (SlL K (.slice ua K.length uc) W1∧∀ ad n c,Value.slice ua K.length uc=.slice (some ad) n c→A ad.block∧W.heap.size≤ad.block):=⟨k2,k4⟩
    have HG5:Hid (∀ k,E k→E0 k∨W.heap.size≤k):=g5
    have HKN:Hid (Kern f K∧pre.map (·.1)++[K] <+: kernsL f l):=⟨hK,k1⟩
    have c5:=g2.c5
    have hTl:=g2.len
    have HSS:Hid (∀ W',Below W1.heap.size W1 W'→W'.cell? ⟨P5,0,none⟩=some (.map (some Mm))):=fun W' hb=>(g2.next hb).c5
    have hS0:=HSS.out _ (Below.refl _ W1).drew
    have hlp2:P2<W1.heap.size:=World.block_lt_of_cell? _ _ g2.c2
    clear g1 g2 g3 g4 g5 k1 k2 k3 k4 hK hQ hX h hz hL hv hf hB hk1 hk2 hl hr c5 HPRE
    have HPRE:Hid ((pre++[(K,Value.slice ua K.length uc)]).map (·.1)=pre.map (·.1)++[K]):=by show _=_; simp
    gi_wp2
    refine wpIn_region_L (fun W=>W.cell? ⟨P5,0,none⟩=some (.map (some Mm))) 5 (by kernel_rfl) 5 rfl (by kernel_rfl) (by rintro ⟨_,_,h⟩; rcases h with ⟨h,_⟩ | ⟨h,_⟩ <;> cases h) ?_
    refine wpAnyL_take' (i:=0) (v:=?_) (oi:=⟨some 37,.load 135 (.tmp 5),135, "all.go:18",#[],none⟩) rfl (by kernel_rfl) (by kernel_rfl) (by kernel_rfl) (by kernel_rfl) rfl (fun _ _ _ h=>by rcases h with ⟨h,_⟩ | ⟨h,_⟩ <;> cases h) (Or.inl ⟨by rfl,?_⟩) hS0 ?_
    rotate_left
    · intro W hSW
      go_simp
      try with_reducible rfl
    simp only [Act.put,sA,s0,sS]
    refine wpAnyL_take' (i:=1) (v:=?_) (oi:=⟨some 38,.move (.tmp 9),84, "all.go:18",#[],none⟩) rfl (by kernel_rfl) (by kernel_rfl) (by kernel_rfl) (by kernel_rfl) rfl (fun _ _ _ h=>by rcases h with ⟨h,_⟩ | ⟨h,_⟩ <;> cases h) (Or.inl ⟨by rfl,?_⟩) hS0 ?_
    rotate_left
    · intro W hSW
      go_simp
      try with_reducible rfl
    simp only [Act.put,sA,s0,sS]
    refine wpAnyL_one' (i:=2) (o:=⟨some 39,.call ⟨.value (.func 62),#[.tmp 38],#[84]⟩,9, "all.go:18",#[⟨1,.data⟩],none⟩) (by kernel_rfl) rfl rfl (fun KQ hK=>?_)
    go_simp
    refine (HKY.out _ (Below.refl _ W1).drew).mono ?_
    rintro e W2 ⟨rfl,hb2⟩
    have B2:Below W1.heap.size W1 W2:=below_then (Below.refl _ _).drew hb2 (Nat.le_refl _)
    have hS2:=HSS.out _ B2
    refine hK.out _ _ (fun _=>hS2) ?_
    clear hK
    refine wpAnyL_one' (i:=3) (o:=⟨some 40,.call ⟨.value (.func 61),#[.tmp 37,.tmp 39],#[135,9]⟩,4, "all.go:18",#[⟨0,.data⟩,⟨2,.data⟩,⟨2,.chain⟩],none⟩) (by kernel_rfl) rfl rfl (fun KQ hK=>?_)
    go_simp
    refine (HNW.out _ B2).mono ?_
    rintro e W3 ⟨rfl,hm3,hb3⟩
    have BM:But (fun k=>k=Mm) W1 W3:=(But.of_next B2).trans hb3
    have hS3:W3.cell? ⟨P5,0,none⟩=some (.map (some Mm)):=(hb3.cell (p:=⟨P5,0,none⟩) (World.block_lt_of_cell? _ _ hS2) (by simp only; omega)).trans hS2
    refine hK.out _ _ (fun _=>hS3) ?_
    clear hK
    refine wpAnyL_take' (i:=4) (v:=?_) (oi:=⟨some 41,.unOp .not 4 (.tmp 40),4, "all.go:18",#[⟨3,.data⟩],none⟩) rfl (by kernel_rfl) (by kernel_rfl) (by kernel_rfl) (by kernel_rfl) rfl (fun _ _ _ h=>by rcases h with ⟨h,_⟩ | ⟨h,_⟩ <;> cases h) (Or.inl ⟨by rfl,?_⟩) hS3 ?_
    rotate_left
    · intro W hSW
      go_simp
      try with_reducible rfl
    simp only [Act.put,sA,s0,sS]
    refine wpAnyL_done (by kernel_rfl) ?_ _
    have HBM:Hid (But (fun k=>k=Mm) W1 W3):=BM
    have HM3:Hid (MapSet 9 valK Mm (if K∈T then T else T++[K]) W3):=hm3
    have HLV3:Hid (LV Bz w Ds Et Tl tv W3):=HG4.out.keep (P5:=P5) (by omega) BM (fun k hk e=>(HG3.out k (.inr (.inl hk))).2.2.2.2.2 e)
    have HSP3:Hid (SepA Mm P2 P3 P6 (fun k=>(A k∨k=W.heap.size∨k=W.heap.size+1)∨ZL Bz P5 Ds Et tv k∨E k) (.slice va m vc) W3):=fun k hk=>⟨Nat.lt_of_lt_of_le (HG3.out k hk).1 BM.size,(HG3.out k hk).2⟩
    have HBA3:Hid (But (fun k=>¬ (A k∨k=W.heap.size∨k=W.heap.size+1)) W1 W3):=BM.mono (fun k _ hk hA=>(HG3.out k (.inl hA)).2.2.2.2.2 hk)
    clear hm3 hb3 hb2 hS2 hS0 B2 BM HKY HNW HSS
    by_cases hin:K∈T
    · have hdc:decide (K∈T)=true:=by simpa using hin
      have HF:Hid (RA f w Bz Mm P2 P3 P5 P6 Ds Et Tl tv T0 E0 W.heap.size (fun k=>A k∨k=W.heap.size∨k=W.heap.size+1) (pre++[(K,Value.slice ua K.length uc)]) W3):=by
        refine ⟨T,_,E,⟨by rw [HPRE.out,HRK.out,if_pos hin],HG5.out⟩,HG2.out.newmap HBM.out ?_ ⟨o1,o2,o3,o4⟩,HSP3.out,HLV3.out⟩
        have:=HM3.out
        rwa [if_pos hin] at this
      simp only [hdc,Bool.not_true]
      clear hdc hin hS3
      gi_wp2
      exact ⟨HF.out,HBA3.out.nots⟩
    have hdc:decide (K∈T)=false:=by simpa using hin
    have hAW:AW f Mm P2 P3 P5 P6 E T (T++[K]) (.slice va m vc) W3:=HG2.out.newmap HBM.out (by have:=HM3.out; rwa [if_neg hin] at this) ⟨o1,o2,o3,o4⟩
    have HAW:Hid (AW f Mm P2 P3 P5 P6 E T (T++[K]) (.slice va m vc) W3):=hAW
    have c2:=hAW.c2
    have f2:=hAW.f2
    have c3:=hAW.c3
    have f3:=hAW.f3
    have c6:=hAW.c6
    have f6:=hAW.f6
    simp only [hdc,Bool.not_false]
    by_cases h6:m=600
    · have hq6:((m:Int) == 600)=true:=by subst h6; rfl
      have c3':(W3.setCell ⟨P2,0,none⟩ (.slice none 0 0)).cell? ⟨P3,0,none⟩=some (.int .i64 0):=(World.cell?_setCell_other _ _ _ _ (fun e=>by cases e; omega)).trans c3
      have f3':(W3.setCell ⟨P2,0,none⟩ (.slice none 0 0)).frozen? ⟨P3,0,none⟩=false:=by rw [World.frozen?_setCell]; exact f3
      have BS:But (fun k=>k=P2∨k=P3) W3 ((W3.setCell ⟨P2,0,none⟩ (.slice none 0 0)).setCell ⟨P3,0,none⟩ (.int .i64 15)):=((But.refl _ _).setCell _ _ (.inr (.inl rfl))).setCell _ _ (.inr (.inr rfl))
      have HF:Hid (RX f w l Bz P2 P3 Ds T0 ((W3.setCell ⟨P2,0,none⟩ (.slice none 0 0)).setCell ⟨P3,0,none⟩ (.int .i64 15))∧But (fun k=>¬ (A k∨k=W.heap.size∨k=W.heap.size+1)) W1 ((W3.setCell ⟨P2,0,none⟩ (.slice none 0 0)).setCell ⟨P3,0,none⟩ (.int .i64 15))):=by
        have hlv:=HLV3.out.keep (P5:=P5) (by have:=HBM.out.size; omega) BS (fun k hk e=>by
          have:=HSP3.out k (.inr (.inl hk))
          omega)
        refine ⟨⟨bind_none_prefix HKN.out.2 (by rw [HRK.out,if_neg hin,if_pos (by omega)]),(World.cell?_setCell_other _ _ _ _ (fun e=>by cases e; omega)).trans (World.cell?_setCell_same _ _ _ c2),World.cell?_setCell_same _ _ _ c3',hlv.mks,hlv.bw⟩,HBA3.out.trans (BS.mono (fun k _ hk hA=>?_))⟩
        have:=HSP3.out k (.inl hA)
        omega
      clear hdc hin hS3 hAW BS HM3 HAW
      gi_wp2
      exact ⟨HF.out.1,HF.out.2.nots⟩
    have hq6:((m:Int) == 600)=false:=beq_eq_false_iff_ne.2 (by omega)
    have hT6:T.length+1≤600:=hTl
    have Bn:Below W3.heap.size W3 (W3.alloc (Obj.cells #[.slice ua K.length uc] 84)):=(Below.refl _ _).alloc (Nat.le_refl _) _
    have hKs:SlL K (.slice ua K.length uc) W3:=HK2.out.1.but HBA3.out (fun ad n c e hne hd=>hd (.inl (HK2.out.2 ad n c e).1))
    have hEv:∀ k,(E k∨∃ ad,ua=some ad∧k=ad.block)→¬ inB (.slice va m vc) k∧k<W3.heap.size∧k≠P2∧k≠P3∧k≠P6∧k≠Mm:=fun k hk=>by
      rcases hk with hk | ⟨ad,rfl,rfl⟩
      · have:=HSP3.out k (.inr (.inr hk)); exact ⟨this.2.1,this.1,this.2.2⟩
      · have:=HSP3.out _ (.inl (.inl (HK2.out.2 ad _ _ rfl).1)); exact ⟨this.2.1,this.1,this.2.2⟩
    obtain ⟨hs,gq,gg⟩:=(hAW.next Bn).wo.grow (E':=fun k=>E k∨∃ ad,ua=some ad∧k=ad.block) (hKs.next Bn) (fun k hk=>.inl hk) (fun ad n c e hne=>.inr ⟨ad,by cases e; rfl,rfl⟩) (fun k hk=>⟨(hEv k hk).1,Nat.lt_of_lt_of_le (hEv k hk).2.1 Bn.size⟩)
    rw [HM.out] at gq gg
    simp only [World.size_alloc] at gq gg
    have HQ:Hid (QRow (fun k=>inB (.slice va m vc) k∨W3.heap.size+1≤k) 1 (.slice va m vc) m hs (W3.alloc (Obj.cells #[.slice ua K.length uc] 84))):=gq
    have HD:Hid (∀ k,(W3.alloc (Obj.cells #[.slice ua K.length uc] 84)).heap.size≤k→inB (.slice va m vc) k∨W3.heap.size+1≤k):=fun k hk=>.inr (by simpa using hk)
    have HNC:Hid (∀ (q:Nat) (u:Value),[Value.slice ua K.length uc][q]?=some u→(W3.alloc (Obj.cells #[.slice ua K.length uc] 84)).cell? ((⟨W3.heap.size,0,none⟩:Addr).add q)=some u):=by
      intro q u hq
      rcases q with _ | q
      · simp at hq; subst hq; simp [Addr.add]
      · simp at hq
    have HGG:Hid (∀ v' W',QRow (fun k=>inB (.slice va m vc) k∨W3.heap.size+1≤k) 1 v' (m+1) (hs++[.slice ua K.length uc]) W'→But (fun k=>inB (.slice va m vc) k∨W3.heap.size+1≤k) (W3.alloc (Obj.cells #[.slice ua K.length uc] 84)) W'→W'.cell? ⟨P6,0,none⟩=some (.slice va m vc)∧W'.frozen? ⟨P6,0,none⟩=false ∧
        (RA f w Bz Mm P2 P3 P5 P6 Ds Et Tl tv T0 E0 W.heap.size (fun k=>A k∨k=W.heap.size∨k=W.heap.size+1) (pre++[(K,Value.slice ua K.length uc)]) (W'.setCell ⟨P6,0,none⟩ v')∧But (fun k=>¬ (A k∨k=W.heap.size∨k=W.heap.size+1)) W1 (W'.setCell ⟨P6,0,none⟩ v'))):=fun v' W' q1 q2=>by
      obtain ⟨r1,r2⟩:=gg v' W' q1 q2
      have hA:=HAW.out
      have hp2:P2<W3.heap.size:=World.block_lt_of_cell? _ _ c2
      have hp6:P6<W3.heap.size:=World.block_lt_of_cell? _ _ c6
      have hp5:P5<W3.heap.size:=by omega
      have hz3:W3.heap.size≤W3.heap.size+1:=by omega
      have q3:But (fun k=>inB (.slice va m vc) k∨W3.heap.size≤k) W3 W':=(But.of_next Bn).trans (q2.mono (fun k _ hk=>hk.imp id (fun h=>Nat.le_trans hz3 h)))
      have nD:∀ k,k<W3.heap.size→¬ inB (.slice va m vc) k→¬ (inB (.slice va m vc) k∨W3.heap.size≤k):=fun k h1 h2 h3=>by
        rcases h3 with h3 | h3
        · exact h2 h3
        · omega
      have cc:∀ {p:Nat} {u:Value},p<W3.heap.size→¬ inB (.slice va m vc) p→W3.cell? ⟨p,0,none⟩=some u→W'.cell? ⟨p,0,none⟩=some u:=fun {p u} h1 h2 h3=>(q3.cell (p:=⟨p,0,none⟩) h1 (nD p h1 h2)).trans h3
      have ff:∀ {p:Nat},p<W3.heap.size→¬ inB (.slice va m vc) p→W3.frozen? ⟨p,0,none⟩=false→W'.frozen? ⟨p,0,none⟩=false:=fun {p} h1 h2 h3=>(q3.frozen (p:=⟨p,0,none⟩) h1 (nD p h1 h2)).trans h3
      have BS:But (fun k=>k=P6) W' (W'.setCell ⟨P6,0,none⟩ v'):=(But.refl _ _).setCell _ _ (.inr rfl)
      have so:∀ {p:Nat} {u:Value},p≠P6→W'.cell? ⟨p,0,none⟩=some u→(W'.setCell ⟨P6,0,none⟩ v').cell? ⟨p,0,none⟩=some u:=fun {p u} h1 h2=>(World.cell?_setCell_other _ _ _ _ (fun e=>h1 (by cases e; rfl))).trans h2
      have nv:∀ k,k<W3.heap.size→¬ inB (.slice va m vc) k→¬ inB v' k:=fun k h1 h2 h3=>by
        rcases r2 k h3 with h | h
        · exact h2 h
        · omega
      refine ⟨cc hp6 hA.w6 c6,ff hp6 hA.w6 f6,⟨T++[K],v',(fun k=>E k∨∃ ad,ua=some ad∧k=ad.block),⟨by rw [HPRE.out,HRK.out,if_neg hin,if_neg (by omega)],fun k hk=>by
        rcases hk with hk | ⟨ad,rfl,rfl⟩
        · exact HG5.out k hk
        · exact .inr (HK2.out.2 ad _ _ rfl).2⟩,⟨?_,?_,by simp; omega,?_,(hA.mp.but q3 (nD Mm hA.mp.lt hA.wm)).but BS (by omega),so (by omega) (cc hp5 hA.w5 hA.c5),World.cell?_setCell_same _ _ _ (cc hp6 hA.w6 c6),by rw [World.frozen?_setCell]; exact ff hp6 hA.w6 f6,so (by omega) (cc hp2 hA.w2 c2),by rw [World.frozen?_setCell]; exact ff hp2 hA.w2 f2,so (by omega) (cc (by omega) hA.w3 c3),by rw [World.frozen?_setCell]; exact ff (by omega) hA.w3 f3,nv _ hp2 hA.w2,nv _ (by omega) hA.w3,nv _ hp5 hA.w5,nv _ hp6 hA.w6,nv _ hA.mp.lt hA.wm⟩,?_,?_⟩,?_⟩
      · intro M hM
        rcases List.mem_append.1 hM with hM | hM
        · exact hA.met M hM
        · simp at hM; subst hM; exact HKN.out.1
      · rw [List.nodup_append]
        refine ⟨hA.nodup,by simp,fun x hx y hy=>?_⟩
        simp at hy; subst hy
        rintro rfl; exact hin hx
      · refine r1.keep BS (fun k hk e=>nv _ hp6 hA.w6 (e ▸ hk)) (fun k _ e=>.inr fun he=>(hEv k he).2.2.2.2.1 e)
      · intro k hk
        have hb:k<W3.heap.size∧¬ inB (.slice va m vc) k∧k≠P2∧k≠P3∧k≠P6∧k≠Mm:=by
          rcases hk with hk | hk | hk
          · exact HSP3.out k (.inl hk)
          · exact HSP3.out k (.inr (.inl hk))
          · have:=hEv k hk; exact ⟨this.2.1,this.1,this.2.2⟩
        exact ⟨Nat.lt_of_lt_of_le hb.1 (Nat.le_trans q3.size BS.size),nv k hb.1 hb.2.1,hb.2.2⟩
      · exact (HLV3.out.keep (P5:=P5) (by omega) q3 (fun k hk=>nD k (HSP3.out k (.inr (.inl hk))).1 (HSP3.out k (.inr (.inl hk))).2.1)).keep (P5:=P5) (by have:=q3.size; omega) BS (fun k hk e=>(HSP3.out k (.inr (.inl hk))).2.2.2.2.1 e)
      · exact (HBA3.out.trans (q3.mono (fun k hlt hk hA=>nD k (HSP3.out k (.inl hA)).1 (HSP3.out k (.inl hA)).2.1 hk))).trans (BS.mono (fun k _ e hA=>(HSP3.out k (.inl hA)).2.2.2.2.1 e))
    clear hdc hin hS3 hAW HM3 HAW gq gg hKs hEv c2 f2 c3 f3 f6 Bn
    gi_wp2_with (gi_at_builtin; refine wpListIn_append_q rfl (.tmp 45) (.tmp 47) 79 rfl 84 i0 _ 1 24 Tryz.underlying79 hi0 hz0 hz1 hz2 rfl (by decide) rfl HQ.out HD.out ⟨W3.heap.size,0,none⟩ 1 [.slice ua K.length uc] rfl rfl HNC.out (by simp [Value.oneCell']) (by unfold maxLen; omega) (by omega) ?_)
    intro v5 w5 hq5 hb5
    obtain ⟨qa5,qc5,rfl⟩:=hq5.shape
    obtain ⟨z1,z2,z3⟩:=HGG.out _ _ hq5 hb5
    have HZ:Hid _:=z3
    clear z3 hq5 hb5 HGG HQ HD HNC
    gi_wp2
    exact ⟨HZ.out.1,HZ.out.2.nots⟩
  · rintro xs W1 hS ⟨T,v,E,⟨g1,g5⟩,g2,g3,g4⟩ hd
    refine hQ T v E W1 (hS ▸ g1) g5 (Nat.le_of_lt (Array.getElem?_eq_some_iff.1 hd).1) g2 (fun k hk=>?_) ⟨g4.tl,⟨List.nodup_cons.2 ⟨fun hm=>by have:=hDl _ hm; omega,g4.mks.1⟩,fun d hdm=>?_⟩,g4.bw⟩
    · rcases hk with hk | hk
      · rcases hk with hk | hk | hk | hk | hk
        · exact g3 k (.inr (.inl (.inl hk)))
        · exact g3 k (.inr (.inl (.inr (.inl hk))))
        · rcases List.mem_cons.1 hk with hk | hk
          · exact g3 k (.inl (.inr (.inl hk)))
          · exact g3 k (.inr (.inl (.inr (.inr (.inl hk)))))
        · exact g3 k (.inr (.inl (.inr (.inr (.inr (.inl hk))))))
        · exact g3 k (.inr (.inl (.inr (.inr (.inr (.inr hk))))))
      · exact g3 k (.inr (.inr hk))
    · rcases List.mem_cons.1 hdm with rfl | hdm
      · exact ⟨by omega,hd⟩
      · exact g4.mks.2 d hdm
  · rintro W1 W2 ⟨x1,x2,x3,x4,x5⟩ hb hlp hd
    have hp2:P2<W1.heap.size:=World.block_lt_of_cell? _ _ x2
    refine hX W2 ⟨x1,(hb.cell (p:=⟨P2,0,none⟩) hp2 (by simp only; omega)).trans x2,(hb.cell (p:=⟨P3,0,none⟩) (World.block_lt_of_cell? _ _ x3) (by simp only; omega)).trans x3,⟨List.nodup_cons.2 ⟨fun hm=>by have:=hDl _ hm; omega,x4.1⟩,fun d hdm=>?_⟩,x5.trans (hb.below (by omega) (fun k hk=>by omega))⟩
    rcases List.mem_cons.1 hdm with rfl | hdm
    · exact ⟨by omega,hd⟩
    · exact ⟨(x4.2 d hdm).1,hb.same (x4.2 d hdm).2 (by have:=hDl d hdm; omega)⟩
end Go.Proofs.YtiamjafecbpfpaaGreatDoor
namespace Go.Proofs.YtiamjafecbpfpaaGreatDoor
open Go.RowKit
theorem fold_len:∀ (l:List Ir) (L:List Ir),(l.foldl (fun L x=>addI L x) L).length≤L.length+l.length
  | [],L=>by simp
  | x :: l,L=>by
    have:=fold_len l (addI L x)
    have h2:=addI_len L x
    rw [List.foldl_cons,List.length_cons]
    omega
theorem fold_take {l:List Ir} {j:Nat} (h:j<l.length):(l.take (j+1)).foldl (fun L x=>addI L x) []=addI ((l.take j).foldl (fun L x=>addI L x) []) l[j]:=by
  rw [List.take_succ_eq_append_getElem h,List.foldl_append]
  rfl
def Closed1 (f:Fl) (l:List Ir) (w:World) (e:Ending) (w':World):Prop:=∃ v' L',e=.returned v'∧ClosI f (fun x=>x∈l) L'∧SlL L' v' w'∧Apart w.heap.size v'∧Below w.heap.size w w'
set_option maxRecDepth 100000 in
set_option maxHeartbeats 1600000 in
theorem closure_any (f:Fl) (a:FlA) (V:Nat) (Le:List Bool) (R:List (List Int)) (l:List Ir) (v:Value) (wv w:World) (hv:VwAt f a V Le R wv) (hf:FlAt f a wv) (hfe:FE f R Le) (hB:Below wv.heap.size wv w) (hp:FitP f) (hl:SlL l v w) (hfit:∀ x∈l,fitI f x=true) (hne:l≠[]) (hll:l.length≤50000000) :
    Calls Tryz.prog 59 #[.pointer (some ⟨V,0,none⟩),v] w fun e w'=>Closed1 f l w e w':=by
  obtain ⟨la,lc,rfl,hI,_,_⟩:=hl
  have HNG:=newGrower_any V w
  have HFT:Hid (∀ x∈l,okR x):=fun x hx=>fitI_ok hp (hfit x hx)
  have hpos:0<l.length:=List.length_pos_iff.2 hne
  have HGR:Hid (∀ Bi Bc Bb G lv W,w.heap.size≤Bi→GS Bi Bc Bb G V lv (l.foldl (fun L x=>addI L x) []) [] [] W→Below w.heap.size w W→Calls Tryz.prog 80 #[.pointer (some ⟨G,0,none⟩)] W fun e W'=>∃ v',e=.returned v'∧(∃ L',ClosI f (fun x=>x∈l) L'∧SlL L' v' W'∧Apart Bi v')∧Below Bi W W'):=fun Bi Bc Bb G lv W hbi hgs hb=>by
    refine callsIn_wide.1 (grown_in 6 (by omega) f a Le R wv Bi Bc Bb G V _ lv _ W hgs hv hf hfe (Nat.le_trans hB.size hbi) (hB.trans (hb.mono hB.size)) hp (GI.start hfit) (fun e=>?_))
    obtain ⟨x,l',rfl⟩:=List.exists_cons_of_ne_nil hne
    have:=((fold_put (fun x:Ir=>x) (x :: l') []).2.2 x).2 (.inr ⟨x,by simp,rfl⟩)
    rw [e] at this; cases this
  have HI:Hid (∀ W,Below w.heap.size w W→IrsAt l la W):=fun W hb=>hI.next hb
  clear hI hfit hne hv hf hfe hB hp
  go_enter Tryz.func59,Tryz.ntmps59
  go_wp2_with fail
  refine HNG.mono ?_
  rintro e w0 ⟨Bi,Bc,Bb,G,rfl,hbi,hgs0,B0⟩
  have HG0:Hid (GS Bi Bc Bb G V (.slice none 0 0) [] [] [] w0):=hgs0
  clear HNG hgs0
  go_wp2_with fail
  go_loopw [7,12] (fun _ i wr=>∃ (j:Nat) (lv:Value),i=.int .i64 j∧j≤l.length∧GS Bi Bc Bb G V lv ((l.take j).foldl (fun L x=>addI L x) []) [] [] wr∧Below w.heap.size w wr) (fun _ i _=>l.length - (intOf i).toNat)
  case atStart=>exact ⟨0,_,rfl,Nat.zero_le _,by simpa using HG0.out,B0⟩
  case round =>
  obtain ⟨j,lv,rfl,hj,hgs,B1⟩:=hrel
  have hsz:=B1.size
  by_cases hlt:j<l.length
  · obtain ⟨b,off,rfl,_,c0,c1,c2,hok⟩:=(HI.out _ B1).at (Below.refl _ _) hlt
    have HT:Hid ((l.take (j+1)).foldl (fun L x=>addI L x) []=addI ((l.take j).foldl (fun L x=>addI L x) []) l[j]):=fold_take hlt
    have hLl:=fold_len (l.take j) []
    rw [List.length_take,List.length_nil] at hLl
    generalize l[j]=x at *
    generalize (l.take j).foldl (fun L x=>addI L x) []=L at *
    have Bx:Below wr.heap.size wr (wr.alloc (Obj.cells #[.int .i64 x.1,.int .i64 x.2.1,.int .i64 x.2.2] 110)):=(Below.refl _ _).alloc (Nat.le_refl _) _
    have hgs1:=hgs.next Bx
    have HP:Hid (Apt (fun k=>k<Bi) Bi Bc Bb G lv (wr.alloc (Obj.cells #[.int .i64 x.1,.int .i64 x.2.1,.int .i64 x.2.2] 110))):=by
      have h1:=hgs1.o1; have h2:=hgs1.o2; have h3:=hgs1.o3; have h4:=hgs1.lt
      refine ⟨fun k hk=>by omega,fun k e hk=>?_⟩
      have:=World.ownsRow.lt hgs1.own k e
      omega
    have HC:=gput_any (fun k=>k<Bi) Bi Bc Bb G V lv L [] [] x _ hgs1 hok HP.out (by omega)
    unfold valR at HC
    obtain ⟨x0,x1,x2⟩:=x
    simp only at c0 c1 c2 HC
    have HC':Hid (Calls Tryz.prog 79 #[.pointer (some ⟨G,0,none⟩),.agg #[.int .i64 x0,.int .i64 x1,.int .i64 x2]] (wr.alloc (Obj.cells #[.int .i64 x0,.int .i64 x1,.int .i64 x2] 110)) fun e w'=>Grown (fun k=>k<Bi) Bi Bc Bb G V (addI L (x0,x1,x2)) [] [] (wr.alloc (Obj.cells #[.int .i64 x0,.int .i64 x1,.int .i64 x2] 110)) e w'):=HC
    have HBx:Hid (∀ W,But (fun k=>¬ k<Bi) (wr.alloc (Obj.cells #[.int .i64 x0,.int .i64 x1,.int .i64 x2] 110)) W→Below w.heap.size w W):=fun W hb=>(B1.trans (Bx.mono hsz)).trans (hb.below (by have:=Bx.size; simp only at this; omega) (fun k hk=>by omega))
    clear HC hgs hgs1 HP Bx
    go_wp2_with fail
    refine HC'.out.mono ?_
    rintro e w2 ⟨rfl,lv2,k1,k2,k3⟩
    have HK1:Hid (GS Bi Bc Bb G V lv2 (addI L (x0,x1,x2)) [] [] w2):=k1
    have B3:=HBx.out _ k3
    clear k1 k2 k3
    go_wp2_with fail
    exact ⟨⟨j+1,lv2,by go_num,by omega,by rw [HT.out]; exact HK1.out,B3⟩,by simp [intOf]; omega⟩
  · obtain rfl:j=l.length:=by omega
    rw [List.take_of_length_le (Nat.le_refl _)] at hgs
    have HC:=HGR.out Bi Bc Bb G lv wr hbi hgs B1
    clear hgs HGR
    go_wp2_with fail
    refine HC.mono ?_
    rintro e w2 ⟨v',rfl,⟨L',k1,k2,k3⟩,k4⟩
    have HF:Hid (ClosI f (fun x=>x∈l) L'∧SlL L' v' w2∧Apart w.heap.size v'∧Below w.heap.size w w2):=⟨k1,k2,k3.mono hbi,B1.trans (k4.mono hbi)⟩
    clear k1 k2 k3 k4 HC
    go_wp2_with fail
    go_ret
    exact ⟨v',L',rfl,HF.out⟩
end Go.Proofs.YtiamjafecbpfpaaGreatDoor
namespace Go.Proofs.YtiamjafecbpfpaaGreatDoor
open Go.RowKit
end Go.Proofs.YtiamjafecbpfpaaGreatDoor
namespace Go.Proofs.YtiamjafecbpfpaaGreatDoor
open Go.RowKit Go.Shelf
attribute [local go_sem] Oper.semAt_some
theorem results_cells2 {fn:Func} {p q:Tmp} {t u:TypeId} (h:fn.results=#[.cell p t,.cell q u]) (tmps:Array Value) (P:Program) (w:World) {a b:Addr} {x y:Value} (ha:tmps[p]?.getD undef=.pointer (some a)) (hb:tmps[q]?.getD undef=.pointer (some b)) (hx:(loadVar t a).run P w=.ok x w) (hy:(loadVar u b).run P w=.ok y w) :
    (results fn tmps).run P w=.ok (.tuple #[x,y]) w:=by
  simp only [results,h]
  simp [Sem.run_bind,Result.andThen,ha,hb,hx,hy,asAddr]
theorem leaves_marks_w {F:Fence} {n:Nat} {P:Program} {fn:Func} {tmps:Array Value} {B:Nat} {Rw:World→Prop} {R:Ending→World→Prop} (hfin:∀ W,Rw W→∃ v,(results fn tmps).run P W=.ok v W∧R (.returned v) W)
    (hR:∀ W d,B≤d→W.heap[d]?=some (.deferred (some []))→Rw W→Rw (W.putObj d (.deferred none))) :
    ∀ (Ds:List Nat) (W:World),Mk B Ds W→Rw W→LeavesInM F n P fn tmps R (Ds.map mark) .returning W
  | [],W,_,h=>hfin W h
  | d :: Ds,W,hM,h=>by
    obtain ⟨hB,hd⟩:=hM.2 d (by simp)
    have hn:=List.nodup_cons.1 hM.1
    refine ⟨by simp,.inl ⟨d,_,rfl,run_takeDeferred hd,?_⟩⟩
    refine leaves_marks_w hfin hR Ds _ ⟨hn.2,fun e he=>?_⟩ (hR W d hB hd h)
    have:=hM.2 e (by simp [he])
    exact ⟨this.1,(World.putObj_heap_other (fun h'=>hn.1 (by rw [← h']; exact he))).trans this.2⟩
theorem OwnZ.cells {E:Nat→Prop} {R:List (List Ir)} {v:Value} {W:World} (h:OwnZ E R v W) {k:Nat} (hk:inB v k):∃ off u,W.cell? ⟨k,off,none⟩=some u:=by
  obtain ⟨hv,h0,⟨ao,b,off,cap,rfl,hc,_⟩,_⟩:=h
  obtain ⟨o',n',c',e',hcp⟩:=hk
  cases e'
  have:=hc.addr hcp
  cases this
  rcases Nat.eq_zero_or_pos R.length with hz | hz
  · have h1:=(hc.spare 0 (by rw [hz]; omega)).1
    obtain ⟨u,hu⟩:=Option.isSome_iff_exists.1 h1
    exact ⟨_,u,hu⟩
  · have hi:0<hv.length:=by omega
    exact ⟨_,_,hc.olds 0 hv[0] (by simp [hi])⟩
theorem not_deferred {W:World} {k off:Nat} {u:Value} (h:W.cell? ⟨k,off,none⟩=some u) (hd:W.heap[k]?=some (.deferred (some []))):False:=by
  simp [World.cell?,hd] at h
theorem SlLL.putObj {R:List (List Ir)} {v:Value} {W:World} {d:Nat} {o:Obj} (h:SlLL R v W) (hd:W.heap[d]?=some (.deferred (some []))):SlLL R v (W.putObj d o):=by
  obtain ⟨ao,cap,h0,h1,h2⟩:=h
  have hb:=But.putObj W d o
  refine ⟨ao,cap,h0,fun i l hi=>?_,h2⟩
  obtain ⟨b,off,u,e,hbl,c0,hsl⟩:=h1 i l hi
  have hne:b≠d:=fun e=>by subst e; exact not_deferred c0 hd
  exact ⟨b,off,u,e,Nat.lt_of_lt_of_le hbl hb.size,(hb.cell (p:=⟨b,off+i,none⟩) hbl hne).trans c0,hsl.putObj hd⟩
set_option maxRecDepth 100000 in
set_option maxHeartbeats 800000 in
theorem beginning2_any (f:Fl) (a:FlA) (w:World) (hn:f.n≤600) :
    Calls Tryz.prog 58 #[a.val f] w fun e w'=>∃ v,e=.returned v∧SlL (begL f) v w'∧Apart w.heap.size v∧Below w.heap.size w w':=by
  have hE:=fun W=>end_any f a W
  obtain ⟨ta,tc,na,nc,pa,pc⟩:=a
  unfold FlA.val at hE ⊢
  simp only at *
  have B0:Below w.heap.size w (w.alloc (Obj.cells #[Value.slice ta f.terms.length tc,Value.slice na f.nons.length nc,Value.slice pa f.prods.length pc] 50)):=(Below.refl _ _).alloc (Nat.le_refl _) _
  have HE:Hid (∀ W,Calls Tryz.prog 77 #[.agg #[.slice ta f.terms.length tc,.slice na f.nons.length nc,.slice pa f.prods.length pc]] W fun e w'=>e=.returned (.int .i64 f.terms.length)∧Below W.heap.size W w'):=hE
  clear hE
  go_enter Tryz.func58,Tryz.ntmps58
  go_wp2_with fail
  refine (HE.out _).mono ?_
  rintro e w1 ⟨rfl,hb1⟩
  have B1:=below_then B0 hb1 B0.size
  clear B0 hb1 HE
  have HX:=RBox.new (-1,0,(f.terms.length:Int)) 110 w1
  have HS:Hid (SlL (begL f) (.slice (some ⟨w1.heap.size,0,none⟩) 1 1) (w1.alloc (Obj.cells #[.int .i64 (-1),.int .i64 0,.int .i64 f.terms.length] 110))):=by
    refine SlL.of (l:=begL f) (fun i x hi=>?_) (fun h=>by cases h) (by simp [begL])
    rcases i with _ | i
    · simp [begL] at hi; subst hi
      obtain ⟨h0,h1,h2,h3⟩:=HX
      exact ⟨_,_,rfl,h0,h1,h2,h3,by unfold okR i64B; unfold Fl.n at hn; simp only; omega⟩
    · simp [begL] at hi
  clear HX
  go_wp2_with fail
  go_ret
  exact ⟨_,rfl,HS.out,fun ad n c e=>by cases e; exact B1.size,B1.alloc B1.size _⟩
def Alls (f:Fl) (w:World) (e:Ending) (W':World):Prop:=((∃ v' R',allF f=some R'∧e=.returned (.tuple #[v',.int .i64 0])∧SlLL R' v' W'∧R'.length≤600∧∀ x∈R',x.length≤maxI)∨(allF f=none∧e=.returned (.tuple #[.slice none 0 0,.int .i64 15])))∧Below w.heap.size w W'
def AW0 (w W:World):Prop:=W.heap.size=w.heap.size+4∧W.cell? ⟨w.heap.size,0,none⟩=some (.slice none 0 0)∧W.frozen? ⟨w.heap.size,0,none⟩=false∧W.cell? ⟨w.heap.size+1,0,none⟩=some (.int .i64 0)∧W.frozen? ⟨w.heap.size+1,0,none⟩=false∧MapSet 9 valK (w.heap.size+1+1) [] W∧W.cell? ⟨w.heap.size+1+1+1,0,none⟩=some (.map (some (w.heap.size+1+1)))
theorem aw0 (w:World) (t1 t2 t3:TypeId):AW0 w ((((w.alloc (Obj.cells #[.slice none 0 0] t1)).alloc (Obj.cells #[.int .i64 0] t2)).alloc (.map #[] 0)).alloc (Obj.cells #[.map (some (w.heap.size+1+1))] t3)):=by
  have al:∀ (W:World) (o:Obj),But (fun _=>False) W (W.alloc o):=fun W o=>But.of_next ((Below.refl _ _).alloc (Nat.le_refl _) _)
  have m:=MapSet.made 9 valK ((w.alloc (Obj.cells #[.slice none 0 0] t1)).alloc (Obj.cells #[.int .i64 0] t2))
  rw [World.size_alloc,World.size_alloc] at m
  have nx:∀ (W:World) (o:Obj),Below W.heap.size W (W.alloc o):=fun W o=>(Below.refl _ _).alloc (Nat.le_refl _) _
  have st:∀ (W W':World) (o:Obj),Below W.heap.size W W'→Below W.heap.size W (W'.alloc o):=fun W W' o h=>h.alloc h.size _
  obtain ⟨a1,a2,a3⟩:=IBox (.slice none 0 0) t1 w
  obtain ⟨b1,b2,b3⟩:=IBox (.int .i64 0) t2 (w.alloc (Obj.cells #[.slice none 0 0] t1))
  obtain ⟨c1,c2,c3⟩:=IBox (.map (some (w.heap.size+1+1))) t3 (((w.alloc (Obj.cells #[.slice none 0 0] t1)).alloc (Obj.cells #[.int .i64 0] t2)).alloc (.map #[] 0))
  have f1:=st _ _ (Obj.cells #[.map (some (w.heap.size+1+1))] t3) (st _ _ (.map #[] 0) (nx (w.alloc (Obj.cells #[.slice none 0 0] t1)) (Obj.cells #[.int .i64 0] t2)))
  have f2:=st _ _ (Obj.cells #[.map (some (w.heap.size+1+1))] t3) (nx ((w.alloc (Obj.cells #[.slice none 0 0] t1)).alloc (Obj.cells #[.int .i64 0] t2)) (.map #[] 0))
  rw [World.size_alloc] at b1 b2
  rw [World.size_alloc,World.size_alloc,World.size_alloc] at c1
  exact ⟨by simp,(f1.cell (p:=⟨w.heap.size,0,none⟩) a3).trans a1,(World.frozen?_of_block (f1.block _ a3)).trans a2,(f2.cell (p:=⟨w.heap.size+1,0,none⟩) (by simp)).trans b1,(World.frozen?_of_block (f2.block _ (by simp))).trans b2,m.but (al _ _) id,c1⟩
def AI (f:Fl) (w:World) (Mm P2 P3 P5 P6:Nat) (Ds:List Nat) (k:Nat) (T:List (List Ir)) (tv wv:Value) (E Et:Nat→Prop) (W:World):Prop :=
  allF f=runA f (601 - k) k (setsOf f T)∧k≤T.length+1∧AW f Mm P2 P3 P5 P6 E T T wv W∧SepA Mm P2 P3 P6 (fun k=>ZL w.heap.size P5 Ds Et tv k∨E k) wv W∧LV w.heap.size w Ds Et (((begL f :: T).take k).map (closF f)) tv W∧∀ k,inB tv k→w.heap.size≤k∧k≠P5∧¬ E k∧¬ Et k
theorem kern_facts {f:Fl} (hp:FitP f) {T:List (List Ir)} (hT:Met f T) {i:Nat} {K:List Ir} (h:(begL f :: T)[i]?=some K):(∀ x∈K,fitI f x=true)∧K≠[]∧K.length≤maxI:=by
  rcases i with _ | i
  · simp at h; subst h
    exact ⟨begL_fit,by simp [begL],by simp [begL,maxI]⟩
  · have hk:=hT K (List.mem_of_getElem? h)
    exact ⟨hk.fit,hk.ne,items_le hp hk.rise.nodup hk.fit⟩
theorem take_map_succ {f:Fl} {T:List (List Ir)} {k:Nat} {K:List Ir} (h:(begL f :: T)[k]?=some K):((begL f :: T).take (k+1)).map (closF f)=((begL f :: T).take k).map (closF f)++[closF f K]:=by
  rw [List.take_add_one,h,List.map_append]
  rfl
theorem take_prefix_eq {T T':List (List Ir)} {b:List Ir} (h:T <+: T') {k:Nat} (hk:k≤T.length+1):(b :: T').take k=(b :: T).take k:=by
  obtain ⟨r,rfl⟩:=h
  rw [← List.cons_append,List.take_append_of_le_length (by simpa using hk)]
set_option maxRecDepth 100000 in
set_option maxHeartbeats 4000000 in
theorem all_in (n:Nat) (hn:6≤n) (f:Fl) (a:FlA) (Le:List Bool) (R:List (List Int)) (V:Nat) (wv0 w:World) (hv:VwAt f a V Le R wv0) (hf:FlAt f a wv0) (hfe:FE f R Le) (hB:Below wv0.heap.size wv0 w) (hp:FitP f) :
    CallsIn Fence.wide n Tryz.prog 36 #[.pointer (some ⟨V,0,none⟩)] w fun e W'=>Alls f w e W':=by
  refine callsIn_of_wp_marks Tryz.func36 rfl trivial ?_ rfl
  simp only [Tryz.ntmps36,List.size_toArray,List.length_cons,List.length_nil,Nat.reduceAdd,Nat.reduceSub,Array.replicate_succ,Array.replicate_zero,List.push_toArray,List.append_toArray,List.nil_append,List.cons_append]
  obtain ⟨i0,hi0,hz0,hz1,hz2⟩:=info_parts infoSL
  have hn6:f.n≤600:=hp.size
  have HFP:Hid (FitP f):=hp
  have HBG:Hid (∀ W,Calls Tryz.prog 58 #[a.val f] W fun e w'=>∃ v,e=.returned v∧SlL (begL f) v w'∧Apart W.heap.size v∧Below W.heap.size W w'):=fun W=>beginning2_any f a W hn6
  have HCL:Hid (∀ (l:List Ir) (v:Value) (W:World),Below w.heap.size w W→SlL l v W→(∀ x∈l,fitI f x=true)→l≠[]→l.length≤maxI→Calls Tryz.prog 59 #[.pointer (some ⟨V,0,none⟩),v] W fun e w'=>Closed1 f l W e w'):=fun l v W hb hl h1 h2 h3=>closure_any f a V Le R l v wv0 W hv hf hfe (hB.trans (hb.mono hB.size)) hp hl h1 h2 (by unfold maxI at h3; omega)
  have HRG:Hid (VwAt f a V Le R wv0∧FlAt f a wv0):=⟨hv,hf⟩
  obtain ⟨hvb,_⟩:=id hv
  obtain ⟨hVl,u0,u1,u2⟩:=hvb
  obtain ⟨ta,tc,na,nc,pa,pc⟩:=a
  unfold FlA.val at HBG
  simp only at u0 u1 u2 HBG
  have HVC:Hid (∀ W,Below w.heap.size w W→W.cell? ⟨V,0,none⟩=some (.slice ta f.terms.length tc)∧W.cell? ⟨V,1,none⟩=some (.slice na f.nons.length nc)∧W.cell? ⟨V,2,none⟩=some (.slice pa f.prods.length pc)):=fun W hb=>by
    have hbv:=hB.trans (hb.mono hB.size)
    exact ⟨(hbv.cell (p:=⟨V,0,none⟩) hVl).trans u0,(hbv.cell (p:=⟨V,1,none⟩) hVl).trans u1,(hbv.cell (p:=⟨V,2,none⟩) hVl).trans u2⟩
  have HBW:Hid (Below wv0.heap.size wv0 w):=hB
  clear hv hf hfe hp u0 u1 u2 hB
  refine wpIn_calm ?_
  have B4:Below w.heap.size w ((((w.alloc (Obj.cells #[.slice none 0 0] 79)).alloc (Obj.cells #[.int .i64 0] 27)).alloc (.map #[] 0)).alloc (Obj.cells #[.map (some (w.heap.size+1+1))] 135)):=((((Below.refl _ w).alloc (Nat.le_refl _) _).alloc (by simp) _).alloc (by simp; omega) _).alloc (by simp; omega) _
  have hv4:=HVC.out _ B4
  have HW4:Hid (AW0 w ((((w.alloc (Obj.cells #[.slice none 0 0] 79)).alloc (Obj.cells #[.int .i64 0] 27)).alloc (.map #[] 0)).alloc (Obj.cells #[.map (some (w.heap.size+1+1))] 135))):=aw0 w _ _ _
  gi_wp2_with fail
  simp only [run_makeMap,Result.andThen]
  gi_wp2_with fail
  refine ⟨trivial,fun _=>by omega,?_⟩
  refine (callsIn_wide.2 (HBG.out _)).mono ?_
  rintro e W5 ⟨bv,rfl,hbs,hba,hb5⟩
  obtain ⟨ba,bc,rfl,_⟩:=id hbs
  have B5:Below w.heap.size w W5:=B4.trans (hb5.mono B4.size)
  obtain ⟨e0,e1,e2,e3,e4,e5,e6⟩:=HW4.out
  have hz5:=hb5.size
  rw [e0] at hz5
  have HST:Hid (AI f w (w.heap.size+1+1) w.heap.size (w.heap.size+1) (w.heap.size+1+1+1) (W5.heap.size+1) [] 0 [] (.slice none 0 0) (.slice (some ⟨W5.heap.size,0,none⟩) 1 1) (fun k=>∃ ad,ba=some ad∧k=ad.block) (fun _=>False) ((W5.alloc (Obj.cells #[.slice ba (begL f).length bc] 84)).alloc (Obj.cells #[.slice (some ⟨W5.heap.size,0,none⟩) 1 1] 79))):=by
    have hx1:Below W5.heap.size W5 (W5.alloc (Obj.cells #[.slice ba (begL f).length bc] 84)):=(Below.refl _ _).alloc (Nat.le_refl _) _
    have hx2:Below (W5.alloc (Obj.cells #[.slice ba (begL f).length bc] 84)).heap.size (W5.alloc (Obj.cells #[.slice ba (begL f).length bc] 84)) ((W5.alloc (Obj.cells #[.slice ba (begL f).length bc] 84)).alloc (Obj.cells #[.slice (some ⟨W5.heap.size,0,none⟩) 1 1] 79)):=(Below.refl _ _).alloc (Nat.le_refl _) _
    have hx:Below W5.heap.size W5 ((W5.alloc (Obj.cells #[.slice ba (begL f).length bc] 84)).alloc (Obj.cells #[.slice (some ⟨W5.heap.size,0,none⟩) 1 1] 79)):=hx1.trans (hx2.mono hx1.size)
    have hy:=hb5.trans (hx.mono hb5.size)
    obtain ⟨q1,q2,q3⟩:=IBox (.slice (some ⟨W5.heap.size,0,none⟩) 1 1) 79 (W5.alloc (Obj.cells #[.slice ba (begL f).length bc] 84))
    rw [World.size_alloc] at q1 q2
    have nin:∀ k,k≠W5.heap.size→¬ inB (.slice (some ⟨W5.heap.size,0,none⟩) 1 1) k:=fun k hk h=>by have:=inB.of h; simp only at this; omega
    have bal:∀ ad,ba=some ad→ad.block<W5.heap.size∧w.heap.size+4≤ad.block:=fun ad e=>by
      subst e
      exact ⟨hbs.lt (by simp [begL]),by rw [← e0]; exact hba ad _ _ rfl⟩
    have hsz:((W5.alloc (Obj.cells #[.slice ba (begL f).length bc] 84)).alloc (Obj.cells #[.slice (some ⟨W5.heap.size,0,none⟩) 1 1] 79)).heap.size=W5.heap.size+2:=by simp
    refine ⟨run_start f,by simp,⟨(by intro K hK; cases hK),List.nodup_nil,by simp,(OwnZ.one hbs (fun ad n c e _=>⟨ad,by cases e; rfl,rfl⟩)).next hx2,e5.but (D:=fun _=>False) (But.of_next hy) id,(hy.cell (p:=⟨w.heap.size+1+1+1,0,none⟩) (by simp only; omega)).trans e6,q1,q2,(hy.cell (p:=⟨w.heap.size,0,none⟩) (by simp only; omega)).trans e1,(World.frozen?_of_block (hy.block _ (by simp only; omega))).trans e2,(hy.cell (p:=⟨w.heap.size+1,0,none⟩) (by simp only; omega)).trans e3,(World.frozen?_of_block (hy.block _ (by simp only; omega))).trans e4,nin _ (by omega),nin _ (by omega),nin _ (by omega),nin _ (by omega),nin _ (by omega)⟩,fun k hk=>?_,⟨OwnZ.nil _ _,⟨List.nodup_nil,by simp⟩,B5.trans (hx.mono B5.size)⟩,fun k hk=>absurd hk (not_inB_nil k)⟩
    rcases hk with (hk | hk | hk | hk | hk) | ⟨ad,e,hk⟩
    · exact ⟨by omega,nin _ (by omega),by omega,by omega,by omega,by omega⟩
    · exact ⟨by omega,nin _ (by omega),by omega,by omega,by omega,by omega⟩
    · cases hk
    · exact hk.elim
    · exact absurd hk (not_inB_nil k)
    · have:=bal ad e
      exact ⟨by omega,nin _ (by omega),by omega,by omega,by omega,by omega⟩
  obtain ⟨P2,hP2⟩:∃ P2,w.heap.size=P2:=⟨_,rfl⟩
  obtain ⟨P6,hP6⟩:∃ P6,W5.heap.size+1=P6:=⟨_,rfl⟩
  have hord:P2<P2+1∧P2+1<P2+1+1∧P2+1+1<P2+1+1+1∧P2+1+1+1<P6:=by omega
  clear hbs hba hb5 B5 e0 e1 e2 e3 e4 e5 e6 HW4 hv4 B4 HBG hz5
  gi_wp2
  rw [hP2,hP6] at HST
  generalize (W5.alloc (Obj.cells #[.slice ba (begL f).length bc] 84)).alloc (Obj.cells #[.slice (some ⟨W5.heap.size,0,none⟩) 1 1] 79)=W7 at *
  refine wpIn_loop_ghost (fun m a' W=>∃ (t8 t9 t10 t11 t12 t13 t14 t15 t16 t17 t18 t19 t20 t21 t22 t23 t24 t25 t26 t27 t28 t29 t30 t31 t32 t33 t34 t35 t36 t37 t38 t39 t40 t41 t42 t43 t44 t45 t46 t47 t48:Value) (Ds:List Nat) (k:Nat) (T:List (List Ir)) (tv wv:Value) (E Et:Nat→Prop),a'={ tmps:=#[.pointer (some ⟨V,0,none⟩),undef,.pointer (some ⟨P2,0,none⟩),.pointer (some ⟨P2+1,0,none⟩),tv,.pointer (some ⟨P2+1+1+1,0,none⟩),.pointer (some ⟨P6,0,none⟩),.int .i64 k,t8,t9,t10,t11,t12,t13,t14,t15,t16,t17,t18,t19,t20,t21,t22,t23,t24,t25,t26,t27,t28,t29,t30,t31,t32,t33,t34,t35,t36,t37,t38,t39,t40,t41,t42,t43,t44,t45,t46,t47,t48,undef],defers:=Ds.map mark }∧m=601 - k∧AI f w (P2+1+1) P2 (P2+1) (P2+1+1+1) P6 Ds k T tv wv E Et W) 601 ?start ?round
  case start=>exact ⟨_,_,_,_,_,_,_,_,_,_,_,_,_,_,_,_,_,_,_,_,_,_,_,_,_,_,_,_,_,_,_,_,_,_,_,_,_,_,_,_,_,[],0,[],_,_,_,_,rfl,rfl,HST.out⟩
  case round =>
  clear HST
  rintro m a' W ⟨t8,t9,t10,t11,t12,t13,t14,t15,t16,t17,t18,t19,t20,t21,t22,t23,t24,t25,t26,t27,t28,t29,t30,t31,t32,t33,t34,t35,t36,t37,t38,t39,t40,t41,t42,t43,t44,t45,t46,t47,t48,Ds,k,T,tv,wv,E,Et,rfl,rfl,hrun,hk,hAW,hSep,hLV,hTV⟩
  obtain ⟨wa,wc,hwv⟩:=hAW.wo.shape
  obtain ⟨M,hM⟩:∃ M,T.length+1=M:=⟨_,rfl⟩
  have HM:Hid ((begL f :: T).length=M):=hM
  rw [HM.out] at hwv
  subst hwv
  have c6:=hAW.c6
  have hlen:=hAW.len
  rw [hM] at hk hlen
  have hsz:=hLV.bw.size
  have hp6:P6<W.heap.size:=World.block_lt_of_cell? _ _ c6
  obtain ⟨Tl,hTl⟩:∃ Tl,((begL f :: T).take k).map (closF f)=Tl:=⟨_,rfl⟩
  have hTll:Tl.length=k:=by rw [← hTl,List.length_map,List.length_take,HM.out]; omega
  rw [hTl] at hLV
  have HTL:Hid (((begL f :: T).take k).map (closF f)=Tl):=hTl
  obtain ⟨va,vc,hvv⟩:=hLV.tl.shape
  rw [hTll] at hvv
  subst hvv
  rw [hP2] at hSep hLV hTV hsz
  by_cases hlt:k<M
  case neg =>
    obtain rfl:k=M:=by omega
    have hTs:Tl=setsOf f T:=by
      rw [← hTl,List.take_of_length_le (by rw [HM.out]; exact Nat.le_refl _)]; rfl
    subst hTs
    have c2:=hAW.c2
    have f2:=hAW.f2
    have c3:=hAW.c3
    have f3:=hAW.f3
    have HAL:Hid (allF f=some (setsOf f T)):=by
      show _=_
      rw [hrun,run_end (by omega) hlen]
    have hnt:∀ q,inB (.slice va k vc) q→q≠P2∧q≠P2+1:=fun q hq=>by
      have:=hSep q (.inl (.inr (.inr (.inr (.inr hq)))))
      exact ⟨this.2.2.1,this.2.2.2.1⟩
    have c3':(W.setCell ⟨P2,0,none⟩ (.slice va k vc)).cell? ⟨P2+1,0,none⟩=some (.int .i64 0):=(World.cell?_setCell_other _ _ _ _ (fun e=>by cases e)).trans c3
    have f3':(W.setCell ⟨P2,0,none⟩ (.slice va k vc)).frozen? ⟨P2+1,0,none⟩=false:=by rw [World.frozen?_setCell]; exact f3
    have BS:But (fun q=>q=P2∨q=P2+1) W ((W.setCell ⟨P2,0,none⟩ (.slice va k vc)).setCell ⟨P2+1,0,none⟩ (.int .i64 0)):=((But.refl _ _).setCell _ _ (.inr (.inl rfl))).setCell _ _ (.inr (.inr rfl))
    have HMK:Hid (Mk P2 Ds ((W.setCell ⟨P2,0,none⟩ (.slice va k vc)).setCell ⟨P2+1,0,none⟩ (.int .i64 0))):=⟨hLV.mks.1,fun d hd=>⟨(hLV.mks.2 d hd).1,BS.same (hLV.mks.2 d hd).2 (fun e=>by have:=hSep d (.inl (.inr (.inr (.inl hd)))); omega)⟩⟩
    have HF:Hid ((fun W'=>W'.cell? ⟨P2,0,none⟩=some (.slice va k vc)∧W'.cell? ⟨P2+1,0,none⟩=some (.int .i64 0)∧SlLL (setsOf f T) (.slice va k vc) W'∧Below P2 w W') ((W.setCell ⟨P2,0,none⟩ (.slice va k vc)).setCell ⟨P2+1,0,none⟩ (.int .i64 0))):=by
      refine ⟨(World.cell?_setCell_other _ _ _ _ (fun e=>by cases e)).trans (World.cell?_setCell_same _ _ _ c2),World.cell?_setCell_same _ _ _ c3',(hLV.tl.keep BS (fun q hq e=>by have:=hnt q hq; omega) (fun q _ e=>.inr fun he=>by have:=hSep q (.inl (.inr (.inr (.inr (.inl he))))); omega)).sl,hLV.bw.trans (BS.below hsz (fun q hq=>by omega))⟩
    have HS6:Hid ((setsOf f T).length=k):=hTll
    have HSL:Hid (∀ x∈setsOf f T,x.length≤maxI):=fun x hx=>by
      unfold setsOf at hx
      rcases List.mem_cons.1 hx with rfl | hx
      · exact closF_len HFP.out _
      · obtain ⟨y,_,rfl⟩:=List.mem_map.1 hx
        exact closF_len HFP.out _
    clear hnt BS hAW hSep hLV hTV hrun hTl HTL
    gi_wp2
    refine leaves_marks_w (B:=P2) (Rw:=(fun W'=>W'.cell? ⟨P2,0,none⟩=some (.slice va k vc)∧W'.cell? ⟨P2+1,0,none⟩=some (.int .i64 0)∧SlLL (setsOf f T) (.slice va k vc) W'∧Below P2 w W')) (fun W' hw=>⟨.tuple #[.slice va k vc,.int .i64 0],results_cells2 rfl _ _ _ (a:=⟨P2,0,none⟩) (b:=⟨P2+1,0,none⟩) rfl rfl (by simp [go_sem,loadVar,hw.1]) (by simp [go_sem,loadVar,hw.2.1]),⟨.inl ⟨_,_,HAL.out,rfl,hw.2.2.1,by rw [HS6.out]; exact hlen,HSL.out⟩,by rw [hP2]; exact hw.2.2.2⟩⟩) (fun W' d hd hh hw=>?_) Ds _ HMK.out HF.out
    have hb:=But.putObj W' d (.deferred none)
    exact ⟨(hb.cell (p:=⟨P2,0,none⟩) (World.block_lt_of_cell? _ _ hw.1) (fun e=>by simp only at e; subst e; exact not_deferred hw.1 hh)).trans hw.1,(hb.cell (p:=⟨P2+1,0,none⟩) (World.block_lt_of_cell? _ _ hw.2.1) (fun e=>by simp only at e; subst e; exact not_deferred hw.2.1 hh)).trans hw.2.1,hw.2.2.1.putObj hh,hw.2.2.2.trans (hb.below (by have:=hw.2.2.2.size; omega) (fun q hq=>by omega))⟩
  obtain ⟨K,hK⟩:∃ K,(begL f :: T)[k]?=some K:=⟨_,List.getElem?_eq_getElem (by rw [HM.out]; exact hlt)⟩
  obtain ⟨hKf,hKn,hKl⟩:=kern_facts HFP.out hAW.met hK
  obtain ⟨b,off,cap,ua,uc,ew,hcell,hsl⟩:=hAW.wo.row hK
  rw [HM.out] at ew
  cases ew
  have HCC:=HCL.out K (.slice ua K.length uc) W (hP2 ▸ hLV.bw) hsl hKf hKn hKl
  have HK:Hid ((begL f :: T)[k]?=some K):=hK
  have HAW:Hid (AW f (P2+1+1) P2 (P2+1) (P2+1+1+1) P6 E T T (.slice (some ⟨b,off,none⟩) M wc) W):=hAW
  have HSep:Hid (SepA (P2+1+1) P2 (P2+1) P6 (fun k=>ZL P2 (P2+1+1+1) Ds Et (.slice va Tl.length vc) k∨E k) (.slice (some ⟨b,off,none⟩) M wc) W):=hTll.symm ▸ hSep
  have HLV:Hid (LV P2 w Ds Et Tl (.slice va Tl.length vc) W):=hTll.symm ▸ hLV
  have HTV:Hid (∀ q,inB (.slice va Tl.length vc) q→P2≤q∧q≠P2+1+1+1∧¬ E q∧¬ Et q):=hTll.symm ▸ hTV
  have HRUN:Hid (allF f=runA f (601 - k) k (setsOf f T)):=hrun
  clear hAW hSep hLV hTV hrun hK hKf hKn hKl hsl hTl
  subst hTll
  gi_wp2_with fail
  refine ⟨trivial,fun _=>by omega,?_⟩
  refine (callsIn_wide.2 HCC).mono ?_
  rintro e W2 ⟨v2,Lc,rfl,hcl,hsl2,hap2,hb2⟩
  have hLc:closF f K=Lc:=closF_eq hcl
  have HLC:Hid (closF f K=Lc):=hLc
  have hLr:RisingI Lc:=hcl.1
  have hLl:Lc.length≤maxI:=by rw [← hLc]; exact closF_len HFP.out _
  obtain ⟨sa,sc,rfl,_⟩:=id hsl2
  have hwz:=hb2.size
  have Bn:Below W2.heap.size W2 (W2.alloc (Obj.cells #[.slice sa Lc.length sc] 84)):=(Below.refl _ _).alloc (Nat.le_refl _) _
  have BWn:Below W.heap.size W (W2.alloc (Obj.cells #[.slice sa Lc.length sc] 84)):=hb2.trans (Bn.mono hwz)
  obtain ⟨hs,gq,gg⟩:=(HLV.out.tl.next BWn).grow (E':=fun q=>Et q∨(W.heap.size≤q∧q<W2.heap.size)) (hsl2.next Bn) (fun q hq=>.inl hq) (fun ad n c e hne=>.inr (by cases e; exact ⟨hap2 ad _ _ rfl,hsl2.lt hne⟩)) (fun q hq=>by
    have hlt2:∀ z,inB (.slice va Tl.length vc) z→z<W.heap.size:=fun z hz=>HLV.out.tl.inLt hz
    rw [World.size_alloc]
    rcases hq with hq | hq
    · have h1:=HSep.out q (.inl (.inr (.inr (.inr (.inl hq)))))
      exact ⟨fun h=>(HTV.out q h).2.2.2 hq,by omega⟩
    · exact ⟨fun h=>by have:=hlt2 q h; omega,by omega⟩)
  simp only [World.size_alloc] at gq gg
  have HQ:Hid (QRow (fun q=>inB (.slice va Tl.length vc) q∨W2.heap.size+1≤q) 1 (.slice va Tl.length vc) Tl.length hs (W2.alloc (Obj.cells #[.slice sa Lc.length sc] 84))):=gq
  have HD:Hid (∀ q,(W2.alloc (Obj.cells #[.slice sa Lc.length sc] 84)).heap.size≤q→inB (.slice va Tl.length vc) q∨W2.heap.size+1≤q):=fun q hq=>.inr (by simpa using hq)
  have HNC:Hid (∀ (q:Nat) (u:Value),[Value.slice sa Lc.length sc][q]?=some u→(W2.alloc (Obj.cells #[.slice sa Lc.length sc] 84)).cell? ((⟨W2.heap.size,0,none⟩:Addr).add q)=some u):=by
    intro q u hq
    rcases q with _ | q
    · simp at hq; subst hq; simp [Addr.add]
    · simp at hq
  have HGG:Hid (∀ v' W3,QRow (fun q=>inB (.slice va Tl.length vc) q∨W2.heap.size+1≤q) 1 v' (Tl.length+1) (hs++[.slice sa Lc.length sc]) W3→But (fun q=>inB (.slice va Tl.length vc) q∨W2.heap.size+1≤q) (W2.alloc (Obj.cells #[.slice sa Lc.length sc] 84)) W3 →
      AW f (P2+1+1) P2 (P2+1) (P2+1+1+1) P6 E T T (.slice (some ⟨b,off,none⟩) M wc) W3∧SepA (P2+1+1) P2 (P2+1) P6 (fun k=>ZL P2 (P2+1+1+1) Ds (fun q=>Et q∨(W.heap.size≤q∧q<W2.heap.size)) v' k∨E k) (.slice (some ⟨b,off,none⟩) M wc) W3∧LV P2 w Ds (fun q=>Et q∨(W.heap.size≤q∧q<W2.heap.size)) (Tl++[Lc]) v' W3∧(∀ q,inB v' q→P2≤q∧q≠P2+1+1+1∧¬ E q∧¬ (Et q∨(W.heap.size≤q∧q<W2.heap.size))∧q<W3.heap.size)∧SlL Lc (.slice sa Lc.length sc) W3∧W.heap.size≤W3.heap.size∧Below wv0.heap.size wv0 W3):=fun v' W3 q1 q2=>by
    obtain ⟨r1,r2⟩:=gg v' W3 q1 q2
    have hltv:∀ z,inB (.slice va Tl.length vc) z→z<W.heap.size:=fun z hz=>HLV.out.tl.inLt hz
    have hltw:∀ z,inB (.slice (some ⟨b,off,none⟩) M wc) z→z<W.heap.size:=fun z hz=>HAW.out.wo.inLt hz
    have q3:But (fun q=>inB (.slice va Tl.length vc) q∨W.heap.size≤q) W W3:=(But.of_next BWn).trans (q2.mono (fun q _ hq=>hq.imp id (fun h=>by omega)))
    have hst:∀ q,inB (.slice va Tl.length vc) q→¬ inB (.slice (some ⟨b,off,none⟩) M wc) q∧q≠P2∧q≠P2+1∧q≠P6∧q≠P2+1+1:=fun q hq=>(HSep.out q (.inl (.inr (.inr (.inr (.inr hq)))))).2
    have nD:∀ q,q<W.heap.size→¬ inB (.slice va Tl.length vc) q→¬ (inB (.slice va Tl.length vc) q∨W.heap.size≤q):=fun q h1 h2 h3=>by
      rcases h3 with h3 | h3
      · exact h2 h3
      · omega
    have hz3:=q3.size
    have hbw:Below P2 W W3:=q3.below (by omega) (fun q hq=>by
      rcases hq with hq | hq
      · exact (HTV.out q hq).1
      · omega)
    refine ⟨HAW.out.keep q3 (nD _ (by omega) fun h=>(hst _ h).2.1 rfl) (nD _ (by omega) fun h=>(hst _ h).2.2.1 rfl) (nD _ (by omega) fun h=>(HTV.out _ h).2.1 rfl) (nD _ (by omega) fun h=>(hst _ h).2.2.2.1 rfl) (nD _ (by omega) fun h=>(hst _ h).2.2.2.2 rfl) (fun q hq=>nD q (hltw q hq) fun h=>(hst q h).1 hq) (fun q hq hd=>.inr fun he=>?_),fun q hq=>?_,⟨r1,⟨HLV.out.mks.1,fun d hd=>⟨(HLV.out.mks.2 d hd).1,q3.same (HLV.out.mks.2 d hd).2 (nD d (HLV.out.mks.lt d hd) fun h=>?_)⟩⟩,HLV.out.bw.trans hbw⟩,fun q hq=>?_,?_,hz3,(HBW.out.trans ((hP2 ▸ HLV.out.bw).mono HBW.out.size)).trans (hbw.mono (by have:=HBW.out.size; omega))⟩
    · rcases hd with hd | hd
      · exact (HTV.out q hd).2.2.1 he
      · omega
    · have old:(ZL P2 (P2+1+1+1) Ds Et (.slice va Tl.length vc) q∨E q)→q<W3.heap.size∧¬ inB (.slice (some ⟨b,off,none⟩) M wc) q∧q≠P2∧q≠P2+1∧q≠P6∧q≠P2+1+1:=fun h=>⟨Nat.lt_of_lt_of_le (HSep.out q h).1 hz3,(HSep.out q h).2⟩
      have new:W.heap.size≤q→q<W3.heap.size→q<W3.heap.size∧¬ inB (.slice (some ⟨b,off,none⟩) M wc) q∧q≠P2∧q≠P2+1∧q≠P6∧q≠P2+1+1:=fun h1 h2=>⟨h2,fun h=>by have:=hltw q h; omega,by omega,by omega,by omega,by omega⟩
      have hq2:W2.heap.size≤W3.heap.size:=by have:=q2.size; rw [World.size_alloc] at this; omega
      rcases hq with (hq | hq | hq | hq | hq) | hq
      · exact old (.inl (.inl hq))
      · exact old (.inl (.inr (.inl hq)))
      · exact old (.inl (.inr (.inr (.inl hq))))
      · rcases hq with hq | hq
        · exact old (.inl (.inr (.inr (.inr (.inl hq)))))
        · exact new hq.1 (by omega)
      · have hl3:=r1.inLt hq
        rcases r2 q hq with h | h
        · exact old (.inl (.inr (.inr (.inr (.inr h)))))
        · exact new (by omega) hl3
      · exact old (.inr hq)
    · obtain ⟨o,u,hc⟩:=HLV.out.tl.cells h
      exact not_deferred hc (HLV.out.mks.2 d hd).2
    · have hl3:=r1.inLt hq
      rcases r2 q hq with h | h
      · have h1:=HTV.out q h
        have h2:=hltv q h
        exact ⟨h1.1,h1.2.1,h1.2.2.1,fun h3=>by
          rcases h3 with h3 | h3
          · exact h1.2.2.2 h3
          · omega,hl3⟩
      · refine ⟨by omega,by omega,fun he=>?_,fun h3=>?_,hl3⟩
        · have:=(HSep.out q (.inr he)).1; omega
        · rcases h3 with h3 | h3
          · have:=(HSep.out q (.inl (.inr (.inr (.inr (.inl h3)))))).1; omega
          · omega
    · refine (hsl2.next Bn).but q2 (fun ad n c e hne hd=>?_)
      cases e
      have h1:=hap2 ad _ _ rfl
      have h2:=hsl2.lt hne
      rcases hd with hd | hd
      · have:=hltv _ hd; omega
      · omega
  clear gq gg hcl hsl2 hap2 hb2 Bn BWn hcell HCC hLc
  gi_wp2_with (gi_at_builtin; refine wpListIn_append_q rfl (.tmp 29) (.tmp 31) 79 rfl 84 i0 _ 1 24 Tryz.underlying79 hi0 hz0 hz1 hz2 rfl (by decide) rfl HQ.out HD.out ⟨W2.heap.size,0,none⟩ 1 [.slice sa Lc.length sc] rfl rfl HNC.out (by simp [Value.oneCell']) (by unfold maxLen; omega) (by omega) ?_)
  intro v3 W3 hq3 hb3
  obtain ⟨qa,qc,rfl⟩:=hq3.shape
  obtain ⟨z1,z2,z3,z4,z5,z6,z7⟩:=HGG.out _ _ hq3 hb3
  have HKN:=kernels_any V sa Lc.length sc W3
  have HZ:Hid (AW f (P2+1+1) P2 (P2+1) (P2+1+1+1) P6 E T T (.slice (some ⟨b,off,none⟩) M wc) W3∧SepA (P2+1+1) P2 (P2+1) P6 (fun k=>ZL P2 (P2+1+1+1) Ds (fun q=>Et q∨(W.heap.size≤q∧q<W2.heap.size)) (.slice qa (Tl.length+1) qc) k∨E k) (.slice (some ⟨b,off,none⟩) M wc) W3∧LV P2 w Ds (fun q=>Et q∨(W.heap.size≤q∧q<W2.heap.size)) (Tl++[Lc]) (.slice qa (Tl.length+1) qc) W3∧(∀ q,inB (.slice qa (Tl.length+1) qc) q→P2≤q∧q≠P2+1+1+1∧¬ E q∧¬ (Et q∨(W.heap.size≤q∧q<W2.heap.size))∧q<W3.heap.size)∧SlL Lc (.slice sa Lc.length sc) W3∧Below wv0.heap.size wv0 W3):=⟨z1,z2,z3,z4,z5,z7⟩
  have hz3:P2≤W3.heap.size:=by omega
  clear z1 z2 z3 z4 z5 z6 z7 hq3 hb3 HGG HQ HD HNC HAW HSep HLV HTV c6
  gi_wp2_with fail
  refine ⟨trivial,fun _=>by omega,?_⟩
  refine (callsIn_wide.2 HKN).mono ?_
  rintro e W4 ⟨rfl,ty1,ty2,rfl⟩
  have hb4:Below W3.heap.size W3 ((W3.alloc (Obj.cells #[.pointer (some ⟨V,0,none⟩)] ty1)).alloc (Obj.cells #[.slice sa Lc.length sc] ty2)):=((Below.refl _ _).alloc (Nat.le_refl _) _).alloc (by simp) _
  have k1:((W3.alloc (Obj.cells #[.pointer (some ⟨V,0,none⟩)] ty1)).alloc (Obj.cells #[.slice sa Lc.length sc] ty2)).cell? ⟨W3.heap.size,0,none⟩=some (.pointer (some ⟨V,0,none⟩)):=(((Below.refl _ (W3.alloc (Obj.cells #[.pointer (some ⟨V,0,none⟩)] ty1))).alloc (Nat.le_refl _) _).cell (p:=⟨W3.heap.size,0,none⟩) (IBox _ _ W3).2.2).trans (IBox _ _ W3).1
  have k2:=(IBox (.slice sa Lc.length sc) ty2 (W3.alloc (Obj.cells #[.pointer (some ⟨V,0,none⟩)] ty1))).1
  rw [World.size_alloc] at k2
  have HK4:Hid (_∧_∧_):=And.intro k1 (And.intro k2 hb4)
  have hs4:=hb4.size
  clear k1 k2 hb4 HKN
  generalize ((W3.alloc (Obj.cells #[.pointer (some ⟨V,0,none⟩)] ty1)).alloc (Obj.cells #[.slice sa Lc.length sc] ty2))=W4 at *
  have HRS:Hid (∀ T',rowK (kernsL f Lc) T=T'→allF f=T'.bind fun T'=>runA f (600 - Tl.length) (Tl.length+1) (setsOf f T')):=fun T' h=>by
    rw [HRUN.out,run_step HFP.out HZ.out.1.met HZ.out.1.len (by omega) HK.out,HLC.out,h]
  gi_wp2
  refine all_range n (by omega) f ⟨ta,tc,na,nc,pa,pc⟩ Le R V Lc sa sc W3.heap.size (W3.heap.size+1) wv0 P2 (P2+1+1) P2 (P2+1) (P2+1+1+1) P6 Ds (fun q=>Et q∨(W.heap.size≤q∧q<W2.heap.size)) E (Tl++[Lc]) T (.slice qa (Tl.length+1) qc) (.slice (some ⟨b,off,none⟩) M wc) w W4 HRG.out.1 HRG.out.2 (HZ.out.2.2.2.2.2.trans (HK4.out.2.2.mono HZ.out.2.2.2.2.2.size)) HFP.out HK4.out.1 HK4.out.2.1 (HZ.out.2.2.2.2.1.next HK4.out.2.2) hLr hLl hord (HZ.out.1.next HK4.out.2.2) (fun q hq=>⟨Nat.lt_of_lt_of_le (HZ.out.2.1 q hq).1 hs4,(HZ.out.2.1 q hq).2⟩) (HZ.out.2.2.1.keep (P5:=P2+1+1+1) hz3 (D:=fun _=>False) (But.of_next HK4.out.2.2) (fun _ _ h=>h)) (Nat.le_refl _) ?_ ?_
  · intro T' wv' E' W' hrk hE' hsw hA' hS' hL'
    obtain ⟨m1,m2,m3,m4⟩:=rowK_met (f:=f) (kernsL f Lc) T T' (kernsL_kern hLr) HZ.out.1.met HZ.out.1.nodup HZ.out.1.len hrk
    have HAI:Hid (AI f w (P2+1+1) P2 (P2+1) (P2+1+1+1) P6 (W4.heap.size :: Ds) (Tl.length+1) T' (.slice qa (Tl.length+1) qc) wv' E' (fun q=>Et q∨(W.heap.size≤q∧q<W2.heap.size)) W'):=by
      unfold AI
      rw [hP2]
      refine ⟨by rw [HRS.out _ hrk,Option.bind_some,show 601 - (Tl.length+1)=600 - Tl.length by omega],by have:=m4.length_le; omega,hA',hS',?_,fun q hq=>?_⟩
      · rw [take_prefix_eq m4 (by omega),take_map_succ HK.out,HTL.out,HLC.out]
        exact hL'
      · have h1:=HZ.out.2.2.2.1 q hq
        refine ⟨h1.1,h1.2.1,fun he=>?_,h1.2.2.2.1⟩
        rcases hE' q he with h | h
        · exact h1.2.2.1 h
        · omega
    clear m1 m2 m3 m4 hrk hE' hsw hA' hS' hL' HZ HK4 HRS
    gi_wp2
    exact ⟨601 - (Tl.length+1),by omega,_,_,_,_,_,_,_,_,_,_,_,_,_,_,_,_,_,_,_,_,_,_,_,_,_,_,_,_,_,_,_,_,_,_,_,_,_,_,_,_,_,W4.heap.size :: Ds,Tl.length+1,T',_,wv',E',_,rfl,rfl,HAI.out⟩
  · rintro W' ⟨x1,x2,x3,x4,x5⟩
    have HAL:Hid (allF f=none):=by
      show _=_
      rw [HRS.out _ x1]; rfl
    have HF:Hid ((fun W'=>W'.cell? ⟨P2,0,none⟩=some (.slice none 0 0)∧W'.cell? ⟨P2+1,0,none⟩=some (.int .i64 15)∧True∧Below P2 w W') W'∧Mk P2 (W4.heap.size :: Ds) W'):=⟨⟨x2,x3,trivial,x5⟩,x4⟩
    clear x1 x2 x3 x4 x5 HZ HK4 HRS
    gi_wp2
    refine leaves_marks_w (B:=P2) (Rw:=(fun W'=>W'.cell? ⟨P2,0,none⟩=some (.slice none 0 0)∧W'.cell? ⟨P2+1,0,none⟩=some (.int .i64 15)∧True∧Below P2 w W')) (fun W' hw=>⟨.tuple #[.slice none 0 0,.int .i64 15],results_cells2 rfl _ _ _ (a:=⟨P2,0,none⟩) (b:=⟨P2+1,0,none⟩) rfl rfl (by simp [go_sem,loadVar,hw.1]) (by simp [go_sem,loadVar,hw.2.1]),⟨.inr ⟨HAL.out,rfl⟩,by rw [hP2]; exact hw.2.2.2⟩⟩) (fun W' d hd hh hw=>?_) (W4.heap.size :: Ds) _ HF.out.2 HF.out.1
    have hb:=But.putObj W' d (.deferred none)
    exact ⟨(hb.cell (p:=⟨P2,0,none⟩) (World.block_lt_of_cell? _ _ hw.1) (fun e=>by simp only at e; subst e; exact not_deferred hw.1 hh)).trans hw.1,(hb.cell (p:=⟨P2+1,0,none⟩) (World.block_lt_of_cell? _ _ hw.2.1) (fun e=>by simp only at e; subst e; exact not_deferred hw.2.1 hh)).trans hw.2.1,trivial,hw.2.2.2.trans (hb.below (by have:=hw.2.2.2.size; omega) (fun q hq=>by omega))⟩
end Go.Proofs.YtiamjafecbpfpaaGreatDoor
namespace Go.Proofs.YtiamjafecbpfpaaGreatDoor
open Go.RowKit
set_option maxRecDepth 100000 in
set_option maxHeartbeats 1600000 in
theorem allP_any (f:Fl) (a:FlA) (w:World) (hf:FlAt f a w) (hb:fitB f=true) (hT:Tb w) :
    Calls Tryz.prog 24 #[a.val f] w fun e w'=>Alls f w e w':=by
  have hp:=fit_facts hb
  have hF:=fun W (hw:Below w.heap.size w W)=>flatFit_any f a W (hf.next hw) hb
  have hV:=fun W (hw:Below w.heap.size w W)=>iview_any f a W (hf.next hw) hp (hT.next hw)
  have HA:Hid (∀ V Le R W1,Below w.heap.size w W1→VwAt f a V Le R W1→FE f R Le→Calls Tryz.prog 36 #[.pointer (some ⟨V,0,none⟩)] W1 fun e w'=>Alls f W1 e w'):=fun V Le R W1 h1 hv hfe=>callsIn_wide.1 (all_in 6 (by omega) f a Le R V W1 W1 hv (hf.next h1) hfe (Below.refl _ _) hp)
  obtain ⟨ta,tc,na,nc,pa,pc⟩:=a
  have X0:=FBox.new f ⟨ta,tc,na,nc,pa,pc⟩ 50 w
  have B0:Below w.heap.size w (w.alloc (fobj f ⟨ta,tc,na,nc,pa,pc⟩ 50)):=(Below.refl _ _).alloc (Nat.le_refl _) _
  unfold fobj at X0 B0
  unfold FlA.val at hF hV ⊢
  simp only at *
  have HF:Hid (∀ W,Below w.heap.size w W→Calls Tryz.prog 34 #[.agg #[.slice ta f.terms.length tc,.slice na f.nons.length nc,.slice pa f.prods.length pc]] W fun e w'=>e=.returned (.bool true)∧Below W.heap.size W w'):=hF
  have HV:Hid (∀ W,Below w.heap.size w W→Calls Tryz.prog 35 #[.agg #[.slice ta f.terms.length tc,.slice na f.nons.length nc,.slice pa f.prods.length pc]] W fun e w'=>Viewed f ⟨ta,tc,na,nc,pa,pc⟩ W e w'):=hV
  clear hF hV hf hT
  obtain ⟨x0,x1,x2⟩:=X0.2
  have hxl:=X0.1
  simp only at x0 x1 x2
  go_enter Tryz.func24,Tryz.ntmps24
  go_wp2_with fail
  generalize w.alloc (Obj.cells #[.slice ta f.terms.length tc,.slice na f.nons.length nc,.slice pa f.prods.length pc] 50)=w0 at *
  refine (HF.out _ B0).mono ?_
  rintro e w1 ⟨rfl,b1⟩
  have B1:Below w.heap.size w w1:=B0.trans (b1.mono B0.size)
  have y0:=(b1.cell (p:=⟨w.heap.size,0,none⟩) hxl).trans x0
  have y1:=(b1.cell (p:=⟨w.heap.size,1,none⟩) hxl).trans x1
  have y2:=(b1.cell (p:=⟨w.heap.size,2,none⟩) hxl).trans x2
  clear x0 x1 x2
  go_wp2_with fail
  refine (HV.out _ B1).mono ?_
  rintro e w2 ⟨V,Le,R,rfl,hvl,hgb,hgr,hvw,b2⟩
  have B2:Below w.heap.size w w2:=B1.trans (b2.mono B1.size)
  have HCC:=HA.out V Le R w2 B2 hvw ⟨hgr,hgb⟩
  clear hgb hgr hvw HA HV HF X0
  go_wp2_with fail
  refine HCC.mono ?_
  rintro e w3 ⟨h1,h2⟩
  have B3:Below w.heap.size w w3:=B2.trans (h2.mono B2.size)
  rcases h1 with ⟨v',R',k1,rfl,k2,k3,k4⟩ | ⟨k1,rfl⟩
  · have HR:Hid (allF f=some R'∧SlLL R' v' w3∧R'.length≤600∧∀ x∈R',x.length≤maxI):=⟨k1,k2,k3,k4⟩
    clear k1 k2 k3 k4 HCC
    go_wp2_with fail
    go_ret2
    exact ⟨.inl ⟨v',R',HR.out.1,rfl,HR.out.2⟩,B3⟩
  · have HR:Hid (allF f=none):=k1
    clear k1 HCC
    go_wp2_with fail
    go_ret2
    exact ⟨.inr ⟨HR.out,rfl⟩,B3⟩
end Go.Proofs.YtiamjafecbpfpaaGreatDoor
namespace Go.Proofs.YtiamjafecbpfpaaGreatDoor
open Go.RowKit Go.Maps
def encV (p:Value × Value):List Value:=[p.1,p.2]
structure OwnW (B L:Nat) (T:List Rw) (vs:List (Value × Value)) (v:Value) (W:World):Prop where
  own:W.ownsRow B 38 2 v vs.length (vs.flatMap encV)
  len:T.length=vs.length
  rows:∀ (i:Nat) (r:Rw) (p:Value × Value),T[i]?=some r→vs[i]?=some p→∃ lo hi,KeepR lo hi r p.1 p.2 W∧L≤lo∧hi≤W.heap.size∧∀ k,v.ownBlock=some k→k<lo∨hi≤k
theorem OwnW.nil (B L:Nat) (W:World):OwnW B L [] [] (.slice none 0 0) W:=⟨World.ownsRow_nil _ _ _ _,rfl,fun i r p h=>by simp at h⟩
theorem OwnW.keep {B L:Nat} {T:List Rw} {vs:List (Value × Value)} {v:Value} {W W':World} {D:Nat→Prop} (h:OwnW B L T vs v W) (hb:But D W W') (hd:∀ k,D k→k<L) (hv:∀ k,v.ownBlock=some k→¬ D k):OwnW B L T vs v W' :=
  ⟨ownsRow_keep h.own hb hv,h.len,fun i r p hr hp=>by
    obtain ⟨lo,hi,h1,h2,h3,h4⟩:=h.rows i r p hr hp
    exact ⟨lo,hi,h1.keep hb (fun k hk=>.inl (Nat.lt_of_lt_of_le (hd k hk) h2)),h2,Nat.le_trans h3 hb.size,h4⟩⟩
theorem OwnW.next {B L:Nat} {T:List Rw} {vs:List (Value × Value)} {v:Value} {W W':World} (h:OwnW B L T vs v W) (hb:Below W.heap.size W W'):OwnW B L T vs v W' :=
  h.keep (D:=fun _=>False) (But.of_next hb) (fun _ h=>h.elim) (fun _ _ h=>h)
theorem OwnW.more {B L:Nat} {T:List Rw} {vs:List (Value × Value)} {v v':Value} {r:Rw} {p:Value × Value} {lo hi:Nat} {W W1:World} (h:OwnW B L T vs v W) (hk:KeepR lo hi r p.1 p.2 W) (hL:L≤lo) (hh:hi≤W.heap.size) (hvl:∀ k,v.ownBlock=some k→k<lo) (hg:W.grownBy W1 v.ownBlock)
    (ho:W1.ownsRow B 38 2 v' (vs.length+1) (vs.flatMap encV++[p.1,p.2])) (hat:∀ k,v'.ownBlock=some k→v.ownBlock=some k∨W.heap.size≤k):OwnW B L (T++[r]) (vs++[p]) v' W1:=by
  have hb:But (fun k=>v.ownBlock=some k) W W1:=⟨hg.os,hg.tape,hg.output,hg.size,fun k hk hd=>hg.block k hk (fun e=>hd e.symm)⟩
  refine ⟨by rw [List.length_append,List.flatMap_append]; exact ho,by simp [h.len],fun i q u hq hu=>?_⟩
  by_cases hi':i<T.length
  · rw [List.getElem?_append_left hi'] at hq
    rw [List.getElem?_append_left (by rw [← h.len]; exact hi')] at hu
    obtain ⟨lo',hi'',h1,h2,h3,h4⟩:=h.rows i q u hq hu
    refine ⟨lo',hi'',h1.keep hb h4,h2,Nat.le_trans h3 hb.size,fun k hk=>?_⟩
    rcases hat k hk with e | e
    · exact h4 k e
    · exact .inr (Nat.le_trans h3 e)
  · have e1:i=T.length:=by
      have:=(List.getElem?_eq_some_iff.1 hq).1
      simp at this; omega
    subst e1
    rw [List.getElem?_append_right (Nat.le_refl _)] at hq
    rw [h.len,List.getElem?_append_right (Nat.le_refl _)] at hu
    simp at hq hu
    subst hq
    subst hu
    refine ⟨lo,hi,hk.keep hb (fun k hk=>.inl (hvl k hk)),hL,Nat.le_trans hh hb.size,fun k hk=>?_⟩
    rcases hat k hk with e | e
    · exact .inl (hvl k e)
    · exact .inr (Nat.le_trans hh e)
theorem OwnW.sl {B L:Nat} {T:List Rw} {vs:List (Value × Value)} {v:Value} {W:World} (h:OwnW B L T vs v W) (hl:T.length≤140737488351232):SlW T v W:=by
  rcases Nat.eq_zero_or_pos vs.length with h0 | h0
  · have h1:T=[]:=List.eq_nil_of_length_eq_zero (by rw [h.len]; exact h0)
    subst h1
    have h2:vs=[]:=List.eq_nil_of_length_eq_zero h0
    subst h2
    rcases h.own.2 with ⟨rfl,_⟩ | ⟨g,cap,cur,rfl,_⟩
    · exact SlW.nil _
    · exact ⟨_,_,rfl,fun i x hx=>(by simp at hx),fun e=>(by cases e),Nat.zero_le _,Nat.zero_le _⟩
  · obtain ⟨g,cap,rfl,hg,hle,hcell⟩:=own_cells (enc:=encV) (c:=2) (fun _=>rfl) h.own h0
    refine ⟨some ⟨g,0,none⟩,cap,by rw [h.len],fun i x hx=>?_,fun e=>(by cases e),by rw [h.len]; exact hle,hl⟩
    have hi:i<vs.length:=by rw [← h.len]; exact (List.getElem?_eq_some_iff.1 hx).1
    have hp:vs[i]?=some vs[i]:=List.getElem?_eq_getElem hi
    obtain ⟨lo,hi',h1,_⟩:=h.rows i x vs[i] hx hp
    obtain ⟨k1,k2⟩:=h1 W (fun _=>False) (But.refl _ _) (fun _ h=>h.elim)
    refine ⟨g,0,vs[i].1,vs[i].2,rfl,hg,?_,?_,k1,k2⟩
    · have:=hcell i 0 vs[i] _ hp (by omega) rfl; simpa using this
    · have:=hcell i 1 vs[i] _ hp (by omega) rfl; simpa using this
theorem results_cell_tmp {fn:Func} {p q:Tmp} {t:TypeId} (h:fn.results=#[.cell p t,.tmp q]) (tmps:Array Value) (P:Program) (w:World) {a:Addr} {x y:Value} (ha:tmps[p]?.getD undef=.pointer (some a)) (hb:tmps[q]?.getD undef=y) (hx:(loadVar t a).run P w=.ok x w) :
    (results fn tmps).run P w=.ok (.tuple #[x,y]) w:=by
  simp only [results,h]
  simp [Result.andThen,ha,hb,hx,asAddr]
theorem infoRow:(Tryz.prog.info? 38).map (fun i=>(i.zero,i.size,i.bytes))=some (some (.agg #[.slice none 0 0,.slice none 0 0]),2,48):=by kernel_rfl
def KeepU (lo hi:Nat) (l:List Int) (u:Value) (W:World):Prop:=∀ (W':World) (D:Nat→Prop),But D W W'→(∀ k,D k→k<lo∨hi≤k)→SlI l u W'
theorem KeepU.keep {lo hi:Nat} {l:List Int} {u:Value} {W W1:World} {D:Nat→Prop} (h:KeepU lo hi l u W) (hb:But D W W1) (hd:∀ k,D k→k<lo∨hi≤k):KeepU lo hi l u W1:=fun W' D' hb' hd' =>
  h W' (fun k=>D k∨D' k) ((hb.mono (fun _ _ h=>.inl h)).trans (hb'.mono (fun _ _ h=>.inr h))) (fun k hk=>hk.elim (hd k) (hd' k))
theorem KeepU.of {B lo hi:Nat} {l:List Int} {u:Value} {W:World} (h:OwnI B l u W) (hB:lo≤B) (hi':W.heap.size≤hi) (hok:∀ x∈l,i64B x):KeepU lo hi l u W:=fun W' D hb hd =>
  sli_own (ownsRow_keep (D:=fun k=>D k∧k<W.heap.size) h (hb.mono (fun k hk h=>⟨h,hk⟩)) (fun k hk e=>by
    have h1:=World.ownsRow.lt h k hk
    rcases hd k e.1 with h2 | h2 <;> omega)) hok
def encAu (p:Ac × Value):List Value:=[.int .i64 p.1.look,.int .i64 p.1.to,p.2,.bool p.1.acc]
def okAc (a:Ac):Prop:=i64B a.look∧i64B a.to∧a.red.length≤140737488351232
structure OwnA (B L:Nat) (P:List (Ac × Value)) (v:Value) (W:World):Prop where
  own:W.ownsRow B 41 4 v P.length (P.flatMap encAu)
  rows:∀ (i:Nat) (p:Ac × Value),P[i]?=some p→okAc p.1∧∃ lo hi,KeepU lo hi p.1.red p.2 W∧L≤lo∧hi≤W.heap.size∧∀ k,v.ownBlock=some k→k<lo∨hi≤k
theorem OwnA.nil (B L:Nat) (W:World):OwnA B L [] (.slice none 0 0) W:=⟨World.ownsRow_nil _ _ _ _,fun i p h=>by simp at h⟩
theorem OwnA.keep {B L:Nat} {P:List (Ac × Value)} {v:Value} {W W':World} {D:Nat→Prop} (h:OwnA B L P v W) (hb:But D W W') (hd:∀ k,D k→k<L) (hv:∀ k,v.ownBlock=some k→¬ D k):OwnA B L P v W' :=
  ⟨ownsRow_keep h.own hb hv,fun i p hp=>by
    obtain ⟨h0,lo,hi,h1,h2,h3,h4⟩:=h.rows i p hp
    exact ⟨h0,lo,hi,h1.keep hb (fun k hk=>.inl (Nat.lt_of_lt_of_le (hd k hk) h2)),h2,Nat.le_trans h3 hb.size,h4⟩⟩
theorem OwnA.next {B L:Nat} {P:List (Ac × Value)} {v:Value} {W W':World} (h:OwnA B L P v W) (hb:Below W.heap.size W W'):OwnA B L P v W' :=
  h.keep (D:=fun _=>False) (But.of_next hb) (fun _ h=>h.elim) (fun _ _ h=>h)
theorem OwnA.more {B L:Nat} {P:List (Ac × Value)} {v v':Value} {p:Ac × Value} {lo hi:Nat} {W W1:World} (h:OwnA B L P v W) (hk:KeepU lo hi p.1.red p.2 W) (hok:okAc p.1) (hL:L≤lo) (hh:hi≤W.heap.size) (hvl:∀ k,v.ownBlock=some k→k<lo) (hg:W.grownBy W1 v.ownBlock)
    (ho:W1.ownsRow B 41 4 v' (P.length+1) (P.flatMap encAu++encAu p)) (hat:v'.ownBlock=v.ownBlock∨v'.ownBlock=some W.heap.size):OwnA B L (P++[p]) v' W1:=by
  have hb:But (fun k=>v.ownBlock=some k) W W1:=⟨hg.os,hg.tape,hg.output,hg.size,fun k hk hd=>hg.block k hk (fun e=>hd e.symm)⟩
  refine ⟨by rw [List.length_append,List.flatMap_append]; simpa using ho,fun i u hu=>?_⟩
  by_cases hi':i<P.length
  · rw [List.getElem?_append_left hi'] at hu
    obtain ⟨h0,lo',hi'',h1,h2,h3,h4⟩:=h.rows i u hu
    refine ⟨h0,lo',hi'',h1.keep hb h4,h2,Nat.le_trans h3 hb.size,fun k hk=>?_⟩
    rcases hat with e | e
    · rw [e] at hk; exact h4 k hk
    · rw [e] at hk; cases hk; exact .inr h3
  · have e1:i=P.length:=by
      have:=(List.getElem?_eq_some_iff.1 hu).1
      simp at this; omega
    subst e1
    rw [List.getElem?_append_right (Nat.le_refl _)] at hu
    simp at hu
    subst hu
    refine ⟨hok,lo,hi,hk.keep hb (fun k hk=>.inl (hvl k hk)),hL,Nat.le_trans hh hb.size,fun k hk=>?_⟩
    rcases hat with e | e
    · rw [e] at hk; exact .inl (hvl k hk)
    · rw [e] at hk; cases hk; exact .inr hh
theorem OwnA.sl {B L:Nat} {P:List (Ac × Value)} {v:Value} {W:World} (h:OwnA B L P v W) (hl:P.length≤140737488351232):SlA (P.map Prod.fst) v W:=by
  rcases Nat.eq_zero_or_pos P.length with h0 | h0
  · have h1:P=[]:=List.eq_nil_of_length_eq_zero h0
    subst h1
    rcases h.own.2 with ⟨rfl,_⟩ | ⟨g,cap,cur,rfl,_⟩
    · exact SlA.nil _
    · exact ⟨_,_,rfl,fun i x hx=>(by simp at hx),fun e=>(by cases e),Nat.zero_le _,Nat.zero_le _⟩
  · obtain ⟨g,cap,rfl,hg,hle,hcell⟩:=own_cells (enc:=encAu) (c:=4) (fun _=>rfl) h.own h0
    refine ⟨some ⟨g,0,none⟩,cap,by rw [List.length_map],fun i x hx=>?_,fun e=>(by cases e),by rw [List.length_map]; exact hle,by rw [List.length_map]; exact hl⟩
    rw [List.getElem?_map] at hx
    obtain ⟨p,hp,rfl⟩:=Option.map_eq_some_iff.1 hx
    obtain ⟨h0,lo,hi',h1,_⟩:=h.rows i p hp
    have k1:=h1 W (fun _=>False) (But.refl _ _) (fun _ h=>h.elim)
    refine ⟨g,0,p.2,rfl,hg,?_,?_,?_,?_,k1,h0.1,h0.2.1,h0.2.2⟩
    · have:=hcell i 0 p _ hp (by omega) rfl; simpa using this
    · have:=hcell i 1 p _ hp (by omega) rfl; simpa using this
    · have:=hcell i 2 p _ hp (by omega) rfl; simpa using this
    · have:=hcell i 3 p _ hp (by omega) rfl; simpa using this
end Go.Proofs.YtiamjafecbpfpaaGreatDoor
namespace Go.Proofs.YtiamjafecbpfpaaGreatDoor
open Go.RowKit
theorem own_only {g B n k:Nat} {e:TypeId} {v:Value} {xs:List Value} {W W':World} (h:W.ownsRow B e k v n xs) (hb:Only g W W') (hg:g<B):W'.ownsRow B e k v n xs :=
  ownsRow_keep h hb (fun j hj e=>by have:=(World.ownsRow.lt h j hj).1; omega)
theorem Only.grown {g:Nat} {a b c:World} {ob:Option Nat} (h:Only g a b) (hg:b.grownBy c ob) (hn:∀ k,ob=some k→a.heap.size≤k):Only g a c :=
  ⟨hg.os.trans h.os,hg.tape.trans h.tape,hg.output.trans h.output,Nat.le_trans h.size hg.size,fun k hk hd=>(hg.block k (Nat.lt_of_lt_of_le hk h.size) (fun e=>by have:=hn k e.symm; omega)).trans (h.block k hk hd)⟩
theorem RdB.grown {g:Nat} {l:List UInt8} {W W':World} {ob:Option Nat} (h:RdB g l W) (hg:W.grownBy W' ob) (hn:∀ k,ob=some k→k≠g):RdB g l W' :=
  (hg.block g h.lt (fun e=>hn g e.symm rfl)).trans h
theorem RdB.only {g j:Nat} {l:List UInt8} {W W':World} (h:RdB g l W) (hb:Only j W W') (hn:g≠j):RdB g l W' :=
  (hb.block g h.lt hn).trans h
def valNs (l:List Int) (v:Value) (W w':World):Prop:=OwnI W.heap.size l v w'∧(∀ x∈l,i64B x)∧l.length≤65535
def valG (x:Int × Int) (v:Value) (_ _:World):Prop:=v=.agg #[.int .i64 x.1,.int .i64 x.2]∧okP x
def valGs (l:List (Int × Int)) (v:Value) (W w':World):Prop:=OwnP 65 W.heap.size l v w'∧(∀ x∈l,okP x)∧l.length≤65535
def valA (x:Ac) (v:Value) (W w':World):Prop:=∃ ua n uc,v=.agg #[.int .i64 x.look,.int .i64 x.to,.slice ua n uc,.bool x.acc]∧KeepU W.heap.size w'.heap.size x.red (.slice ua n uc) w'∧okAc x
def valAs (l:List Ac) (v:Value) (W w':World):Prop:=∃ P:List (Ac × Value),P.map Prod.fst=l∧OwnA W.heap.size W.heap.size P v w'∧P.length≤65535
def valRw (x:Rw) (v:Value) (W w':World):Prop:=∃ ua n uc ga m gc,v=.agg #[.slice ua n uc,.slice ga m gc]∧KeepR W.heap.size w'.heap.size x (.slice ua n uc) (.slice ga m gc) w'
theorem rdNs_ok:∀ {n:Nat} {s r:List UInt8} {l:List Int},rdK rdN n s=.ok (l,r)→∀ x∈l,i64B x
  | 0,s,r,l,h=>by simp only [rdK,Except.ok.injEq,Prod.mk.injEq] at h; rw [← h.1]; intro x hx; cases hx
  | n+1,s,r,l,h=>by
    simp only [rdK] at h
    cases h1:rdN s with
    | error e=>simp [h1] at h
    | ok p =>
      obtain ⟨x,s'⟩:=p
      simp only [h1] at h
      cases h2:rdK rdN n s' with
      | error e=>simp [h2] at h
      | ok q =>
        obtain ⟨m,s2⟩:=q
        simp only [h2,Except.ok.injEq,Prod.mk.injEq] at h
        rw [← h.1]
        intro y hy
        rcases List.mem_cons.1 hy with rfl | hy
        · have:=rdN_lt h1; unfold i64B; omega
        · exact rdNs_ok h2 y hy
set_option maxRecDepth 100000 in
set_option maxHeartbeats 2000000 in
theorem listN_any (g:Nat) (l:List UInt8) (w:World) (h:RdB g l w) :
    Calls Tryz.prog 68 #[.pointer (some ⟨g,0,none⟩),.func (.func 45) #[.pointer (some ⟨g,0,none⟩)] #[]] w fun e w'=>Tells g valNs (rdL rdN l) w e w':=by
  obtain ⟨i0,hi0,hz0,hz1,hz2⟩:=info_parts infoInt1
  have HN:=number_any g l w h
  have H1:Hid (∀ (l:List UInt8) W,RdB g l W→Calls Tryz.prog 45 #[.pointer (some ⟨g,0,none⟩)] W fun e w'=>Tells g valN (rdN l) W e w'):=fun l W h=>number_any g l W h
  have hgw:=h.lt
  have HGW:Hid (g<w.heap.size):=hgw
  clear h
  go_enter Tryz.func68,Tryz.ntmps68
  go_wp2_with fail
  refine HN.mono ?_
  rintro e w1 (⟨n,l1,v,h1,rfl,rfl,h4,h5⟩ | ⟨c,h1,rfl,h5⟩)
  case inr=>exact ⟨rfl,.inr ⟨c,by unfold rdL; rw [h1],rfl,h5⟩⟩
  obtain ⟨hn0,hn1,_⟩:=rdN_lt h1
  obtain ⟨n,rfl⟩:=Int.eq_ofNat_of_zero_le hn0
  have HL:Hid (rdL rdN l=rdK rdN n l1):=by show _=_; unfold rdL; rw [h1]; rfl
  clear HN h1
  go_wp2_with fail
  go_loopw [5,8] (fun sv iv wr=>∃ (i:Nat) (P:List Int) (r:List UInt8),iv=.int .i64 i∧i≤n∧rdK rdN i l1=.ok (P,r)∧OwnI w.heap.size P sv wr∧RdB g r wr∧Only g w wr) (fun _ i _=>n - (intOf i).toNat)
  case atStart=>exact ⟨0,[],l1,rfl,Nat.zero_le _,rfl,World.ownsRow_nil _ _ _ _,h4,h5⟩
  case round =>
  clear h4 h5
  obtain ⟨i,P,r,rfl,hi,hk,hO,hr,hw⟩:=hrel
  obtain ⟨va,vc,rfl⟩:=slice_of_ownK hO
  have hPl:P.length=i:=by exact rdK_len hk
  have hPl1:P.length≤i:=by omega
  have hsz:=hw.size
  by_cases hlt:i<n
  case neg =>
    obtain rfl:i=n:=by omega
    have HR:Hid (Tells g valNs (rdL rdN l) w (.returned (.slice va P.length vc)) wr):=.inl ⟨_,r,_,by rw [HL.out]; exact hk,rfl,⟨hO,fun x hx=>rdNs_ok hk x hx,by omega⟩,hr,hw⟩
    clear hO hr hw hk H1 HL hPl hPl1
    go_wp2_with fail
    go_ret
    exact HR.out
  have hC:=H1.out r wr hr
  have HOO:Hid (OwnI w.heap.size P (.slice va P.length vc) wr∧Only g w wr∧RdB g r wr):=⟨hO,hw,hr⟩
  have HK:Hid (∀ _:Nat,rdK rdN i l1=.ok (P,r)):=fun _=>hk
  have HPL:Hid (P.length=i):=hPl
  clear hO hr hw hk hPl
  go_wp2_with fail
  refine hC.mono ?_
  rintro e w2 (⟨x,r2,v,k1,rfl,k2,k3,k4⟩ | ⟨c,k1,rfl,k4⟩)
  case inr =>
    refine ⟨rfl,.inr ⟨c,?_,rfl,HOO.out.2.1.trans k4⟩⟩
    rw [HL.out]
    refine rdK_err (n:=i+1) (by omega) ?_
    rw [rdK_snoc,HK.out 0]
    simp only [k1]
  have HK2:Hid (rdK rdN (i+1) l1=.ok (P++[x],r2)):=by
    show _=_
    rw [rdK_snoc,HK.out 0]
    simp only [k1]
  obtain rfl:v=.int .i64 x:=k2
  have ba:Below w2.heap.size w2 (w2.alloc (Obj.cells #[.int .i64 x] 3)):=(Below.refl _ _).alloc (Nat.le_refl _) _
  have hO2:OwnI w.heap.size P (.slice va P.length vc) w2:=own_only HOO.out.1 k4 hgw
  have HOa:Hid (OwnI w.heap.size P (.slice va P.length vc) (w2.alloc (Obj.cells #[.int .i64 x] 3))):=ownsRow_below4 hO2 ba
  have HON:Hid ((w2.alloc (Obj.cells #[.int .i64 x] 3)).ownsRow w.heap.size 3 1 (.slice va P.length vc) P.length (P.map encI)):=HOa.out
  have HB:Hid (Only g w (w2.alloc (Obj.cells #[.int .i64 x] 3))∧RdB g r2 (w2.alloc (Obj.cells #[.int .i64 x] 3))):=⟨(HOO.out.2.1.trans k4).trans (Only.next ba),k3.next ba⟩
  have HNW:∀ (i:Nat) (u:Value),[.int .i64 x][i]?=some u→(w2.alloc (Obj.cells #[.int .i64 x] 3)).cell? ((⟨w2.heap.size,0,none⟩:Addr).add i)=some u:=fun i u hi=>by
    rw [add_plain,Nat.zero_add]
    rcases i with _ | i <;> simp at hi <;> subst hi <;> simp
  have hszn:w.heap.size≤(w2.alloc (Obj.cells #[.int .i64 x] 3)).heap.size:=HB.out.1.size
  clear hC H1 k1 k3 k4 hO2 hgw
  go_wp2_with (at_builtin; refine wpList_append_own_at _ rfl (.tmp 10) (.tmp 13) 39 rfl w.heap.size 3 i0 _ 1 8 Tryz.underlying39 hi0 hz0 hz1 hz2 rfl (by omega) _ _ _ rfl HON.out _ 1 1 [.int .i64 x] rfl rfl HNW (by simp [Value.oneCell']) (by unfold maxLen; omega) (by omega) hszn ?_)
  intro v' w8 hown' hgrow _ hat
  have hlow:∀ k,(Value.slice va P.length vc).ownBlock=some k→w.heap.size≤k:=fun k hk=>(World.ownsRow.lt HON.out k hk).1
  have HG:Hid (g<w.heap.size):=HGW.out
  have HF:Hid (OwnI w.heap.size (P++[x]) v' w8∧RdB g r2 w8∧Only g w w8):=⟨by simpa [OwnI,encI] using hown',HB.out.2.grown hgrow (fun k hk e=>by have:=hlow k hk; have:=HG.out; omega),HB.out.1.grown hgrow hlow⟩
  obtain ⟨va',vc',rfl⟩:=slice_of_ownK hown'
  clear hown' hgrow hat HON HOa HB HNW hlow HOO HK HG
  go_wp2_with fail
  exact ⟨⟨i+1,P++[x],r2,by go_num,by omega,HK2.out,HF.out⟩,by simp [intOf]; omega⟩
theorem RdB.set {g j o:Nat} {l:List UInt8} {W:World} (h:RdB g l W) (v:Value) (hn:g≠j):RdB g l (W.setCell ⟨j,o,none⟩ v):=(set_block W j o g v hn).trans h
theorem Only.set {g j o:Nat} {a b:World} (h:Only g a b) (v:Value) (hn:a.heap.size≤j):Only g a (b.setCell ⟨j,o,none⟩ v):=But.setCell h _ _ (.inl hn)
theorem but_blk {D:Nat→Prop} {a b:World} {k:Nat} {o:Obj} (h:But D a b) (hk:a.heap[k]?=some o) (hd:¬ D k):b.heap[k]?=some o:=(h.block k (Array.getElem?_eq_some_iff.1 hk).1 hd).trans hk
theorem blk_lt {W:World} {k:Nat} {o:Obj} (h:W.heap[k]?=some o):k<W.heap.size:=(Array.getElem?_eq_some_iff.1 h).1
theorem set_blk {W:World} {g j o:Nat} {ob:Obj} {v:Value} (h:W.heap[g]?=some ob) (hn:g≠j):(W.setCell ⟨j,o,none⟩ v).heap[g]?=some ob:=(set_block W j o g v hn).trans h
set_option maxRecDepth 100000 in
set_option maxHeartbeats 1000000 in
theorem goes_any (g:Nat) (l:List UInt8) (w:World) (h:RdB g l w) :
    Calls Tryz.prog 49 #[.pointer (some ⟨g,0,none⟩)] w fun e w'=>Tells g valG (rdG l) w e w':=by
  have H1:Hid (∀ (l:List UInt8) W,RdB g l W→Calls Tryz.prog 45 #[.pointer (some ⟨g,0,none⟩)] W fun e w'=>Tells g valN (rdN l) W e w'):=fun l W h=>number_any g l W h
  have hg:=h.lt
  have B0:Below w.heap.size w ((w.alloc (Obj.cells #[.int .i64 0,.int .i64 0] 65)).alloc (Obj.cells #[.int .i64 0,.int .i64 0] 65)):=((Below.refl _ _).alloc (Nat.le_refl _) _).alloc (by simp) _
  have b0:((w.alloc (Obj.cells #[.int .i64 0,.int .i64 0] 65)).alloc (Obj.cells #[.int .i64 0,.int .i64 0] 65)).heap[w.heap.size]?=some (Obj.cells #[.int .i64 0,.int .i64 0] 65):=(Lib.alloc_old _ _ _ (by simp)).trans (heap_alloc_new _ _)
  have b1:((w.alloc (Obj.cells #[.int .i64 0,.int .i64 0] 65)).alloc (Obj.cells #[.int .i64 0,.int .i64 0] 65)).heap[w.heap.size+1]?=some (Obj.cells #[.int .i64 0,.int .i64 0] 65):=heap_alloc2_new _ _ _
  have r0:=h.next B0
  have HN:=H1.out l _ r0
  clear h r0
  go_enter Tryz.func49,Tryz.ntmps49
  go_wp2_with fail
  generalize (w.alloc (Obj.cells #[.int .i64 0,.int .i64 0] 65)).alloc (Obj.cells #[.int .i64 0,.int .i64 0] 65)=w0 at *
  refine HN.mono ?_
  rintro e w1 (⟨x,r1,v,h1,rfl,rfl,h4,h5⟩ | ⟨c,h1,rfl,h5⟩)
  case inr=>exact ⟨rfl,.inr ⟨c,by unfold rdG; rw [h1],rfl,(Only.next B0).trans h5⟩⟩
  have p0:=but_blk h5 b0 (by show ¬ _=g; omega)
  have p1:=but_blk h5 b1 (by show ¬ _=g; omega)
  have c1:w1.cell? ⟨w.heap.size+1,0,none⟩=some (.int .i64 0):=by rw [Lib.cell_of_heap p1]; rfl
  have f1:w1.frozen? ⟨w.heap.size+1,0,none⟩=false:=Lib.frozen_of_heap p1 _
  have q1:=blk_set (o:=0) p1 (.int .i64 x)
  have q0:=set_blk (o:=0) (v:=.int .i64 x) p0 (show w.heap.size≠w.heap.size+1 by omega)
  have h6:RdB g r1 (w1.setCell ⟨w.heap.size+1,0,none⟩ (.int .i64 x)):=h4.set _ (by omega)
  have h7:Only g w (w1.setCell ⟨w.heap.size+1,0,none⟩ (.int .i64 x)):=((Only.next B0).trans h5).set _ (by omega)
  have HN2:=H1.out r1 _ h6
  have HR1:Hid (rdN l=.ok (x,r1)):=h1
  clear HN B0 b0 b1 p0 p1 h4 h5 h6 h1
  go_wp2_with fail
  generalize w1.setCell ⟨w.heap.size+1,0,none⟩ (.int .i64 x)=w2 at *
  refine HN2.mono ?_
  rintro e w3 (⟨y,r2,v,h1,rfl,rfl,h4,h5⟩ | ⟨c,h1,rfl,h5⟩)
  case inr=>exact ⟨rfl,.inr ⟨c,by unfold rdG; rw [HR1.out]; simp only [h1],rfl,h7.trans h5⟩⟩
  have p0:=but_blk h5 q0 (by show ¬ _=g; omega)
  have p1:=but_blk h5 q1 (by show ¬ _=g; omega)
  simp at p1
  have c1:w3.cell? ⟨w.heap.size+1,1,none⟩=some (.int .i64 0):=by rw [Lib.cell_of_heap p1]; rfl
  have c2:w3.cell? ⟨w.heap.size+1,0,none⟩=some (.int .i64 x):=by rw [Lib.cell_of_heap p1]; rfl
  have c3:w3.cell? ⟨w.heap.size,0,none⟩=some (.int .i64 0):=by rw [Lib.cell_of_heap p0]; rfl
  have c4:w3.cell? ⟨w.heap.size,1,none⟩=some (.int .i64 0):=by rw [Lib.cell_of_heap p0]; rfl
  have f1:w3.frozen? ⟨w.heap.size+1,1,none⟩=false:=Lib.frozen_of_heap p1 _
  have f2:w3.frozen? ⟨w.heap.size,0,none⟩=false:=Lib.frozen_of_heap p0 _
  have f3:w3.frozen? ⟨w.heap.size,1,none⟩=false:=Lib.frozen_of_heap p0 _
  clear HN2 H1
  go_wp2_with fail
  have z:(((w3.setCell ⟨w.heap.size+1,1,none⟩ (.int .i64 y)).setCell ⟨w.heap.size,0,none⟩ (.int .i64 x)).setCell ⟨w.heap.size,1,none⟩ (.int .i64 y)).heap[w.heap.size]?=some (Obj.cells #[.int .i64 x,.int .i64 y] 65):=by
    have:=blk_set (o:=1) (blk_set (o:=0) (set_blk (o:=1) (v:=.int .i64 y) p0 (show w.heap.size≠w.heap.size+1 by omega)) (.int .i64 x)) (.int .i64 y)
    simpa using this
  refine bodyPost_ret (results_cell1 rfl _ _ _ rfl (run_loadVar_row _ _ _ _ _ _ _ z Tryz.underlying65 rfl (by kernel_rfl))) rfl ?_
  have o1:=rdN_lt HR1.out
  have o2:=rdN_lt h1
  refine .inl ⟨(x,y),r2,_,by unfold rdG; rw [HR1.out]; simp only [h1],rfl,⟨rfl,by unfold okP i64B; simp only; omega⟩,((h4.set _ (by omega)).set _ (by omega)).set _ (by omega),(((h7.trans h5).set _ (by omega)).set _ (by omega)).set _ (by omega)⟩
set_option maxRecDepth 100000 in
set_option maxHeartbeats 2000000 in
theorem act_any (g:Nat) (l:List UInt8) (w:World) (h:RdB g l w) :
    Calls Tryz.prog 47 #[.pointer (some ⟨g,0,none⟩)] w fun e w'=>Tells g valA (rdA l) w e w':=by
  have H1:Hid (∀ (l:List UInt8) W,RdB g l W→Calls Tryz.prog 45 #[.pointer (some ⟨g,0,none⟩)] W fun e w'=>Tells g valN (rdN l) W e w'):=fun l W h=>number_any g l W h
  have H2:Hid (∀ (l:List UInt8) W,RdB g l W→Calls Tryz.prog 68 #[.pointer (some ⟨g,0,none⟩),.func (.func 45) #[.pointer (some ⟨g,0,none⟩)] #[]] W fun e w'=>Tells g valNs (rdL rdN l) W e w'):=fun l W h=>listN_any g l W h
  have H3:Hid (∀ (l:List UInt8) W,RdB g l W→Calls Tryz.prog 69 #[.pointer (some ⟨g,0,none⟩)] W fun e w'=>Tells g valB (rdB l) W e w'):=fun l W h=>accept_any g l W h
  have hg:=h.lt
  have B0:Below w.heap.size w ((w.alloc (Obj.cells #[.int .i64 0,.int .i64 0,.slice none 0 0,.bool false] 41)).alloc (Obj.cells #[.int .i64 0,.int .i64 0,.slice none 0 0,.bool false] 41)):=((Below.refl _ _).alloc (Nat.le_refl _) _).alloc (by simp) _
  have b0:((w.alloc (Obj.cells #[.int .i64 0,.int .i64 0,.slice none 0 0,.bool false] 41)).alloc (Obj.cells #[.int .i64 0,.int .i64 0,.slice none 0 0,.bool false] 41)).heap[w.heap.size]?=some (Obj.cells #[.int .i64 0,.int .i64 0,.slice none 0 0,.bool false] 41):=(Lib.alloc_old _ _ _ (by simp)).trans (heap_alloc_new _ _)
  have b1:((w.alloc (Obj.cells #[.int .i64 0,.int .i64 0,.slice none 0 0,.bool false] 41)).alloc (Obj.cells #[.int .i64 0,.int .i64 0,.slice none 0 0,.bool false] 41)).heap[w.heap.size+1]?=some (Obj.cells #[.int .i64 0,.int .i64 0,.slice none 0 0,.bool false] 41):=heap_alloc2_new _ _ _
  have r0:=h.next B0
  have HN:=H1.out l _ r0
  clear h r0
  go_enter Tryz.func47,Tryz.ntmps47
  go_wp2_with fail
  generalize (w.alloc (Obj.cells #[.int .i64 0,.int .i64 0,.slice none 0 0,.bool false] 41)).alloc (Obj.cells #[.int .i64 0,.int .i64 0,.slice none 0 0,.bool false] 41)=w0 at *
  refine HN.mono ?_
  rintro e w1 (⟨x,r1,v,h1,rfl,rfl,h4,h5⟩ | ⟨c,h1,rfl,h5⟩)
  case inr=>exact ⟨rfl,.inr ⟨c,by unfold rdA; rw [h1],rfl,(Only.next B0).trans h5⟩⟩
  have p0:=but_blk h5 b0 (by show ¬ _=g; omega)
  have p1:=but_blk h5 b1 (by show ¬ _=g; omega)
  have c1:w1.cell? ⟨w.heap.size+1,0,none⟩=some (.int .i64 0):=by rw [Lib.cell_of_heap p1]; rfl
  have f1:w1.frozen? ⟨w.heap.size+1,0,none⟩=false:=Lib.frozen_of_heap p1 _
  have q1:=blk_set (o:=0) p1 (.int .i64 x)
  have q0:=set_blk (o:=0) (v:=.int .i64 x) p0 (show w.heap.size≠w.heap.size+1 by omega)
  have h6:RdB g r1 (w1.setCell ⟨w.heap.size+1,0,none⟩ (.int .i64 x)):=h4.set _ (by omega)
  have h7:Only g w (w1.setCell ⟨w.heap.size+1,0,none⟩ (.int .i64 x)):=((Only.next B0).trans h5).set _ (by omega)
  have HN2:=H1.out r1 _ h6
  have HR1:Hid (rdN l=.ok (x,r1)):=h1
  clear HN B0 b0 b1 p0 p1 h4 h5 h6 h1
  go_wp2_with fail
  clear c1 f1
  generalize w1.setCell ⟨w.heap.size+1,0,none⟩ (.int .i64 x)=w2 at *
  refine HN2.mono ?_
  rintro e w3 (⟨y,r2,v,h1,rfl,rfl,h4,h5⟩ | ⟨c,h1,rfl,h5⟩)
  case inr=>exact ⟨rfl,.inr ⟨c,by unfold rdA; rw [HR1.out]; simp only [h1],rfl,h7.trans h5⟩⟩
  have o2:=rdN_lt h1
  have p0:=but_blk h5 q0 (by show ¬ _=g; omega)
  have p1:=but_blk h5 q1 (by show ¬ _=g; omega)
  simp at p1
  have hy1:IntKind.i64.wrap (y - 1)=y - 1:=by rw [IntKind.wrap_i64]; omega
  have hy2:wrap64 (y - 1)=y - 1:=by unfold wrap64; omega
  have c1:w3.cell? ⟨w.heap.size+1,1,none⟩=some (.int .i64 0):=by rw [Lib.cell_of_heap p1]; rfl
  have f1:w3.frozen? ⟨w.heap.size+1,1,none⟩=false:=Lib.frozen_of_heap p1 _
  have q1:=blk_set (o:=1) p1 (.int .i64 (y - 1))
  have q0:=set_blk (o:=1) (v:=.int .i64 (y - 1)) p0 (show w.heap.size≠w.heap.size+1 by omega)
  have h6:RdB g r2 (w3.setCell ⟨w.heap.size+1,1,none⟩ (.int .i64 (y - 1))):=h4.set _ (by omega)
  have h8:Only g w (w3.setCell ⟨w.heap.size+1,1,none⟩ (.int .i64 (y - 1))):=(h7.trans h5).set _ (by omega)
  have HN3:=H2.out r2 _ h6
  have HR2:Hid (rdN r1=.ok (y,r2)):=h1
  clear HN2 p0 p1 h4 h5 h6 h1 h7
  go_wp2_with fail
  clear c1 f1 hy1 hy2
  generalize w3.setCell ⟨w.heap.size+1,1,none⟩ (.int .i64 (y - 1))=w4 at *
  have hsz4:w.heap.size+2≤w4.heap.size:=blk_lt q1
  refine HN3.mono ?_
  rintro e w5 (⟨red,r3,v,h1,rfl,⟨hO,hok,hle⟩,h4,h5⟩ | ⟨c,h1,rfl,h5⟩)
  case inr=>exact ⟨rfl,.inr ⟨c,by unfold rdA; rw [HR1.out]; simp only [HR2.out,h1],rfl,h8.trans h5⟩⟩
  obtain ⟨va,vc,rfl⟩:=slice_of_ownK hO
  have p0:=but_blk h5 q0 (by show ¬ _=g; omega)
  have p1:=but_blk h5 q1 (by show ¬ _=g; omega)
  simp at p1
  have c1:w5.cell? ⟨w.heap.size+1,2,none⟩=some (.slice none 0 0):=by rw [Lib.cell_of_heap p1]; rfl
  have f1:w5.frozen? ⟨w.heap.size+1,2,none⟩=false:=Lib.frozen_of_heap p1 _
  have q1:=blk_set (o:=2) p1 (.slice va red.length vc)
  have q0:=set_blk (o:=2) (v:=.slice va red.length vc) p0 (show w.heap.size≠w.heap.size+1 by omega)
  have h6:RdB g r3 (w5.setCell ⟨w.heap.size+1,2,none⟩ (.slice va red.length vc)):=h4.set _ (by omega)
  have h9:Only g w (w5.setCell ⟨w.heap.size+1,2,none⟩ (.slice va red.length vc)):=(h8.trans h5).set _ (by omega)
  have hO1:OwnI w4.heap.size red (.slice va red.length vc) (w5.setCell ⟨w.heap.size+1,2,none⟩ (.slice va red.length vc)):=ownsRow_keep (D:=fun k=>k=w.heap.size+1) hO ((But.refl _ w5).setCell _ _ (.inr rfl)) (fun k hk e=>by have:=(World.ownsRow.lt hO k hk).1; omega)
  have HOW:Hid (OwnI w4.heap.size red (.slice va red.length vc) (w5.setCell ⟨w.heap.size+1,2,none⟩ (.slice va red.length vc))∧(∀ x∈red,i64B x)∧red.length≤65535∧w.heap.size+2≤w4.heap.size):=⟨hO1,hok,hle,hsz4⟩
  have HN4:=H3.out r3 _ h6
  have HR3:Hid (rdL rdN r2=.ok (red,r3)):=h1
  clear HN3 p0 p1 h4 h5 h6 h1 h8 hO hok hO1 hsz4
  go_wp2_with fail
  clear c1 f1
  generalize w5.setCell ⟨w.heap.size+1,2,none⟩ (.slice va red.length vc)=w6 at *
  refine HN4.mono ?_
  rintro e w7 (⟨b,r4,v,h1,rfl,rfl,h4,h5⟩ | ⟨c,h1,rfl,h5⟩)
  case inr=>exact ⟨rfl,.inr ⟨c,by unfold rdA; rw [HR1.out]; simp only [HR2.out,HR3.out,h1],rfl,h9.trans h5⟩⟩
  have p0:=but_blk h5 q0 (by show ¬ _=g; omega)
  have p1:=but_blk h5 q1 (by show ¬ _=g; omega)
  simp at p1
  have c0:w7.cell? ⟨w.heap.size+1,0,none⟩=some (.int .i64 x):=by rw [Lib.cell_of_heap p1]; rfl
  have c1:w7.cell? ⟨w.heap.size+1,1,none⟩=some (.int .i64 (y - 1)):=by rw [Lib.cell_of_heap p1]; rfl
  have c2:w7.cell? ⟨w.heap.size+1,2,none⟩=some (.slice va red.length vc):=by rw [Lib.cell_of_heap p1]; rfl
  have c3:w7.cell? ⟨w.heap.size+1,3,none⟩=some (.bool false):=by rw [Lib.cell_of_heap p1]; rfl
  have f1:w7.frozen? ⟨w.heap.size+1,3,none⟩=false:=Lib.frozen_of_heap p1 _
  have d0:w7.cell? ⟨w.heap.size,0,none⟩=some (.int .i64 0):=by rw [Lib.cell_of_heap p0]; rfl
  have d1:w7.cell? ⟨w.heap.size,1,none⟩=some (.int .i64 0):=by rw [Lib.cell_of_heap p0]; rfl
  have d2:w7.cell? ⟨w.heap.size,2,none⟩=some (.slice none 0 0):=by rw [Lib.cell_of_heap p0]; rfl
  have d3:w7.cell? ⟨w.heap.size,3,none⟩=some (.bool false):=by rw [Lib.cell_of_heap p0]; rfl
  have e0:w7.frozen? ⟨w.heap.size,0,none⟩=false:=Lib.frozen_of_heap p0 _
  have e1:w7.frozen? ⟨w.heap.size,1,none⟩=false:=Lib.frozen_of_heap p0 _
  have e2:w7.frozen? ⟨w.heap.size,2,none⟩=false:=Lib.frozen_of_heap p0 _
  have e3:w7.frozen? ⟨w.heap.size,3,none⟩=false:=Lib.frozen_of_heap p0 _
  clear HN4 H1 H2 H3
  go_wp2_with fail
  have z:(((((w7.setCell ⟨w.heap.size+1,3,none⟩ (.bool b)).setCell ⟨w.heap.size,0,none⟩ (.int .i64 x)).setCell ⟨w.heap.size,1,none⟩ (.int .i64 (y - 1))).setCell ⟨w.heap.size,2,none⟩ (.slice va red.length vc)).setCell ⟨w.heap.size,3,none⟩ (.bool b)).heap[w.heap.size]?=some (Obj.cells #[.int .i64 x,.int .i64 (y - 1),.slice va red.length vc,.bool b] 41):=by
    have:=blk_set (o:=3) (blk_set (o:=2) (blk_set (o:=1) (blk_set (o:=0) (set_blk (o:=3) (v:=.bool b) p0 (show w.heap.size≠w.heap.size+1 by omega)) (.int .i64 x)) (.int .i64 (y - 1))) (.slice va red.length vc)) (.bool b)
    simpa using this
  refine bodyPost_ret (results_cell1 rfl _ _ _ rfl (run_loadVar_row _ _ _ _ _ _ _ z Tryz.underlying41 rfl (by kernel_rfl))) rfl ?_
  obtain ⟨hO,hok,hle2,hsz4⟩:=HOW.out
  have o1:=rdN_lt HR1.out
  have hO7:OwnI w4.heap.size red (.slice va red.length vc) w7:=own_only hO h5 (by omega)
  have hlo:∀ k,(Value.slice va red.length vc).ownBlock=some k→w.heap.size+2≤k:=fun k hk=>by have:=(World.ownsRow.lt hO7 k hk).1; omega
  have BE:But (fun k=>k=w.heap.size∨k=w.heap.size+1) w7 (((((w7.setCell ⟨w.heap.size+1,3,none⟩ (.bool b)).setCell ⟨w.heap.size,0,none⟩ (.int .i64 x)).setCell ⟨w.heap.size,1,none⟩ (.int .i64 (y - 1))).setCell ⟨w.heap.size,2,none⟩ (.slice va red.length vc)).setCell ⟨w.heap.size,3,none⟩ (.bool b)):=(((((But.refl _ w7).setCell _ _ (.inr (.inr rfl))).setCell _ _ (.inr (.inl rfl))).setCell _ _ (.inr (.inl rfl))).setCell _ _ (.inr (.inl rfl))).setCell _ _ (.inr (.inl rfl))
  have hO9:OwnI w4.heap.size red (.slice va red.length vc) (((((w7.setCell ⟨w.heap.size+1,3,none⟩ (.bool b)).setCell ⟨w.heap.size,0,none⟩ (.int .i64 x)).setCell ⟨w.heap.size,1,none⟩ (.int .i64 (y - 1))).setCell ⟨w.heap.size,2,none⟩ (.slice va red.length vc)).setCell ⟨w.heap.size,3,none⟩ (.bool b)):=ownsRow_keep hO7 BE (fun k hk e=>by have:=hlo k hk; omega)
  refine .inl ⟨⟨x,y - 1,red,b⟩,r4,_,by unfold rdA; rw [HR1.out]; simp only [HR2.out,HR3.out,h1],rfl,⟨va,red.length,vc,rfl,KeepU.of hO9 (by omega) (Nat.le_refl _) hok,by unfold okAc i64B; simp only; omega⟩,((((h4.set _ (by omega)).set _ (by omega)).set _ (by omega)).set _ (by omega)).set _ (by omega),(((((h9.trans h5).set _ (by omega)).set _ (by omega)).set _ (by omega)).set _ (by omega)).set _ (by omega)⟩
end Go.Proofs.YtiamjafecbpfpaaGreatDoor
