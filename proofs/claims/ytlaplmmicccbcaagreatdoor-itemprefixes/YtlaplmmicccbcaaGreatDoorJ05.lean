/- A region that draws its order: two that may come up; an append of whatever slice. -/
import Derived.Test.YtlaplmmicccbcaaGreatDoorJ01
import Derived.Test.YtlaplmmicccbcaaGreatDoorJ02
import Derived.Test.YtlaplmmicccbcaaGreatDoorJ04
import Derived.Laws.AppendOwn
import Derived.Laws.OwnMore
import Derived.WalkKit
import Derived.Laws.StructEq
namespace Go.Proofs.YtlaplmmicccbcaaGreatDoor
open Go.RowKit
section
variable {P : Program} {ops : Array Oper} {Q : Exit → Act → World → Prop} {md : Region.Mode} {S : World → Prop} {n : Nat}
/-- Two may come up: either is carried out. -/
theorem wpAnyL_two {i j : Nat} {oi oj : Oper} {fuel : Nat} {listed l1 l2 : Array Bool} {a : Act} {w : World} (hr : Region.ready md ops listed = [i, j]) (hi : ops[i]? = some oi) (hj : ops[j]? = some oj)
    (hl1 : listed.setIfInBounds i true = l1) (hl2 : listed.setIfInBounds j true = l2)
    (h1 : ∀ K' : Act → World → Prop, Shut (∀ a w, (i < n → S w) → wpAnyL P md ops Q S n fuel l1 a w → K' a w) → if Region.wanted oi (yielded ops a.tmps) = true then Oper.wp P oi a w K' Q else K' (a.put oi.dst undef) w)
    (h2 : ∀ K' : Act → World → Prop, Shut (∀ a w, (j < n → S w) → wpAnyL P md ops Q S n fuel l2 a w → K' a w) → if Region.wanted oj (yielded ops a.tmps) = true then Oper.wp P oj a w K' Q else K' (a.put oj.dst undef) w) :
    wpAnyL P md ops Q S n (fuel + 1) listed a w := by
  subst hl1 hl2
  refine ⟨fun h0 => (by rw [hr] at h0; cases h0), fun k hk => ?_⟩
  rw [hr] at hk
  simp at hk
  rcases hk with rfl | rfl
  · exact wpOp_step hi (fun K' hK => h1 K' (fun a w hS hW => hK a w ⟨hS, hW⟩))
  · exact wpOp_step hj (fun K' hK => h2 K' (fun a w hS hW => hK a w ⟨hS, hW⟩))
/-- As wpAnyL_one and wpAnyL_take, with what has come up behind it written out. -/
theorem wpAnyL_one' {i : Nat} {o : Oper} {fuel : Nat} {listed l1 : Array Bool} {a : Act} {w : World} (hr : Region.ready md ops listed = [i]) (ho : ops[i]? = some o) (hl1 : listed.setIfInBounds i true = l1)
    (h : ∀ K' : Act → World → Prop, Shut (∀ a w, (i < n → S w) → wpAnyL P md ops Q S n fuel l1 a w → K' a w) → if Region.wanted o (yielded ops a.tmps) = true then Oper.wp P o a w K' Q else K' (a.put o.dst undef) w) :
    wpAnyL P md ops Q S n (fuel + 1) listed a w := by
  subst hl1
  exact wpAnyL_one hr ho h
theorem wpAnyL_take' {i : Nat} {oi : Oper} {v : Value} {fuel : Nat} {listed l1 : Array Bool} {a : Act} {w : World} (hi : ops[i]? = some oi)
    (hs : Region.noSelect ops = true) (hf : Region.free md ops listed i = true) (hr : (Region.ready md ops listed).contains i = true) (hl : lateB md ops n i = true) (hl1 : listed.setIfInBounds i true = l1)
    (hQ : ∀ c a w, Q (.panic c) (a.put oi.dst v) w → Q (.panic c) a w) (hy : YieldsIf P ops S oi v a) (hS : S w)
    (h : wpAnyL P md ops Q S n fuel l1 (a.put oi.dst v) w) : wpAnyL P md ops Q S n (fuel + 1) listed a w := by
  subst hl1
  exact wpAnyL_take hi hs hf hr hl hQ hy hS h

end

/-- wpAnyL_take', shortly written. -/
theorem tk {P : Program} {md : Region.Mode} {ops : Array Oper} {Q : Exit → Act → World → Prop} {S : World → Prop} {n i : Nat} {oi : Oper} {v : Value} {fuel : Nat} {listed l1 : Array Bool} {a : Act} {w : World} (hS : S w) (hy : ∀ w, S w → (execOp a.eval oi).run P w = .ok (.value v) w) (h : wpAnyL P md ops Q S n fuel l1 (a.put oi.dst v) w)
 (hi : ops[i]? = some oi := by rfl) (hs : Region.noSelect ops = true := by kernel_rfl) (hf : Region.free md ops listed i = true := by kernel_rfl) (hr : (Region.ready md ops listed).contains i = true := by kernel_rfl) (hl : lateB md ops n i = true := by kernel_rfl) (hl1 : listed.setIfInBounds i true = l1 := by rfl)
 (hQ : ∀ c a w, Q (.panic c) (a.put oi.dst v) w → Q (.panic c) a w := by exact fun _ _ _ h => h) (hw : Region.wanted oi (yielded ops a.tmps) = true := by rfl) : wpAnyL P md ops Q S n (fuel + 1) listed a w :=
 wpAnyL_take' hi hs hf hr hl hl1 hQ (Or.inl ⟨hw, hy⟩) hS h
/-- An append onto a row of one's own, of whatever slice: nil too. -/
theorem wp_append_any {P : Program} {w : World} {o : Oper} {a : Act} {K : Act → World → Prop} {Q : Exit → Act → World → Prop} (s x : Operand) (t : TypeId)
    (ho : o.op = .call { callee := .builtin .append, args := #[s, x], argTypes := #[t, t] })
    (base : Nat) (e : TypeId) (i : TypeInfo) (z : Value) (size bytes : Nat) (ht : P.underlying t = some (.slice e)) (hi : P.info? e = some i) (hz : i.zero = some z)
    (hsize : i.size = size) (hby : i.bytes = bytes) (hzs : z.cells.size = size) (hsz : 0 < size)
    (v : Value) (n : Nat) (xs : List Value) (hs : a.eval s = v) (hown : w.ownsRow base e size v n xs)
    (ao : Option Addr) (m c : Nat) (news : List Value) (hx : a.eval x = .slice ao m c) (hn : ao = none → m = 0 ∧ c = 0) (hl : news.length = m * size) (hnews : ∀ ad, ao = some ad → ∀ j u, news[j]? = some u → w.cell? (ad.add j) = some u) (h1 : ∀ u ∈ news, u.oneCell' = true)
    (h63 : n + m ≤ maxLen) (hbytes : (n + m) * bytes ≤ 140737488355328) (hbase : base ≤ w.heap.size)
    (h : ∀ v' w', w'.ownsRow base e size v' (n + m) (xs ++ news) → w.grownBy w' v.ownBlock → K (a.put o.dst v') w') : o.wp P a w K Q := by
  cases ao with
  | some ad => exact wp_append_own w s x t ho base e i z size bytes ht hi hz hsize hby hzs hsz v n xs hs hown ad m c news hx hl (hnews ad rfl) h1 h63 hbytes hbase (fun v' w' h2 h3 _ => h v' w' h2 h3)
  | none =>
    obtain ⟨rfl, rfl⟩ := hn rfl
    obtain rfl : news = [] := List.eq_nil_of_length_eq_zero (by simpa using hl)
    have hrun := run_append_owned_none (P := P) (w := w) base t o.type e i size ht hi v n xs hown
    unfold Oper.wp
    simp [execOp, ho, resolve, invoke, builtin, hs, hx, hrun, Result.andThen]
    exact h v w (by simpa using hown) ⟨rfl, rfl, rfl, Nat.le_refl _, fun _ _ _ => rfl⟩

theorem wpList_append_any {P : Program} {w : World} {ops : Array Oper} {rest : List Oper} {o : Oper} {a : Act} {Q : Exit → Act → World → Prop} (hgd : o.guard = none) (s x : Operand) (t : TypeId)
    (ho : o.op = .call { callee := .builtin .append, args := #[s, x], argTypes := #[t, t] })
    (base : Nat) (e : TypeId) (i : TypeInfo) (z : Value) (size bytes : Nat) (ht : P.underlying t = some (.slice e)) (hi : P.info? e = some i) (hz : i.zero = some z)
    (hsize : i.size = size) (hby : i.bytes = bytes) (hzs : z.cells.size = size) (hsz : 0 < size)
    (v : Value) (n : Nat) (xs : List Value) (hs : a.eval s = v) (hown : w.ownsRow base e size v n xs)
    (ao : Option Addr) (m c : Nat) (news : List Value) (hx : a.eval x = .slice ao m c) (hn : ao = none → m = 0 ∧ c = 0) (hl : news.length = m * size) (hnews : ∀ ad, ao = some ad → ∀ j u, news[j]? = some u → w.cell? (ad.add j) = some u) (h1 : ∀ u ∈ news, u.oneCell' = true)
    (h63 : n + m ≤ maxLen) (hbytes : (n + m) * bytes ≤ 140737488355328) (hbase : base ≤ w.heap.size)
    (h : ∀ v' w', w'.ownsRow base e size v' (n + m) (xs ++ news) → w.grownBy w' v.ownBlock → wpList P ops Q rest (a.put o.dst v') w') : wpList P ops Q (o :: rest) a w :=
  wpList_plain hgd fun _ hK => wp_append_any s x t ho base e i z size bytes ht hi hz hsize hby hzs hsz v n xs hs hown ao m c news hx hn hl hnews h1 h63 hbytes hbase fun v' w' h2 h3 => hK _ _ (h v' w' h2 h3)
end Go.Proofs.YtlaplmmicccbcaaGreatDoor
/- Next: the program's and the document's. -/
namespace Go.Proofs.YtlaplmmicccbcaaGreatDoor
open Go.RowKit

set_option maxRecDepth 100000 in
set_option maxHeartbeats 4000000 in
theorem next_item (f : Fl) (a : FlA) (x : Ir) (w : World) (hf : FlAt f a w) (hn : f.n ≤ 600) :
    Calls Tryz.prog 10 #[a.val f, valR x] w fun e w' => e = .returned (.tuple #[.int .i64 ((nextI f x).getD 0), .bool (nextI f x).isSome]) ∧ Below w.heap.size w w' := by
  have hR := fun W (hb : Below w.heap.size w W) (h1 : -1 ≤ x.1) (h2 : x.1 < f.prods.length) => right_any f a x.1 W (hf.next hb) hn h1 h2
  have hF := fun W (hb : Below w.heap.size w W) => fit_item f a x W (hf.next hb) hn
  obtain ⟨ta, tc, na, nc, pa, pc⟩ := a
  obtain ⟨x0, x1, x2⟩ := x
  have X0 := FBox.new f ⟨ta, tc, na, nc, pa, pc⟩ 25 w
  have B0 : Below w.heap.size w (w.alloc (fobj f ⟨ta, tc, na, nc, pa, pc⟩ 25)) := (Below.refl _ _).alloc (Nat.le_refl _) _
  have Y0 := RBox.new (x0, x1, x2) 30 (w.alloc (fobj f ⟨ta, tc, na, nc, pa, pc⟩ 25))
  have X1 := X0.next ((Below.refl _ _).alloc (Nat.le_refl _) (Obj.cells #[.int .i64 x0, .int .i64 x1, .int .i64 x2] 30))
  have B1 := B0.alloc B0.size (Obj.cells #[.int .i64 x0, .int .i64 x1, .int .i64 x2] 30)
  have hz : (w.alloc (fobj f ⟨ta, tc, na, nc, pa, pc⟩ 25)).heap.size = w.heap.size + 1 := by simp
  rw [hz] at Y0
  clear X0 B0 hz
  unfold fobj at X1 B1 Y0
  clear hf
  unfold FlA.val at hR hF ⊢
  unfold valR at hF ⊢
  simp only at *
  obtain ⟨b1, y0, y1, y2⟩ := id Y0
  obtain ⟨b0, z0, z1, z2⟩ := id X1
  simp only at y0 y1 y2 z0 z1 z2
  have HFI : Hid (∀ W, Below w.heap.size w W → Calls Tryz.prog 12 #[.agg #[.slice ta f.terms.length tc, .slice na f.nons.length nc, .slice pa f.prods.length pc], .agg #[.int .i64 x0, .int .i64 x1, .int .i64 x2]] W fun e w' => e = .returned (.bool (fitI f (x0, x1, x2))) ∧ Below W.heap.size W w') := hF
  have HRI : Hid (∀ W, Below w.heap.size w W → -1 ≤ x0 → x0 < f.prods.length → Calls Tryz.prog 30 #[.agg #[.slice ta f.terms.length tc, .slice na f.nons.length nc, .slice pa f.prods.length pc], .int .i64 x0] W fun e w' => ∃ v, e = .returned v ∧ SlT (rightI f x0) v w' ∧ Below W.heap.size W w') := hR
  clear hF hR
  go_enter Tryz.func10, Tryz.ntmps10
  go_wp2_with fail
  refine (HFI.out _ B1).mono ?_
  rintro e w0 ⟨rfl, hb0⟩
  have X2 := X1.next hb0
  have Y2 := Y0.next hb0
  have B2 := below_then B1 hb0 B1.size
  clear HFI X1 Y0 B1 b0 b1 z0 z1 z2 y0 y1 y2 hb0
  cases hft : fitI f (x0, x1, x2) with
  | false =>
    have HNI : Hid (nextI f (x0, x1, x2) = none) := by show _ = _; unfold nextI; rw [hft]; rfl
    clear hft X2 Y2 HRI
    go_wp2_with fail
    go_ret2
    exact ⟨by rw [HNI.out]; rfl, B2⟩
  | true =>
  have hfi := fitI_iff.1 hft
  simp only at hfi
  obtain ⟨p1, p2, p3, p4, p5, p6⟩ := hfi
  obtain ⟨d, rfl⟩ : ∃ d : Nat, x1 = d := ⟨x1.toNat, by omega⟩
  have HNI : Hid (nextI f (x0, (d : Int), x2) = ((rightI f x0)[d]?).map (·.sym)) := by show _ = _; unfold nextI; rw [hft, if_pos rfl]; simp only; rw [Int.toNat_natCast]
  clear hft
  obtain ⟨_, y0, y1, y2⟩ := id Y2
  obtain ⟨_, z0, z1, z2⟩ := id X2
  simp only at y0 y1 y2 z0 z1 z2
  have HSI : Hid (∀ W, Below w0.heap.size w0 W → (W.cell? ⟨w.heap.size, 0, none⟩ = some (.slice ta f.terms.length tc) ∧ W.cell? ⟨w.heap.size, 1, none⟩ = some (.slice na f.nons.length nc) ∧ W.cell? ⟨w.heap.size, 2, none⟩ = some (.slice pa f.prods.length pc) ∧ W.cell? ⟨w.heap.size + 1, 0, none⟩ = some (.int .i64 x0) ∧ W.cell? ⟨w.heap.size + 1, 1, none⟩ = some (.int .i64 d) ∧ W.cell? ⟨w.heap.size + 1, 2, none⟩ = some (.int .i64 x2) ∧ Below w0.heap.size w0 W)) := fun W hb => by
    obtain ⟨_, l0, l1, l2⟩ := Y2.next hb
    obtain ⟨_, k0, k1, k2⟩ := X2.next hb
    exact ⟨k0, k1, k2, l0, l1, l2, hb⟩
  have HS0 : Hid (w0.drew.cell? ⟨w.heap.size, 0, none⟩ = some (.slice ta f.terms.length tc) ∧ w0.drew.cell? ⟨w.heap.size, 1, none⟩ = some (.slice na f.nons.length nc) ∧ w0.drew.cell? ⟨w.heap.size, 2, none⟩ = some (.slice pa f.prods.length pc) ∧ w0.drew.cell? ⟨w.heap.size + 1, 0, none⟩ = some (.int .i64 x0) ∧ w0.drew.cell? ⟨w.heap.size + 1, 1, none⟩ = some (.int .i64 d) ∧ w0.drew.cell? ⟨w.heap.size + 1, 2, none⟩ = some (.int .i64 x2) ∧ Below w0.heap.size w0 w0.drew) := HSI.out _ (Below.refl _ _).drew
  have HRR : Hid (Calls Tryz.prog 30 #[.agg #[.slice ta f.terms.length tc, .slice na f.nons.length nc, .slice pa f.prods.length pc], .int .i64 x0] w0.drew fun e w' => ∃ va vc, e = .returned (.slice va (rightI f x0).length vc) ∧ Hid (SlT (rightI f x0) (.slice va (rightI f x0).length vc) w') ∧ (rightI f x0).length ≤ vc ∧ vc ≤ 140737488351232 ∧ (va = none → vc = 0) ∧ (w'.cell? ⟨w.heap.size, 0, none⟩ = some (.slice ta f.terms.length tc) ∧ w'.cell? ⟨w.heap.size, 1, none⟩ = some (.slice na f.nons.length nc) ∧ w'.cell? ⟨w.heap.size, 2, none⟩ = some (.slice pa f.prods.length pc) ∧ w'.cell? ⟨w.heap.size + 1, 0, none⟩ = some (.int .i64 x0) ∧ w'.cell? ⟨w.heap.size + 1, 1, none⟩ = some (.int .i64 d) ∧ w'.cell? ⟨w.heap.size + 1, 2, none⟩ = some (.int .i64 x2) ∧ Below w0.heap.size w0 w')) := by
    refine (HRI.out _ (below_then B2 (Below.refl _ _).drew B2.size) p1 p2).mono ?_
    rintro e w' ⟨v, rfl, hv, hb⟩
    obtain ⟨va, vc, rfl, k1, k2, k3, k4⟩ := id hv
    exact ⟨va, vc, rfl, hv, k3, k4, k2, HSI.out _ (below_then (Below.refl _ _).drew hb (Nat.le_refl _))⟩
  have HBB : Hid (∀ W, Below w0.heap.size w0 W → Below w.heap.size w W) := fun W hb => below_then B2 hb B2.size
  obtain ⟨r, hr⟩ : ∃ r, rightI f x0 = r := ⟨_, rfl⟩
  rw [hr] at HRR HNI p4
  have hdr : d ≤ r.length := by omega
  clear hr HSI HRI X2 Y2 B2 y0 y1 y2 z0 z1 z2
  have hd0 : (d : Int) ≤ r.length := by omega
  go_wp2_with fail
  refine wp_region_L (fun W => W.cell? ⟨w.heap.size, 0, none⟩ = some (.slice ta f.terms.length tc) ∧ W.cell? ⟨w.heap.size, 1, none⟩ = some (.slice na f.nons.length nc) ∧ W.cell? ⟨w.heap.size, 2, none⟩ = some (.slice pa f.prods.length pc) ∧ W.cell? ⟨w.heap.size + 1, 0, none⟩ = some (.int .i64 x0) ∧ W.cell? ⟨w.heap.size + 1, 1, none⟩ = some (.int .i64 d) ∧ W.cell? ⟨w.heap.size + 1, 2, none⟩ = some (.int .i64 x2) ∧ Below w0.heap.size w0 W) 8 (by kernel_rfl) 8 rfl ?_
  refine tk (i := 0) (v := ?_) (oi := ⟨some 11, .load 25 (.tmp 2), 25, "item.go:40", #[], none⟩) HS0.out ?_ ?_
  rotate_left
  · intro W hSW
    go_simp
    try with_reducible rfl
  simp only [Act.put, sA, s0, sS]
  refine tk (i := 1) (v := ?_) (oi := ⟨some 12, .fieldAddr 30 (.tmp 3) 0, 0, "item.go:40", #[], none⟩) HS0.out ?_ ?_
  rotate_left
  · intro W hSW
    go_simp
    try with_reducible rfl
  simp only [Act.put, sA, s0, sS]
  refine tk (i := 2) (v := ?_) (oi := ⟨some 13, .load 3 (.tmp 12), 3, "item.go:40", #[⟨1, .data⟩], none⟩) HS0.out ?_ ?_
  rotate_left
  · intro W hSW
    go_simp
    try with_reducible rfl
  simp only [Act.put, sA, s0, sS]
  refine tk (i := 4) (v := ?_) (oi := ⟨some 15, .fieldAddr 30 (.tmp 3) 1, 0, "item.go:40", #[], none⟩) HS0.out ?_ ?_
  rotate_left
  · intro W hSW
    go_simp
    try with_reducible rfl
  simp only [Act.put, sA, s0, sS]
  refine tk (i := 5) (v := ?_) (oi := ⟨some 16, .load 3 (.tmp 15), 3, "item.go:40", #[⟨4, .data⟩], none⟩) HS0.out ?_ ?_
  rotate_left
  · intro W hSW
    go_simp
    try with_reducible rfl
  simp only [Act.put, sA, s0, sS]
  refine wpAnyL_one' (i := 3) (o := ⟨some 14, .call ⟨.value (.func 30), #[.tmp 11, .tmp 13], #[25, 3]⟩, 52, "item.go:40", #[⟨0, .data⟩, ⟨2, .data⟩], none⟩) (by kernel_rfl) rfl rfl (fun K hK => ?_)
  go_simp
  refine (HRR.out).mono ?_
  rintro e w' ⟨va, vc, rfl, hSl, hvc, hvm, hvn, hS⟩
  refine hK.out _ _ (fun _ => hS) ?_
  clear hK
  have HSL : Hid (SlT r (.slice va r.length vc) w') := hSl
  clear hSl HRR
  have hdv : (d : Int) ≤ vc := by omega
  rcases Nat.lt_or_ge d r.length with hlt | hge
  · obtain ⟨ao, cap, e, hI, _⟩ := HSL.out
    cases e
    obtain ⟨b, off, rfl, hb, c0, c1, c2, _⟩ := hI.at (Below.refl _ _) hlt
    have HNX : Hid (nextI f (x0, (d : Int), x2) = some r[d].sym) := by show _ = _; rw [HNI.out, List.getElem?_eq_getElem hlt]; rfl
    generalize r[d] = it at *
    have hdc : d < vc := by omega
    have hdc2 : ¬ vc - d = 0 := by omega
    have HF : Hid (Below w.heap.size w w') := HBB.out _ hS.2.2.2.2.2.2
    have hrl : ¬ r.length - d = 0 := by omega
    have hrl2 : (((r.length - d : Nat) : Int) == 0) = false := by simp; omega
    clear HNI HSL hI HBB
    refine tk (i := 6) (v := ?_) (oi := ⟨some 17, .slice 52 (.tmp 14) (some (.tmp 16)) none none, 52, "item.go:40", #[⟨3, .data⟩, ⟨5, .data⟩], none⟩) hS ?_ ?_
    rotate_left
    · intro W hSW
      go_simp
      try with_reducible rfl
    simp only [Act.put, sA, s0, sS]
    refine tk (i := 7) (v := ?_) (oi := ⟨some 6, .assign (.tmp 17), 52, "item.go:40", #[⟨6, .data⟩, ⟨3, .chain⟩, ⟨0, .phase⟩, ⟨1, .phase⟩, ⟨2, .phase⟩, ⟨3, .phase⟩, ⟨4, .phase⟩, ⟨5, .phase⟩, ⟨6, .phase⟩], none⟩) hS ?_ ?_
    rotate_left
    · intro W hSW
      go_simp
      try with_reducible rfl
    simp only [Act.put, sA, s0, sS]
    refine wpAnyL_done (by kernel_rfl) ?_ _
    clear hS
    go_wp2_with fail
    go_ret2
    exact ⟨by rw [HNX.out]; rfl, HF.out⟩
  · obtain rfl : d = r.length := by omega
    have HNX : Hid (nextI f (x0, (r.length : Int), x2) = none) := by show _ = _; rw [HNI.out]; simp
    have HF : Hid (Below w.heap.size w w') := HBB.out _ hS.2.2.2.2.2.2
    clear HNI HSL HBB
    rcases Nat.lt_or_ge r.length vc with hdc | hdc
    · cases va with
      | none => exfalso; have := hvn rfl; omega
      | some ad =>
      have hdc2 : ¬ vc - r.length = 0 := by omega
      clear hvn
      refine tk (i := 6) (v := ?_) (oi := ⟨some 17, .slice 52 (.tmp 14) (some (.tmp 16)) none none, 52, "item.go:40", #[⟨3, .data⟩, ⟨5, .data⟩], none⟩) hS ?_ ?_
      rotate_left
      · intro W hSW
        go_simp
        try with_reducible rfl
      simp only [Act.put, sA, s0, sS]
      refine tk (i := 7) (v := ?_) (oi := ⟨some 6, .assign (.tmp 17), 52, "item.go:40", #[⟨6, .data⟩, ⟨3, .chain⟩, ⟨0, .phase⟩, ⟨1, .phase⟩, ⟨2, .phase⟩, ⟨3, .phase⟩, ⟨4, .phase⟩, ⟨5, .phase⟩, ⟨6, .phase⟩], none⟩) hS ?_ ?_
      rotate_left
      · intro W hSW
        go_simp
        try with_reducible rfl
      simp only [Act.put, sA, s0, sS]
      refine wpAnyL_done (by kernel_rfl) ?_ _
      clear hS
      go_wp2_with fail
      go_ret2
      exact ⟨by rw [HNX.out]; rfl, HF.out⟩
    · obtain rfl : vc = r.length := by omega
      clear hvn
      refine tk (i := 6) (v := ?_) (oi := ⟨some 17, .slice 52 (.tmp 14) (some (.tmp 16)) none none, 52, "item.go:40", #[⟨3, .data⟩, ⟨5, .data⟩], none⟩) hS ?_ ?_
      rotate_left
      · intro W hSW
        go_simp
        try with_reducible rfl
      simp only [Act.put, sA, s0, sS]
      refine tk (i := 7) (v := ?_) (oi := ⟨some 6, .assign (.tmp 17), 52, "item.go:40", #[⟨6, .data⟩, ⟨3, .chain⟩, ⟨0, .phase⟩, ⟨1, .phase⟩, ⟨2, .phase⟩, ⟨3, .phase⟩, ⟨4, .phase⟩, ⟨5, .phase⟩, ⟨6, .phase⟩], none⟩) hS ?_ ?_
      rotate_left
      · intro W hSW
        go_simp
        try with_reducible rfl
      simp only [Act.put, sA, s0, sS]
      refine wpAnyL_done (by kernel_rfl) ?_ _
      clear hS
      go_wp2_with fail
      go_ret2
      exact ⟨by rw [HNX.out]; rfl, HF.out⟩
end Go.Proofs.YtlaplmmicccbcaaGreatDoor
/- Next of the document. -/
namespace Go.Proofs.YtlaplmmicccbcaaGreatDoor
open Go.RowKit

set_option maxRecDepth 100000 in
set_option maxHeartbeats 4000000 in
theorem rnext_item (f : Fl) (a : FlA) (x : Ir) (w : World) (hf : FlAt f a w) (hn : f.n ≤ 600) :
    Calls Tryz.prog 11 #[a.val f, valR x] w fun e w' => e = .returned (.tuple #[.int .i64 ((nextI f x).getD 0), .bool (nextI f x).isSome]) ∧ Below w.heap.size w w' := by
  have hR := fun W (hb : Below w.heap.size w W) (h1 : -1 ≤ x.1) (h2 : x.1 < f.prods.length) => rright_any f a x.1 W (hf.next hb) hn h1 h2
  have hF := fun W (hb : Below w.heap.size w W) => rfit_item f a x W (hf.next hb) hn
  obtain ⟨ta, tc, na, nc, pa, pc⟩ := a
  obtain ⟨x0, x1, x2⟩ := x
  have X0 := FBox.new f ⟨ta, tc, na, nc, pa, pc⟩ 25 w
  have B0 : Below w.heap.size w (w.alloc (fobj f ⟨ta, tc, na, nc, pa, pc⟩ 25)) := (Below.refl _ _).alloc (Nat.le_refl _) _
  have Y0 := RBox.new (x0, x1, x2) 30 (w.alloc (fobj f ⟨ta, tc, na, nc, pa, pc⟩ 25))
  have X1 := X0.next ((Below.refl _ _).alloc (Nat.le_refl _) (Obj.cells #[.int .i64 x0, .int .i64 x1, .int .i64 x2] 30))
  have B1 := B0.alloc B0.size (Obj.cells #[.int .i64 x0, .int .i64 x1, .int .i64 x2] 30)
  have hz : (w.alloc (fobj f ⟨ta, tc, na, nc, pa, pc⟩ 25)).heap.size = w.heap.size + 1 := by simp
  rw [hz] at Y0
  clear X0 B0 hz
  unfold fobj at X1 B1 Y0
  clear hf
  unfold FlA.val at hR hF ⊢
  unfold valR at hF ⊢
  simp only at *
  obtain ⟨b1, y0, y1, y2⟩ := id Y0
  obtain ⟨b0, z0, z1, z2⟩ := id X1
  simp only at y0 y1 y2 z0 z1 z2
  have HFI : Hid (∀ W, Below w.heap.size w W → Calls Tryz.prog 13 #[.agg #[.slice ta f.terms.length tc, .slice na f.nons.length nc, .slice pa f.prods.length pc], .agg #[.int .i64 x0, .int .i64 x1, .int .i64 x2]] W fun e w' => e = .returned (.bool (fitI f (x0, x1, x2))) ∧ Below W.heap.size W w') := hF
  have HRI : Hid (∀ W, Below w.heap.size w W → -1 ≤ x0 → x0 < f.prods.length → Calls Tryz.prog 31 #[.agg #[.slice ta f.terms.length tc, .slice na f.nons.length nc, .slice pa f.prods.length pc], .int .i64 x0] W fun e w' => ∃ v, e = .returned v ∧ SlT (rightI f x0) v w' ∧ Below W.heap.size W w') := hR
  clear hF hR
  go_enter Tryz.func11, Tryz.ntmps11
  go_wp2_with fail
  generalize (w.alloc (Obj.cells #[Value.slice ta f.terms.length tc, Value.slice na f.nons.length nc, Value.slice pa f.prods.length pc] 25)).alloc (Obj.cells #[.int .i64 x0, .int .i64 x1, .int .i64 x2] 30) = w0 at *
  have HSI : Hid (∀ W, Below w0.heap.size w0 W → (W.cell? ⟨w.heap.size, 0, none⟩ = some (.slice ta f.terms.length tc) ∧ W.cell? ⟨w.heap.size, 1, none⟩ = some (.slice na f.nons.length nc) ∧ W.cell? ⟨w.heap.size, 2, none⟩ = some (.slice pa f.prods.length pc) ∧ W.cell? ⟨w.heap.size + 1, 0, none⟩ = some (.int .i64 x0) ∧ W.cell? ⟨w.heap.size + 1, 1, none⟩ = some (.int .i64 x1) ∧ W.cell? ⟨w.heap.size + 1, 2, none⟩ = some (.int .i64 x2) ∧ Below w0.heap.size w0 W)) := fun W hb => by
    obtain ⟨_, l0, l1, l2⟩ := Y0.next hb
    obtain ⟨_, k0, k1, k2⟩ := X1.next hb
    exact ⟨k0, k1, k2, l0, l1, l2, hb⟩
  have HS0 : Hid (w0.drew.cell? ⟨w.heap.size, 0, none⟩ = some (.slice ta f.terms.length tc) ∧ w0.drew.cell? ⟨w.heap.size, 1, none⟩ = some (.slice na f.nons.length nc) ∧ w0.drew.cell? ⟨w.heap.size, 2, none⟩ = some (.slice pa f.prods.length pc) ∧ w0.drew.cell? ⟨w.heap.size + 1, 0, none⟩ = some (.int .i64 x0) ∧ w0.drew.cell? ⟨w.heap.size + 1, 1, none⟩ = some (.int .i64 x1) ∧ w0.drew.cell? ⟨w.heap.size + 1, 2, none⟩ = some (.int .i64 x2) ∧ Below w0.heap.size w0 w0.drew) := HSI.out _ (Below.refl _ _).drew
  have HBB : Hid (∀ W, Below w0.heap.size w0 W → Below w.heap.size w W) := fun W hb => below_then B1 hb B1.size
  have HFF : Hid (Calls Tryz.prog 13 #[.agg #[.slice ta f.terms.length tc, .slice na f.nons.length nc, .slice pa f.prods.length pc], .agg #[.int .i64 x0, .int .i64 x1, .int .i64 x2]] w0.drew fun e w' => e = .returned (.bool (fitI f (x0, x1, x2))) ∧ (w'.cell? ⟨w.heap.size, 0, none⟩ = some (.slice ta f.terms.length tc) ∧ w'.cell? ⟨w.heap.size, 1, none⟩ = some (.slice na f.nons.length nc) ∧ w'.cell? ⟨w.heap.size, 2, none⟩ = some (.slice pa f.prods.length pc) ∧ w'.cell? ⟨w.heap.size + 1, 0, none⟩ = some (.int .i64 x0) ∧ w'.cell? ⟨w.heap.size + 1, 1, none⟩ = some (.int .i64 x1) ∧ w'.cell? ⟨w.heap.size + 1, 2, none⟩ = some (.int .i64 x2) ∧ Below w0.heap.size w0 w')) := by
    refine (HFI.out _ (HBB.out _ HS0.out.2.2.2.2.2.2)).mono ?_
    rintro e w' ⟨rfl, hb⟩
    exact ⟨rfl, HSI.out _ (below_then (Below.refl _ _).drew hb (Nat.le_refl _))⟩
  clear HFI X1 Y0 B1 b0 b1 z0 z1 z2 y0 y1 y2
  cases hft : fitI f (x0, x1, x2) with
  | false =>
    rw [hft] at HFF
    have HNI : Hid (nextI f (x0, x1, x2) = none) := by show _ = _; unfold nextI; rw [hft]; rfl
    clear hft HRI HSI
    refine wp_region_L (fun W => W.cell? ⟨w.heap.size, 0, none⟩ = some (.slice ta f.terms.length tc) ∧ W.cell? ⟨w.heap.size, 1, none⟩ = some (.slice na f.nons.length nc) ∧ W.cell? ⟨w.heap.size, 2, none⟩ = some (.slice pa f.prods.length pc) ∧ W.cell? ⟨w.heap.size + 1, 0, none⟩ = some (.int .i64 x0) ∧ W.cell? ⟨w.heap.size + 1, 1, none⟩ = some (.int .i64 x1) ∧ W.cell? ⟨w.heap.size + 1, 2, none⟩ = some (.int .i64 x2) ∧ Below w0.heap.size w0 W) 14 (by kernel_rfl) 14 rfl ?_
    refine tk (i := 0) (v := ?_) (oi := ⟨some 6, .load 25 (.tmp 2), 25, "ref.go:26", #[], none⟩) HS0.out ?_ ?_
    rotate_left
    · intro W hSW
      go_simp
      try with_reducible rfl
    simp only [Act.put, sA, s0, sS]
    refine tk (i := 1) (v := ?_) (oi := ⟨some 7, .load 30 (.tmp 3), 30, "ref.go:26", #[], none⟩) HS0.out ?_ ?_
    rotate_left
    · intro W hSW
      go_simp
      try with_reducible rfl
    simp only [Act.put, sA, s0, sS]
    refine wpAnyL_one' (i := 2) (o := ⟨some 8, .call ⟨.value (.func 13), #[.tmp 6, .tmp 7], #[25, 30]⟩, 4, "ref.go:26", #[⟨0, .data⟩, ⟨1, .data⟩], none⟩) (by kernel_rfl) rfl rfl (fun K hK => ?_)
    go_simp
    refine (HFF.out).mono ?_
    rintro e w' ⟨rfl, hS⟩
    refine hK.out _ _ (fun _ => hS) ?_
    clear hK
    refine tk (i := 3) (v := ?_) (oi := ⟨some 9, .unOp .not 4 (.tmp 8), 4, "ref.go:26", #[⟨2, .data⟩], none⟩) hS ?_ ?_
    rotate_left
    · intro W hSW
      go_simp
      try with_reducible rfl
    simp only [Act.put, sA, s0, sS]
    refine tk (i := 4) (v := ?_) (oi := ⟨some 10, .move (.tmp 9), 4, "ref.go:26", #[⟨3, .data⟩, ⟨2, .chain⟩], none⟩) hS ?_ ?_
    rotate_left
    · intro W hSW
      go_simp
      try with_reducible rfl
    simp only [Act.put, sA, s0, sS]
    refine wpAnyL_take' (i := 5) (v := undef) (oi := ⟨some 11, .fieldAddr 30 (.tmp 3) 1, 0, "ref.go:26", #[⟨4, .guard⟩], some (4, false)⟩) rfl (by kernel_rfl) (by kernel_rfl) (by kernel_rfl) (by kernel_rfl) rfl (fun _ _ _ h => h) (Or.inr ⟨by rfl, rfl⟩) hS ?_
    simp only [Act.put, sA, s0, sS]
    refine wpAnyL_take' (i := 6) (v := undef) (oi := ⟨some 12, .load 3 (.tmp 11), 3, "ref.go:26", #[⟨5, .data⟩, ⟨4, .guard⟩], some (4, false)⟩) rfl (by kernel_rfl) (by kernel_rfl) (by kernel_rfl) (by kernel_rfl) rfl (fun _ _ _ h => h) (Or.inr ⟨by rfl, rfl⟩) hS ?_
    simp only [Act.put, sA, s0, sS]
    refine wpAnyL_take' (i := 7) (v := undef) (oi := ⟨some 13, .load 25 (.tmp 2), 25, "ref.go:26", #[⟨4, .guard⟩], some (4, false)⟩) rfl (by kernel_rfl) (by kernel_rfl) (by kernel_rfl) (by kernel_rfl) rfl (fun _ _ _ h => h) (Or.inr ⟨by rfl, rfl⟩) hS ?_
    simp only [Act.put, sA, s0, sS]
    refine wpAnyL_take' (i := 8) (v := undef) (oi := ⟨some 14, .fieldAddr 30 (.tmp 3) 0, 0, "ref.go:26", #[⟨4, .guard⟩], some (4, false)⟩) rfl (by kernel_rfl) (by kernel_rfl) (by kernel_rfl) (by kernel_rfl) rfl (fun _ _ _ h => h) (Or.inr ⟨by rfl, rfl⟩) hS ?_
    simp only [Act.put, sA, s0, sS]
    refine wpAnyL_take' (i := 9) (v := undef) (oi := ⟨some 15, .load 3 (.tmp 14), 3, "ref.go:26", #[⟨8, .data⟩, ⟨4, .guard⟩], some (4, false)⟩) rfl (by kernel_rfl) (by kernel_rfl) (by kernel_rfl) (by kernel_rfl) rfl (fun _ _ _ h => h) (Or.inr ⟨by rfl, rfl⟩) hS ?_
    simp only [Act.put, sA, s0, sS]
    refine wpAnyL_take' (i := 10) (v := undef) (oi := ⟨some 16, .call ⟨.value (.func 31), #[.tmp 13, .tmp 15], #[25, 3]⟩, 52, "ref.go:26", #[⟨7, .data⟩, ⟨9, .data⟩, ⟨4, .chain⟩, ⟨4, .guard⟩], some (4, false)⟩) rfl (by kernel_rfl) (by kernel_rfl) (by kernel_rfl) (by kernel_rfl) rfl (fun _ _ _ h => h) (Or.inr ⟨by rfl, rfl⟩) hS ?_
    simp only [Act.put, sA, s0, sS]
    refine wpAnyL_take' (i := 11) (v := undef) (oi := ⟨some 17, .call ⟨.builtin .len, #[.tmp 16], #[52]⟩, 3, "ref.go:26", #[⟨10, .data⟩, ⟨4, .guard⟩], some (4, false)⟩) rfl (by kernel_rfl) (by kernel_rfl) (by kernel_rfl) (by kernel_rfl) rfl (fun _ _ _ h => h) (Or.inr ⟨by rfl, rfl⟩) hS ?_
    simp only [Act.put, sA, s0, sS]
    refine wpAnyL_take' (i := 12) (v := undef) (oi := ⟨some 18, .binOp .eql 3 (.tmp 12) (.tmp 17) 3, 4, "ref.go:26", #[⟨6, .data⟩, ⟨11, .data⟩, ⟨4, .guard⟩], some (4, false)⟩) rfl (by kernel_rfl) (by kernel_rfl) (by kernel_rfl) (by kernel_rfl) rfl (fun _ _ _ h => h) (Or.inr ⟨by rfl, rfl⟩) hS ?_
    simp only [Act.put, sA, s0, sS]
    refine tk (i := 13) (v := ?_) (oi := ⟨some 19, .pick (.tmp 10) (.const (.bool true)) (.tmp 18), 4, "ref.go:26", #[⟨4, .data⟩, ⟨12, .data⟩], none⟩) hS ?_ ?_
    rotate_left
    · intro W hSW
      go_simp
      try with_reducible rfl
    simp only [Act.put, sA, s0, sS]
    refine wpAnyL_done (by kernel_rfl) ?_ _
    have HF : Hid (Below w.heap.size w w') := HBB.out _ hS.2.2.2.2.2.2
    clear hS HFF HBB
    go_wp2_with fail
    go_ret2
    exact ⟨by rw [HNI.out]; rfl, HF.out⟩
  | true =>
  rw [hft] at HFF
  have hfi := fitI_iff.1 hft
  simp only at hfi
  obtain ⟨p1, p2, p3, p4, p5, p6⟩ := hfi
  obtain ⟨d, rfl⟩ : ∃ d : Nat, x1 = d := ⟨x1.toNat, by omega⟩
  have HNI : Hid (nextI f (x0, (d : Int), x2) = ((rightI f x0)[d]?).map (·.sym)) := by show _ = _; unfold nextI; rw [hft, if_pos rfl]; simp only; rw [Int.toNat_natCast]
  clear hft
  have HRR : Hid (∀ W, (W.cell? ⟨w.heap.size, 0, none⟩ = some (.slice ta f.terms.length tc) ∧ W.cell? ⟨w.heap.size, 1, none⟩ = some (.slice na f.nons.length nc) ∧ W.cell? ⟨w.heap.size, 2, none⟩ = some (.slice pa f.prods.length pc) ∧ W.cell? ⟨w.heap.size + 1, 0, none⟩ = some (.int .i64 x0) ∧ W.cell? ⟨w.heap.size + 1, 1, none⟩ = some (.int .i64 d) ∧ W.cell? ⟨w.heap.size + 1, 2, none⟩ = some (.int .i64 x2) ∧ Below w0.heap.size w0 W) → Calls Tryz.prog 31 #[.agg #[.slice ta f.terms.length tc, .slice na f.nons.length nc, .slice pa f.prods.length pc], .int .i64 x0] W fun e w' => ∃ va vc, e = .returned (.slice va (rightI f x0).length vc) ∧ Hid (SlT (rightI f x0) (.slice va (rightI f x0).length vc) w') ∧ (w'.cell? ⟨w.heap.size, 0, none⟩ = some (.slice ta f.terms.length tc) ∧ w'.cell? ⟨w.heap.size, 1, none⟩ = some (.slice na f.nons.length nc) ∧ w'.cell? ⟨w.heap.size, 2, none⟩ = some (.slice pa f.prods.length pc) ∧ w'.cell? ⟨w.heap.size + 1, 0, none⟩ = some (.int .i64 x0) ∧ w'.cell? ⟨w.heap.size + 1, 1, none⟩ = some (.int .i64 d) ∧ w'.cell? ⟨w.heap.size + 1, 2, none⟩ = some (.int .i64 x2) ∧ Below w0.heap.size w0 w')) := fun W hS => by
    refine (HRI.out _ (HBB.out _ hS.2.2.2.2.2.2) p1 p2).mono ?_
    rintro e w' ⟨v, rfl, hv, hb⟩
    obtain ⟨va, vc, rfl, _⟩ := id hv
    exact ⟨va, vc, rfl, hv, HSI.out _ (below_then hS.2.2.2.2.2.2 hb hS.2.2.2.2.2.2.size)⟩
  obtain ⟨r, hr⟩ : ∃ r, rightI f x0 = r := ⟨_, rfl⟩
  rw [hr] at HRR HNI p4
  have hdr : d ≤ r.length := by omega
  have HDR : Hid (∀ W, (W.cell? ⟨w.heap.size, 0, none⟩ = some (.slice ta f.terms.length tc) ∧ W.cell? ⟨w.heap.size, 1, none⟩ = some (.slice na f.nons.length nc) ∧ W.cell? ⟨w.heap.size, 2, none⟩ = some (.slice pa f.prods.length pc) ∧ W.cell? ⟨w.heap.size + 1, 0, none⟩ = some (.int .i64 x0) ∧ W.cell? ⟨w.heap.size + 1, 1, none⟩ = some (.int .i64 d) ∧ W.cell? ⟨w.heap.size + 1, 2, none⟩ = some (.int .i64 x2) ∧ Below w0.heap.size w0 W) → (W.drew.cell? ⟨w.heap.size, 0, none⟩ = some (.slice ta f.terms.length tc) ∧ W.drew.cell? ⟨w.heap.size, 1, none⟩ = some (.slice na f.nons.length nc) ∧ W.drew.cell? ⟨w.heap.size, 2, none⟩ = some (.slice pa f.prods.length pc) ∧ W.drew.cell? ⟨w.heap.size + 1, 0, none⟩ = some (.int .i64 x0) ∧ W.drew.cell? ⟨w.heap.size + 1, 1, none⟩ = some (.int .i64 d) ∧ W.drew.cell? ⟨w.heap.size + 1, 2, none⟩ = some (.int .i64 x2) ∧ Below w0.heap.size w0 W.drew)) := fun W hS => HSI.out _ (hS.2.2.2.2.2.2.drew)
  clear hr HRI HSI
  rcases Nat.lt_or_ge d r.length with hlt | hge
  · have HNX : Hid (nextI f (x0, (d : Int), x2) = some r[d].sym) := by show _ = _; rw [HNI.out, List.getElem?_eq_getElem hlt]; rfl
    have hne : ((d : Int) == (r.length : Int)) = false := by simp; omega
    clear HNI
    refine wp_region_L (fun W => W.cell? ⟨w.heap.size, 0, none⟩ = some (.slice ta f.terms.length tc) ∧ W.cell? ⟨w.heap.size, 1, none⟩ = some (.slice na f.nons.length nc) ∧ W.cell? ⟨w.heap.size, 2, none⟩ = some (.slice pa f.prods.length pc) ∧ W.cell? ⟨w.heap.size + 1, 0, none⟩ = some (.int .i64 x0) ∧ W.cell? ⟨w.heap.size + 1, 1, none⟩ = some (.int .i64 d) ∧ W.cell? ⟨w.heap.size + 1, 2, none⟩ = some (.int .i64 x2) ∧ Below w0.heap.size w0 W) 14 (by kernel_rfl) 14 rfl ?_
    refine tk (i := 0) (v := ?_) (oi := ⟨some 6, .load 25 (.tmp 2), 25, "ref.go:26", #[], none⟩) HS0.out ?_ ?_
    rotate_left
    · intro W hSW
      go_simp
      try with_reducible rfl
    simp only [Act.put, sA, s0, sS]
    refine tk (i := 1) (v := ?_) (oi := ⟨some 7, .load 30 (.tmp 3), 30, "ref.go:26", #[], none⟩) HS0.out ?_ ?_
    rotate_left
    · intro W hSW
      go_simp
      try with_reducible rfl
    simp only [Act.put, sA, s0, sS]
    refine wpAnyL_one' (i := 2) (o := ⟨some 8, .call ⟨.value (.func 13), #[.tmp 6, .tmp 7], #[25, 30]⟩, 4, "ref.go:26", #[⟨0, .data⟩, ⟨1, .data⟩], none⟩) (by kernel_rfl) rfl rfl (fun K hK => ?_)
    go_simp
    refine (HFF.out).mono ?_
    rintro e w' ⟨rfl, hS⟩
    refine hK.out _ _ (fun _ => hS) ?_
    clear hK
    refine tk (i := 3) (v := ?_) (oi := ⟨some 9, .unOp .not 4 (.tmp 8), 4, "ref.go:26", #[⟨2, .data⟩], none⟩) hS ?_ ?_
    rotate_left
    · intro W hSW
      go_simp
      try with_reducible rfl
    simp only [Act.put, sA, s0, sS]
    refine tk (i := 4) (v := ?_) (oi := ⟨some 10, .move (.tmp 9), 4, "ref.go:26", #[⟨3, .data⟩, ⟨2, .chain⟩], none⟩) hS ?_ ?_
    rotate_left
    · intro W hSW
      go_simp
      try with_reducible rfl
    simp only [Act.put, sA, s0, sS]
    refine tk (i := 5) (v := ?_) (oi := ⟨some 11, .fieldAddr 30 (.tmp 3) 1, 0, "ref.go:26", #[⟨4, .guard⟩], some (4, false)⟩) hS ?_ ?_
    rotate_left
    · intro W hSW
      go_simp
      try with_reducible rfl
    simp only [Act.put, sA, s0, sS]
    refine tk (i := 6) (v := ?_) (oi := ⟨some 12, .load 3 (.tmp 11), 3, "ref.go:26", #[⟨5, .data⟩, ⟨4, .guard⟩], some (4, false)⟩) hS ?_ ?_
    rotate_left
    · intro W hSW
      go_simp
      try with_reducible rfl
    simp only [Act.put, sA, s0, sS]
    refine tk (i := 7) (v := ?_) (oi := ⟨some 13, .load 25 (.tmp 2), 25, "ref.go:26", #[⟨4, .guard⟩], some (4, false)⟩) hS ?_ ?_
    rotate_left
    · intro W hSW
      go_simp
      try with_reducible rfl
    simp only [Act.put, sA, s0, sS]
    refine tk (i := 8) (v := ?_) (oi := ⟨some 14, .fieldAddr 30 (.tmp 3) 0, 0, "ref.go:26", #[⟨4, .guard⟩], some (4, false)⟩) hS ?_ ?_
    rotate_left
    · intro W hSW
      go_simp
      try with_reducible rfl
    simp only [Act.put, sA, s0, sS]
    refine tk (i := 9) (v := ?_) (oi := ⟨some 15, .load 3 (.tmp 14), 3, "ref.go:26", #[⟨8, .data⟩, ⟨4, .guard⟩], some (4, false)⟩) hS ?_ ?_
    rotate_left
    · intro W hSW
      go_simp
      try with_reducible rfl
    simp only [Act.put, sA, s0, sS]
    refine wpAnyL_one' (i := 10) (o := ⟨some 16, .call ⟨.value (.func 31), #[.tmp 13, .tmp 15], #[25, 3]⟩, 52, "ref.go:26", #[⟨7, .data⟩, ⟨9, .data⟩, ⟨4, .chain⟩, ⟨4, .guard⟩], some (4, false)⟩) (by kernel_rfl) rfl rfl (fun K hK => ?_)
    go_simp
    refine (HRR.out _ hS).mono ?_
    rintro e w1 ⟨va, vc, rfl, _, hS1⟩
    refine hK.out _ _ (fun _ => hS1) ?_
    clear hK
    refine tk (i := 11) (v := ?_) (oi := ⟨some 17, .call ⟨.builtin .len, #[.tmp 16], #[52]⟩, 3, "ref.go:26", #[⟨10, .data⟩, ⟨4, .guard⟩], some (4, false)⟩) hS1 ?_ ?_
    rotate_left
    · intro W hSW
      go_simp
      try with_reducible rfl
    simp only [Act.put, sA, s0, sS]
    refine tk (i := 12) (v := ?_) (oi := ⟨some 18, .binOp .eql 3 (.tmp 12) (.tmp 17) 3, 4, "ref.go:26", #[⟨6, .data⟩, ⟨11, .data⟩, ⟨4, .guard⟩], some (4, false)⟩) hS1 ?_ ?_
    rotate_left
    · intro W hSW
      go_simp
      try with_reducible rfl
    simp only [Act.put, sA, s0, sS]
    refine tk (i := 13) (v := ?_) (oi := ⟨some 19, .pick (.tmp 10) (.const (.bool true)) (.tmp 18), 4, "ref.go:26", #[⟨4, .data⟩, ⟨12, .data⟩], none⟩) hS1 ?_ ?_
    rotate_left
    · intro W hSW
      go_simp
      try with_reducible rfl
    simp only [Act.put, sA, s0, sS]
    refine wpAnyL_done (by kernel_rfl) ?_ _
    clear hS HFF HS0
    have hS2 := HDR.out _ hS1
    clear hS1
    go_wp2_with fail
    refine wp_region_L (fun W => W.cell? ⟨w.heap.size, 0, none⟩ = some (.slice ta f.terms.length tc) ∧ W.cell? ⟨w.heap.size, 1, none⟩ = some (.slice na f.nons.length nc) ∧ W.cell? ⟨w.heap.size, 2, none⟩ = some (.slice pa f.prods.length pc) ∧ W.cell? ⟨w.heap.size + 1, 0, none⟩ = some (.int .i64 x0) ∧ W.cell? ⟨w.heap.size + 1, 1, none⟩ = some (.int .i64 d) ∧ W.cell? ⟨w.heap.size + 1, 2, none⟩ = some (.int .i64 x2) ∧ Below w0.heap.size w0 W) 11 (by kernel_rfl) 11 rfl ?_
    refine tk (i := 0) (v := ?_) (oi := ⟨some 20, .load 25 (.tmp 2), 25, "ref.go:29", #[], none⟩) hS2 ?_ ?_
    rotate_left
    · intro W hSW
      go_simp
      try with_reducible rfl
    simp only [Act.put, sA, s0, sS]
    refine tk (i := 1) (v := ?_) (oi := ⟨some 21, .fieldAddr 30 (.tmp 3) 0, 0, "ref.go:29", #[], none⟩) hS2 ?_ ?_
    rotate_left
    · intro W hSW
      go_simp
      try with_reducible rfl
    simp only [Act.put, sA, s0, sS]
    refine tk (i := 2) (v := ?_) (oi := ⟨some 22, .load 3 (.tmp 21), 3, "ref.go:29", #[⟨1, .data⟩], none⟩) hS2 ?_ ?_
    rotate_left
    · intro W hSW
      go_simp
      try with_reducible rfl
    simp only [Act.put, sA, s0, sS]
    refine tk (i := 4) (v := ?_) (oi := ⟨some 24, .fieldAddr 30 (.tmp 3) 1, 0, "ref.go:29", #[], none⟩) hS2 ?_ ?_
    rotate_left
    · intro W hSW
      go_simp
      try with_reducible rfl
    simp only [Act.put, sA, s0, sS]
    refine tk (i := 5) (v := ?_) (oi := ⟨some 25, .load 3 (.tmp 24), 3, "ref.go:29", #[⟨4, .data⟩], none⟩) hS2 ?_ ?_
    rotate_left
    · intro W hSW
      go_simp
      try with_reducible rfl
    simp only [Act.put, sA, s0, sS]
    refine wpAnyL_one' (i := 3) (o := ⟨some 23, .call ⟨.value (.func 31), #[.tmp 20, .tmp 22], #[25, 3]⟩, 52, "ref.go:29", #[⟨0, .data⟩, ⟨2, .data⟩], none⟩) (by kernel_rfl) rfl rfl (fun K hK => ?_)
    go_simp
    refine (HRR.out _ hS2).mono ?_
    rintro e w3 ⟨va, vc, rfl, hSl, hS3⟩
    refine hK.out _ _ (fun _ => hS3) ?_
    clear hK
    obtain ⟨ao, cap, e, hI, _⟩ := hSl.out
    cases e
    obtain ⟨b, off, rfl, hb, c0, c1, c2, _⟩ := hI.at (Below.refl _ _) hlt
    generalize r[d] = it at *
    have HF : Hid (Below w.heap.size w w3) := HBB.out _ hS3.2.2.2.2.2.2
    clear hI hSl HBB HRR HDR
    refine tk (i := 6) (v := ?_) (oi := ⟨some 26, .indexAddr 52 (.tmp 23) (.tmp 25), 0, "ref.go:29", #[⟨3, .data⟩, ⟨5, .data⟩], none⟩) hS3 ?_ ?_
    rotate_left
    · intro W hSW
      go_simp
      try with_reducible rfl
    simp only [Act.put, sA, s0, sS]
    refine tk (i := 7) (v := ?_) (oi := ⟨some 27, .fieldAddr 56 (.tmp 26) 0, 0, "ref.go:29", #[⟨6, .data⟩], none⟩) hS3 ?_ ?_
    rotate_left
    · intro W hSW
      go_simp
      try with_reducible rfl
    simp only [Act.put, sA, s0, sS]
    refine wpAnyL_one' (i := 8) (o := ⟨some 28, .load 3 (.tmp 27), 3, "ref.go:29", #[⟨7, .data⟩], none⟩) (by kernel_rfl) rfl rfl (fun K hK => ?_)
    go_simp
    refine hK.out _ _ (fun _ => hS3) ?_
    clear hK
    refine tk (i := 9) (v := ?_) (oi := ⟨some 4, .assign (.tmp 28), 3, "ref.go:29", #[⟨8, .data⟩, ⟨3, .chain⟩, ⟨0, .phase⟩, ⟨1, .phase⟩, ⟨2, .phase⟩, ⟨3, .phase⟩, ⟨4, .phase⟩, ⟨5, .phase⟩, ⟨6, .phase⟩, ⟨7, .phase⟩, ⟨8, .phase⟩], none⟩) hS3 ?_ ?_
    rotate_left
    · intro W hSW
      go_simp
      try with_reducible rfl
    simp only [Act.put, sA, s0, sS]
    refine tk (i := 10) (v := ?_) (oi := ⟨some 5, .assign (.const (.bool true)), 4, "ref.go:29", #[⟨9, .chain⟩, ⟨0, .phase⟩, ⟨1, .phase⟩, ⟨2, .phase⟩, ⟨3, .phase⟩, ⟨4, .phase⟩, ⟨5, .phase⟩, ⟨6, .phase⟩, ⟨7, .phase⟩, ⟨8, .phase⟩, ⟨9, .phase⟩], none⟩) hS3 ?_ ?_
    rotate_left
    · intro W hSW
      go_simp
      try with_reducible rfl
    simp only [Act.put, sA, s0, sS]
    refine wpAnyL_done (by kernel_rfl) ?_ _
    clear hS3
    go_wp2_with fail
    go_ret2
    exact ⟨by rw [HNX.out]; rfl, HF.out⟩
  · obtain rfl : d = r.length := by omega
    have HNX : Hid (nextI f (x0, (r.length : Int), x2) = none) := by show _ = _; rw [HNI.out]; simp
    have hne : ((r.length : Int) == (r.length : Int)) = true := by simp
    clear HNI
    refine wp_region_L (fun W => W.cell? ⟨w.heap.size, 0, none⟩ = some (.slice ta f.terms.length tc) ∧ W.cell? ⟨w.heap.size, 1, none⟩ = some (.slice na f.nons.length nc) ∧ W.cell? ⟨w.heap.size, 2, none⟩ = some (.slice pa f.prods.length pc) ∧ W.cell? ⟨w.heap.size + 1, 0, none⟩ = some (.int .i64 x0) ∧ W.cell? ⟨w.heap.size + 1, 1, none⟩ = some (.int .i64 r.length) ∧ W.cell? ⟨w.heap.size + 1, 2, none⟩ = some (.int .i64 x2) ∧ Below w0.heap.size w0 W) 14 (by kernel_rfl) 14 rfl ?_
    refine tk (i := 0) (v := ?_) (oi := ⟨some 6, .load 25 (.tmp 2), 25, "ref.go:26", #[], none⟩) HS0.out ?_ ?_
    rotate_left
    · intro W hSW
      go_simp
      try with_reducible rfl
    simp only [Act.put, sA, s0, sS]
    refine tk (i := 1) (v := ?_) (oi := ⟨some 7, .load 30 (.tmp 3), 30, "ref.go:26", #[], none⟩) HS0.out ?_ ?_
    rotate_left
    · intro W hSW
      go_simp
      try with_reducible rfl
    simp only [Act.put, sA, s0, sS]
    refine wpAnyL_one' (i := 2) (o := ⟨some 8, .call ⟨.value (.func 13), #[.tmp 6, .tmp 7], #[25, 30]⟩, 4, "ref.go:26", #[⟨0, .data⟩, ⟨1, .data⟩], none⟩) (by kernel_rfl) rfl rfl (fun K hK => ?_)
    go_simp
    refine (HFF.out).mono ?_
    rintro e w' ⟨rfl, hS⟩
    refine hK.out _ _ (fun _ => hS) ?_
    clear hK
    refine tk (i := 3) (v := ?_) (oi := ⟨some 9, .unOp .not 4 (.tmp 8), 4, "ref.go:26", #[⟨2, .data⟩], none⟩) hS ?_ ?_
    rotate_left
    · intro W hSW
      go_simp
      try with_reducible rfl
    simp only [Act.put, sA, s0, sS]
    refine tk (i := 4) (v := ?_) (oi := ⟨some 10, .move (.tmp 9), 4, "ref.go:26", #[⟨3, .data⟩, ⟨2, .chain⟩], none⟩) hS ?_ ?_
    rotate_left
    · intro W hSW
      go_simp
      try with_reducible rfl
    simp only [Act.put, sA, s0, sS]
    refine tk (i := 5) (v := ?_) (oi := ⟨some 11, .fieldAddr 30 (.tmp 3) 1, 0, "ref.go:26", #[⟨4, .guard⟩], some (4, false)⟩) hS ?_ ?_
    rotate_left
    · intro W hSW
      go_simp
      try with_reducible rfl
    simp only [Act.put, sA, s0, sS]
    refine tk (i := 6) (v := ?_) (oi := ⟨some 12, .load 3 (.tmp 11), 3, "ref.go:26", #[⟨5, .data⟩, ⟨4, .guard⟩], some (4, false)⟩) hS ?_ ?_
    rotate_left
    · intro W hSW
      go_simp
      try with_reducible rfl
    simp only [Act.put, sA, s0, sS]
    refine tk (i := 7) (v := ?_) (oi := ⟨some 13, .load 25 (.tmp 2), 25, "ref.go:26", #[⟨4, .guard⟩], some (4, false)⟩) hS ?_ ?_
    rotate_left
    · intro W hSW
      go_simp
      try with_reducible rfl
    simp only [Act.put, sA, s0, sS]
    refine tk (i := 8) (v := ?_) (oi := ⟨some 14, .fieldAddr 30 (.tmp 3) 0, 0, "ref.go:26", #[⟨4, .guard⟩], some (4, false)⟩) hS ?_ ?_
    rotate_left
    · intro W hSW
      go_simp
      try with_reducible rfl
    simp only [Act.put, sA, s0, sS]
    refine tk (i := 9) (v := ?_) (oi := ⟨some 15, .load 3 (.tmp 14), 3, "ref.go:26", #[⟨8, .data⟩, ⟨4, .guard⟩], some (4, false)⟩) hS ?_ ?_
    rotate_left
    · intro W hSW
      go_simp
      try with_reducible rfl
    simp only [Act.put, sA, s0, sS]
    refine wpAnyL_one' (i := 10) (o := ⟨some 16, .call ⟨.value (.func 31), #[.tmp 13, .tmp 15], #[25, 3]⟩, 52, "ref.go:26", #[⟨7, .data⟩, ⟨9, .data⟩, ⟨4, .chain⟩, ⟨4, .guard⟩], some (4, false)⟩) (by kernel_rfl) rfl rfl (fun K hK => ?_)
    go_simp
    refine (HRR.out _ hS).mono ?_
    rintro e w1 ⟨va, vc, rfl, _, hS1⟩
    refine hK.out _ _ (fun _ => hS1) ?_
    clear hK
    refine tk (i := 11) (v := ?_) (oi := ⟨some 17, .call ⟨.builtin .len, #[.tmp 16], #[52]⟩, 3, "ref.go:26", #[⟨10, .data⟩, ⟨4, .guard⟩], some (4, false)⟩) hS1 ?_ ?_
    rotate_left
    · intro W hSW
      go_simp
      try with_reducible rfl
    simp only [Act.put, sA, s0, sS]
    refine tk (i := 12) (v := ?_) (oi := ⟨some 18, .binOp .eql 3 (.tmp 12) (.tmp 17) 3, 4, "ref.go:26", #[⟨6, .data⟩, ⟨11, .data⟩, ⟨4, .guard⟩], some (4, false)⟩) hS1 ?_ ?_
    rotate_left
    · intro W hSW
      go_simp
      try with_reducible rfl
    simp only [Act.put, sA, s0, sS]
    refine tk (i := 13) (v := ?_) (oi := ⟨some 19, .pick (.tmp 10) (.const (.bool true)) (.tmp 18), 4, "ref.go:26", #[⟨4, .data⟩, ⟨12, .data⟩], none⟩) hS1 ?_ ?_
    rotate_left
    · intro W hSW
      go_simp
      try with_reducible rfl
    simp only [Act.put, sA, s0, sS]
    refine wpAnyL_done (by kernel_rfl) ?_ _
    have HF : Hid (Below w.heap.size w w1) := HBB.out _ hS1.2.2.2.2.2.2
    clear hS hS1 HFF HBB HS0 HRR HDR
    go_wp2_with fail
    go_ret2
    exact ⟨by rw [HNX.out]; rfl, HF.out⟩
end Go.Proofs.YtlaplmmicccbcaaGreatDoor
/- Fit and Of of flat: every plain grammar that is fit for the document is fit for the program; the places of a symbol's productions. -/
namespace Go.Proofs.YtlaplmmicccbcaaGreatDoor
open Go.RowKit

set_option maxHeartbeats 400000 in
theorem begins_any (c : Nat) (w : World) : Calls Tryz.prog 99 #[.int .u8 c] w fun e w' => e = .returned (.bool (letB c)) ∧ w' = w := by
  go_enter Tryz.func99, Tryz.ntmps99
  go_wp2
  all_goals
    go_ret
    refine ⟨ret_bool ?_, rfl⟩
    unfold letB
    rw [Bool.eq_iff_iff]
    simp
    omega
set_option maxHeartbeats 400000 in
theorem isDigit_any (c : Nat) (w : World) : Calls Tryz.prog 120 #[.int .u8 c] w fun e w' => e = .returned (.bool (digB c)) ∧ w' = w := by
  go_enter Tryz.func120, Tryz.ntmps120
  go_wp2
  all_goals
    go_ret
    refine ⟨ret_bool ?_, rfl⟩
    unfold digB
    rw [Bool.eq_iff_iff]
    simp
    omega

theorem name_facts {s : ByteArray} (h : nameB s = true) : s.size ≠ 0 ∧ s.size ≤ 32 ∧ ∀ k (hk : k < s.size), okB k s[k].toNat = true := by
  unfold nameB at h
  simp only [Bool.and_eq_true, decide_eq_true_eq] at h
  refine ⟨h.1.1, h.1.2, fun k hk => ?_⟩
  have := List.all_eq_true.1 h.2 k (List.mem_range.2 hk)
  unfold okAt at this
  rwa [dif_pos hk] at this

set_option maxHeartbeats 1600000 in
theorem nameLen_any (s : ByteArray) (w : World) (h : nameB s = true) : Calls Tryz.prog 100 #[.string s] w fun e w' => e = .returned (.int .i64 s.size) ∧ w' = w := by
  obtain ⟨h0, h1, h2⟩ := name_facts h
  have HO : Hid (∀ k (hk : k < s.size), okB k s[k].toNat = true) := h2
  clear h h2
  go_enter Tryz.func100, Tryz.ntmps100
  go_wp2
  go_loopw [3] (fun i wr => ∃ (j : Nat), i = .int .i64 j ∧ j ≤ s.size ∧ wr = w) (fun i _ => s.size - (intOf i).toNat)
  case atStart => exact ⟨0, rfl, Nat.zero_le _, rfl⟩
  case round =>
    obtain ⟨j, rfl, hj, rfl⟩ := hrel
    by_cases hlt : j < s.size
    · have hL := begins_any (s[j].toNat) wr
      have hD := isDigit_any (s[j].toNat) wr
      have hok := HO.out j hlt
      unfold okB at hok
      cases hl : letB s[j].toNat with
      | true =>
        rw [hl] at hL
        clear hl hok hD
        go_wp2_with (go_at_call 99; refine hL.mono ?_; rintro e w1 ⟨rfl, rfl⟩)
        exact ⟨⟨j + 1, by go_num, by omega, trivial⟩, by simp [intOf]; omega⟩
      | false =>
        rw [hl] at hL hok
        simp at hok
        rw [hok.2] at hD
        clear hl hok
        go_wp2_with (first | (go_at_call 99; refine hL.mono ?_; rintro e w1 ⟨rfl, rfl⟩) | (go_at_call 120; refine hD.mono ?_; rintro e w1 ⟨rfl, rfl⟩))
        exact ⟨⟨j + 1, by go_num, by omega, trivial⟩, by simp [intOf]; omega⟩
    · obtain rfl : j = s.size := by omega
      go_wp2
      go_ret
      exact ⟨rfl, rfl⟩

set_option maxHeartbeats 1600000 in
theorem gname_any (s : ByteArray) (w : World) (h : nameB s = true) : Calls Tryz.prog 78 #[.string s] w fun e w' => e = .returned (.bool true) ∧ w' = w := by
  have hN := nameLen_any s w h
  obtain ⟨h0, h1, h2⟩ := name_facts h
  have hpos : 0 < s.size := by omega
  have hok := h2 0 hpos
  unfold okB at hok
  simp at hok
  have hL := begins_any (s[0].toNat) w
  rw [hok] at hL
  have hnil : ¬ s.toList = [] := fun e => h0 ((toList_nil s).1 e)
  have h3 : s.toList.isEmpty = false := by simpa using hnil
  clear h h2 hok
  go_enter Tryz.func78, Tryz.ntmps78
  go_wp2_with (first | (go_at_call 99; refine hL.mono ?_; rintro e w1 ⟨rfl, rfl⟩) | (go_at_call 100; refine hN.mono ?_; rintro e w1 ⟨rfl, rfl⟩))
  go_ret
  exact ⟨rfl, rfl⟩

set_option maxHeartbeats 1600000 in
theorem nameOr_any (s : ByteArray) (w : World) (h : nameN s = true) : Calls Tryz.prog 64 #[.string s] w fun e w' => e = .returned (.bool true) ∧ w' = w := by
  unfold nameN at h
  by_cases hz : s.size = 0
  · have h0 : s.toList = [] := (toList_nil s).2 hz
    clear h
    go_enter Tryz.func64, Tryz.ntmps64
    go_wp2
    go_ret
    exact ⟨rfl, rfl⟩
  · have hn : nameB s = true := by rw [decide_eq_false hz] at h; simpa using h
    have hG := gname_any s w hn
    have hnil : ¬ s.toList = [] := fun e => hz ((toList_nil s).1 e)
    have h3 : s.toList.isEmpty = false := by simpa using hnil
    clear h hn
    go_enter Tryz.func64, Tryz.ntmps64
    go_wp2_with (go_at_call 78; refine hG.mono ?_; rintro e w1 ⟨rfl, rfl⟩)
    go_ret
    exact ⟨rfl, rfl⟩

set_option maxHeartbeats 1600000 in
theorem fitTexts_any (l : List ByteArray) (ao : Option Addr) (cap : Nat) (w : World) (hc : RowAt Value.string l ao w) (h : titlesB l = true) (hl : l.length ≤ 1000000) :
    Calls Tryz.prog 51 #[.slice ao l.length cap] w fun e w' => e = .returned (.bool true) ∧ w' = w := by
  have HT : Hid (∀ s ∈ l, s.size ≠ 0 ∧ s.size ≤ 80) := fun s hs => by
    have := List.all_eq_true.1 h s hs
    simpa using this
  clear h
  go_enter Tryz.func51, Tryz.ntmps51
  go_wp2
  go_loopw [7] (fun i wr => ∃ (j : Nat), i = .int .i64 j ∧ j ≤ l.length ∧ wr = w) (fun i _ => l.length - (intOf i).toNat)
  case atStart => exact ⟨0, rfl, Nat.zero_le _, rfl⟩
  case round =>
    obtain ⟨j, rfl, hj, rfl⟩ := hrel
    by_cases hlt : j < l.length
    · obtain ⟨b, off, rfl, _, c0⟩ := hc.at (Below.refl _ _) hlt
      have h0 := HT.out _ (List.getElem_mem hlt)
      generalize l[j] = s at *
      have hnil : ¬ s.toList = [] := fun e => h0.1 ((toList_nil s).1 e)
      have h3 : s.toList.isEmpty = false := by simpa using hnil
      obtain ⟨_, h80⟩ := h0
      clear hc
      go_wp2
      exact ⟨⟨j + 1, by go_num, by omega, trivial⟩, by simp [intOf]; omega⟩
    · go_wp2
      go_ret
      exact ⟨rfl, rfl⟩

set_option maxRecDepth 100000 in
set_option maxHeartbeats 800000 in
theorem fsymbols_any (f : Fl) (a : FlA) (w : World) (hp : f.n ≤ 600) :
    Calls Tryz.prog 50 #[a.val f] w fun e w' => e = .returned (.int .i64 f.n) ∧ Below w.heap.size w w' := by
  obtain ⟨ta, tc, na, nc, pa, pc⟩ := a
  unfold FlA.val
  simp only
  unfold Fl.n at *
  go_enter Tryz.func50, Tryz.ntmps50
  go_wp2_with fail
  go_ret
  exact ⟨ret_int (by omega), (Below.refl _ _).alloc (Nat.le_refl _) _⟩
set_option maxRecDepth 100000 in
set_option maxHeartbeats 800000 in
theorem fisSymbol_any (f : Fl) (a : FlA) (x : Int) (w : World) (hp : f.n ≤ 600) (hx : 0 ≤ x ∧ x < (f.n : Int)) :
    Calls Tryz.prog 63 #[a.val f, .int .i64 x] w fun e w' => e = .returned (.bool true) ∧ Below w.heap.size w w' := by
  have hS := fun W => fsymbols_any f a W hp
  obtain ⟨ta, tc, na, nc, pa, pc⟩ := a
  unfold FlA.val at hS ⊢
  simp only at *
  have HS : Hid (∀ W, Calls Tryz.prog 50 #[.agg #[.slice ta f.terms.length tc, .slice na f.nons.length nc, .slice pa f.prods.length pc]] W fun e w' => e = .returned (.int .i64 f.n) ∧ Below W.heap.size W w') := hS
  clear hS
  have B0 : Below w.heap.size w (w.alloc (Obj.cells #[Value.slice ta f.terms.length tc, Value.slice na f.nons.length nc, Value.slice pa f.prods.length pc] 25)) := (Below.refl _ _).alloc (Nat.le_refl _) _
  obtain ⟨h1, h2⟩ := hx
  have hd : decide (0 ≤ x) = true := decide_eq_true h1
  go_enter Tryz.func63, Tryz.ntmps63
  go_wp2_with fail
  refine (HS.out _).mono ?_
  rintro e w1 ⟨rfl, hb1⟩
  have HB : Hid (Below w.heap.size w w1) := below_then B0 hb1 B0.size
  clear B0 hb1
  go_wp2_with fail
  go_ret
  exact ⟨ret_bool (by simp), HB.out⟩

theorem prod_facts {t n : Int} {p : Pr} (h : prodB t n p = true) : t ≤ p.left ∧ p.left < n ∧ p.right.length ≤ 64 ∧ -10000 ≤ p.prec ∧ p.prec ≤ 10000 ∧ ∀ x ∈ p.right, (0 ≤ x.sym ∧ x.sym < n) ∧ nameN x.fld = true ∧ nameN x.als = true := by
  unfold prodB at h
  simp only [Bool.and_eq_true, decide_eq_true_eq] at h
  refine ⟨h.1.1, h.1.2.1, h.1.2.2.1, h.1.2.2.2.1, h.1.2.2.2.2, fun x hx => ?_⟩
  have := List.all_eq_true.1 h.2 x hx
  unfold itemB at this
  simp only [Bool.and_eq_true, decide_eq_true_eq] at this
  exact ⟨this.1.1, this.1.2, this.2⟩

set_option maxRecDepth 100000 in
set_option maxHeartbeats 1600000 in
theorem fitProd_any (f : Fl) (a : FlA) (p : Pr) (v : Value) (w : World) (hn : f.n ≤ 600) (hv : SlT p.right v w) (h : prodB f.terms.length (f.n : Int) p = true) :
    Calls Tryz.prog 52 #[a.val f, .agg #[.int .i64 p.left, v, .int .i64 p.prec]] w fun e w' => e = .returned (.bool true) ∧ Below w.heap.size w w' := by
  obtain ⟨p1, p2, p3, p4, p5, p6⟩ := prod_facts h
  have HI : Hid (∀ x W, 0 ≤ x → x < (f.n : Int) → Calls Tryz.prog 63 #[a.val f, .int .i64 x] W fun e w' => e = .returned (.bool true) ∧ Below W.heap.size W w') := fun x W h1 h2 => fisSymbol_any f a x W hn ⟨h1, h2⟩
  have HNM : Hid (∀ s W, nameN s = true → Calls Tryz.prog 64 #[.string s] W fun e w' => e = .returned (.bool true) ∧ w' = W) := fun s W h => nameOr_any s W h
  have HX : Hid (∀ x ∈ p.right, (0 ≤ x.sym ∧ x.sym < (f.n : Int)) ∧ nameN x.fld = true ∧ nameN x.als = true) := p6
  obtain ⟨ra, rc, rfl, hI, _, hr1, hr2⟩ := hv
  obtain ⟨ta, tc, na, nc, pa, pc⟩ := a
  have X0 := FBox.new f ⟨ta, tc, na, nc, pa, pc⟩ 25 w
  have B0 : Below w.heap.size w (w.alloc (fobj f ⟨ta, tc, na, nc, pa, pc⟩ 25)) := (Below.refl _ _).alloc (Nat.le_refl _) _
  have X1 := X0.next ((Below.refl _ _).alloc (Nat.le_refl _) (Obj.cells #[.int .i64 p.left, .slice ra p.right.length rc, .int .i64 p.prec] 54))
  have B1 := B0.alloc B0.size (Obj.cells #[.int .i64 p.left, .slice ra p.right.length rc, .int .i64 p.prec] 54)
  have q0 : ((w.alloc (fobj f ⟨ta, tc, na, nc, pa, pc⟩ 25)).alloc (Obj.cells #[.int .i64 p.left, .slice ra p.right.length rc, .int .i64 p.prec] 54)).cell? ⟨w.heap.size + 1, 0, none⟩ = some (.int .i64 p.left) := by simp [fobj]
  have q1 : ((w.alloc (fobj f ⟨ta, tc, na, nc, pa, pc⟩ 25)).alloc (Obj.cells #[.int .i64 p.left, .slice ra p.right.length rc, .int .i64 p.prec] 54)).cell? ⟨w.heap.size + 1, 1, none⟩ = some (.slice ra p.right.length rc) := by simp [fobj]
  have q2 : ((w.alloc (fobj f ⟨ta, tc, na, nc, pa, pc⟩ 25)).alloc (Obj.cells #[.int .i64 p.left, .slice ra p.right.length rc, .int .i64 p.prec] 54)).cell? ⟨w.heap.size + 1, 2, none⟩ = some (.int .i64 p.prec) := by simp [fobj]
  have hz : w.heap.size + 1 < ((w.alloc (fobj f ⟨ta, tc, na, nc, pa, pc⟩ 25)).alloc (Obj.cells #[.int .i64 p.left, .slice ra p.right.length rc, .int .i64 p.prec] 54)).heap.size := by simp
  unfold fobj at X1 B1 q0 q1 q2 hz
  unfold FlA.val at HI ⊢
  simp only at *
  clear X0 B0 h p6
  have pl : 0 ≤ p.left := by omega
  go_enter Tryz.func52, Tryz.ntmps52
  go_wp2_with fail
  generalize ((w.alloc (Obj.cells #[Value.slice ta f.terms.length tc, Value.slice na f.nons.length nc, Value.slice pa f.prods.length pc] 25)).alloc (Obj.cells #[.int .i64 p.left, .slice ra p.right.length rc, .int .i64 p.prec] 54)) = w0 at *
  refine (HI.out _ _ pl p2).mono ?_
  rintro e w1 ⟨rfl, hb1⟩
  have B2 := below_then B1 hb1 B1.size
  have X2 := X1.next hb1
  have r0 := (hb1.cell (p := ⟨w.heap.size + 1, 0, none⟩) hz).trans q0
  have r1 := (hb1.cell (p := ⟨w.heap.size + 1, 1, none⟩) hz).trans q1
  have r2 := (hb1.cell (p := ⟨w.heap.size + 1, 2, none⟩) hz).trans q2
  clear X1 B1 q0 q1 q2 hb1 hz
  go_wp2_with fail
  have HXF : Hid (∀ W, Below w1.heap.size w1 W → FBox f ⟨ta, tc, na, nc, pa, pc⟩ w.heap.size W) := fun W hb => X2.next hb
  have HIT : Hid (∀ W, Below w1.heap.size w1 W → ItsAt p.right ra W) := fun W hb => (hI.next B2).next hb
  clear X2 hI r0 r1 r2
  go_loopw [31] (fun i wr => ∃ (j : Nat), i = .int .i64 j ∧ j ≤ p.right.length ∧ Below w1.heap.size w1 wr) (fun i _ => p.right.length - (intOf i).toNat)
  case atStart => exact ⟨0, rfl, Nat.zero_le _, Below.refl _ _⟩
  case round =>
    obtain ⟨j, rfl, hj, hbr⟩ := hrel
    by_cases hlt : j < p.right.length
    · obtain ⟨b, off, rfl, _, c0, c1, c2, _⟩ := (HIT.out _ hbr).at (Below.refl _ _) hlt
      obtain ⟨⟨s1, s2⟩, s3, s4⟩ := HX.out _ (List.getElem_mem hlt)
      generalize p.right[j] = x at *
      obtain ⟨_, k0, k1, k2⟩ := HXF.out _ hbr
      simp only at k0 k1 k2
      have Bx : Below w1.heap.size w1 (wr.alloc (Obj.cells #[.int .i64 x.sym, .string x.fld, .string x.als] 56)) := hbr.alloc hbr.size _
      have hz : wr.heap.size < (wr.alloc (Obj.cells #[.int .i64 x.sym, .string x.fld, .string x.als] 56)).heap.size := by simp
      have t1 : (wr.alloc (Obj.cells #[.int .i64 x.sym, .string x.fld, .string x.als] 56)).cell? ⟨wr.heap.size, 1, none⟩ = some (.string x.fld) := by simp
      have t2 : (wr.alloc (Obj.cells #[.int .i64 x.sym, .string x.fld, .string x.als] 56)).cell? ⟨wr.heap.size, 2, none⟩ = some (.string x.als) := by simp
      go_wp2_with fail
      generalize (wr.alloc (Obj.cells #[.int .i64 x.sym, .string x.fld, .string x.als] 56)) = W1 at *
      refine (HI.out _ _ s1 s2).mono ?_
      rintro e W2 ⟨rfl, hb2⟩
      have By := below_then Bx hb2 Bx.size
      have u1 := (hb2.cell (p := ⟨wr.heap.size, 1, none⟩) hz).trans t1
      have u2 := (hb2.cell (p := ⟨wr.heap.size, 2, none⟩) hz).trans t2
      clear Bx t1 t2 hb2 hz
      have n1 := HNM.out x.fld W2 s3
      have n2 := HNM.out x.als W2 s4
      go_wp2_with fail
      refine n1.mono ?_
      rintro e W3 ⟨rfl, rfl⟩
      go_wp2_with fail
      refine n2.mono ?_
      rintro e W4 ⟨rfl, rfl⟩
      clear n1 n2
      go_wp2_with fail
      exact ⟨⟨j + 1, by go_num, by omega, By⟩, by simp [intOf]; omega⟩
    · go_wp2_with fail
      go_ret
      exact ⟨rfl, below_then B2 hbr B2.size⟩

theorem fitB_parts {f : Fl} (h : fitB f = true) : titlesB f.terms = true ∧ titlesB f.nons = true ∧ prodsB f.terms.length (f.n : Int) f.terms.length f.prods = true := by
  unfold fitB headB at h
  simp only [Bool.and_eq_true] at h
  exact ⟨h.1.1.2, h.1.2, h.2⟩
theorem prodsB_drop {t n : Int} {l : List Pr} {j : Nat} {prev : Int} (hj : j < l.length) (h : prodsB t n prev (l.drop j) = true) : prev ≤ l[j].left ∧ prodB t n l[j] = true ∧ prodsB t n l[j].left (l.drop (j + 1)) = true := by
  rw [List.drop_eq_getElem_cons hj, prodsB] at h
  simp only [Bool.and_eq_true, decide_eq_true_eq] at h
  exact ⟨h.1.1, h.1.2, h.2⟩

set_option maxRecDepth 100000 in
set_option maxHeartbeats 1600000 in
theorem flatFit_any (f : Fl) (a : FlA) (w : World) (hf : FlAt f a w) (h : fitB f = true) :
    Calls Tryz.prog 41 #[a.val f] w fun e w' => e = .returned (.bool true) ∧ Below w.heap.size w w' := by
  have hp := fit_facts h
  have hn : f.n ≤ 600 := hp.size
  obtain ⟨h1, h2, h3⟩ := fitB_parts h
  have HSY : Hid (∀ W, Calls Tryz.prog 50 #[a.val f] W fun e w' => e = .returned (.int .i64 f.n) ∧ Below W.heap.size W w') := fun W => fsymbols_any f a W hn
  have HT1 : Hid (∀ W, Below w.heap.size w W → Calls Tryz.prog 51 #[.slice a.ta f.terms.length a.tc] W fun e w' => e = .returned (.bool true) ∧ w' = W) := fun W hb => fitTexts_any f.terms a.ta a.tc W (hf.1.next hb) h1 (by have := hp.size; omega)
  have HT2 : Hid (∀ W, Below w.heap.size w W → Calls Tryz.prog 51 #[.slice a.na f.nons.length a.nc] W fun e w' => e = .returned (.bool true) ∧ w' = W) := fun W hb => fitTexts_any f.nons a.na a.nc W (hf.2.1.next hb) h2 (by have := hp.size; omega)
  have HFP : Hid (∀ (p : Pr) (v : Value) (W : World), SlT p.right v W → prodB f.terms.length (f.n : Int) p = true → Calls Tryz.prog 52 #[a.val f, .agg #[.int .i64 p.left, v, .int .i64 p.prec]] W fun e w' => e = .returned (.bool true) ∧ Below W.heap.size W w') := fun p v W hv hB => fitProd_any f a p v W hn hv hB
  have HPR : Hid (∀ W, Below w.heap.size w W → PrsAt f.prods a.pa W) := fun W hb => hf.2.2.1.next hb
  have g1 := hp.nons
  have g2 := hp.size
  have g3 := hp.prods
  obtain ⟨ta, tc, na, nc, pa, pc⟩ := a
  have X0 := FBox.new f ⟨ta, tc, na, nc, pa, pc⟩ 25 w
  have B0 : Below w.heap.size w (w.alloc (fobj f ⟨ta, tc, na, nc, pa, pc⟩ 25)) := (Below.refl _ _).alloc (Nat.le_refl _) _
  unfold fobj at X0 B0
  unfold FlA.val at HSY HFP ⊢
  simp only at *
  have g1' : ((f.nons.length : Int) == 0) = false := beq_eq_false_iff_ne.2 (by omega)
  have HP0 : Hid (prodsB f.terms.length (f.n : Int) f.terms.length f.prods = true) := h3
  clear hf h hp h1 h2 h3
  go_enter Tryz.func41, Tryz.ntmps41
  go_wp2_with fail
  generalize (w.alloc (Obj.cells #[Value.slice ta f.terms.length tc, Value.slice na f.nons.length nc, Value.slice pa f.prods.length pc] 25)) = W0 at *
  refine (HSY.out _).mono ?_
  rintro e w1 ⟨rfl, hb1⟩
  have X1 := X0.next hb1
  have B1 := below_then B0 hb1 B0.size
  obtain ⟨_, k0, k1, k2⟩ := id X1
  simp only at k0 k1 k2
  clear X0 B0 hb1 HSY
  go_wp2_with fail
  refine (HT1.out _ B1).mono ?_
  rintro e w2 ⟨rfl, rfl⟩
  go_wp2_with fail
  refine (HT2.out _ B1).mono ?_
  rintro e w3 ⟨rfl, rfl⟩
  clear HT1 HT2
  go_wp2_with fail
  have HXF : Hid (∀ W, Below w3.heap.size w3 W → FBox f ⟨ta, tc, na, nc, pa, pc⟩ w.heap.size W) := fun W hb => X1.next hb
  have HPX : Hid (∀ W, Below w3.heap.size w3 W → PrsAt f.prods pa W) := fun W hb => HPR.out _ (below_then B1 hb B1.size)
  clear X1 HPR k0 k1 k2
  go_loopw [3, 37] (fun q i wr => ∃ (j : Nat) (prev : Int), q = .int .i64 prev ∧ i = .int .i64 j ∧ j ≤ f.prods.length ∧ prodsB f.terms.length (f.n : Int) prev (f.prods.drop j) = true ∧ Below w3.heap.size w3 wr) (fun _ i _ => f.prods.length - (intOf i).toNat)
  case atStart => exact ⟨0, _, rfl, rfl, Nat.zero_le _, HP0.out, Below.refl _ _⟩
  case round =>
    clear HP0
    obtain ⟨j, prev, rfl, rfl, hj, hpr, hbr⟩ := hrel
    by_cases hlt : j < f.prods.length
    · obtain ⟨b, off, v, rfl, _, c0, c1, c2, hv, _⟩ := (HPX.out _ hbr).at (Below.refl _ _) hlt
      obtain ⟨s1, s2, s3⟩ := prodsB_drop hlt hpr
      have HS3 : Hid (prodsB f.terms.length (f.n : Int) f.prods[j].left (f.prods.drop (j + 1)) = true) := s3
      clear s3 hpr
      generalize f.prods[j] = x at *
      obtain ⟨_, k0, k1, k2⟩ := HXF.out _ hbr
      simp only at k0 k1 k2
      obtain ⟨ra, rc, rfl, _⟩ := id hv
      have Bx : Below w3.heap.size w3 (wr.alloc (Obj.cells #[.int .i64 x.left, .slice ra x.right.length rc, .int .i64 x.prec] 54)) := hbr.alloc hbr.size _
      have HC := HFP.out x _ _ (hv.next ((Below.refl wr.heap.size wr).alloc (Nat.le_refl _) (Obj.cells #[.int .i64 x.left, .slice ra x.right.length rc, .int .i64 x.prec] 54))) s2
      have hz : wr.heap.size < (wr.alloc (Obj.cells #[.int .i64 x.left, .slice ra x.right.length rc, .int .i64 x.prec] 54)).heap.size := by simp
      have t0 : (wr.alloc (Obj.cells #[.int .i64 x.left, .slice ra x.right.length rc, .int .i64 x.prec] 54)).cell? ⟨wr.heap.size, 0, none⟩ = some (.int .i64 x.left) := by simp
      have s1' : decide (x.left < prev) = false := decide_eq_false (by omega)
      clear hv s2
      have HC2 : Hid (Calls Tryz.prog 52 #[.agg #[.slice ta f.terms.length tc, .slice na f.nons.length nc, .slice (some ⟨b, off, none⟩) f.prods.length pc], .agg #[.int .i64 x.left, .slice ra x.right.length rc, .int .i64 x.prec]] (wr.alloc (Obj.cells #[.int .i64 x.left, .slice ra x.right.length rc, .int .i64 x.prec] 54)) fun e w' => e = .returned (.bool true) ∧ Below (wr.alloc (Obj.cells #[.int .i64 x.left, .slice ra x.right.length rc, .int .i64 x.prec] 54)).heap.size (wr.alloc (Obj.cells #[.int .i64 x.left, .slice ra x.right.length rc, .int .i64 x.prec] 54)) w') := HC
      clear HC
      go_wp2_with fail
      generalize (wr.alloc (Obj.cells #[.int .i64 x.left, .slice ra x.right.length rc, .int .i64 x.prec] 54)) = W1 at *
      refine HC2.out.mono ?_
      rintro e W2 ⟨rfl, hb2⟩
      have By := below_then Bx hb2 Bx.size
      have u0 := (hb2.cell (p := ⟨wr.heap.size, 0, none⟩) hz).trans t0
      clear Bx t0 hb2 hz HC2
      go_wp2_with fail
      exact ⟨⟨j + 1, x.left, rfl, by go_num, by omega, HS3.out, By⟩, by simp [intOf]; omega⟩
    · go_wp2_with fail
      go_ret
      exact ⟨rfl, below_then B1 hbr B1.size⟩

/-- The places of a symbol's productions, up to place j. -/
def ofL (f : Fl) (s : Int) (j : Nat) : List Int := ((List.range j).filter fun k => decide ((f.prods[k]?).map (·.left) = some s)).map (fun k : Nat => (k : Int))
theorem ofL_yes {f : Fl} {s : Int} {j : Nat} {p : Pr} (h : f.prods[j]? = some p) (hs : p.left = s) : ofL f s (j + 1) = ofL f s j ++ [(j : Int)] := by
  unfold ofL
  rw [List.range_succ, List.filter_append, List.map_append]
  simp [h, hs]
theorem ofL_no {f : Fl} {s : Int} {j : Nat} {p : Pr} (h : f.prods[j]? = some p) (hs : ¬ p.left = s) : ofL f s (j + 1) = ofL f s j := by
  unfold ofL
  rw [List.range_succ, List.filter_append, List.map_append]
  simp [h, hs]
theorem ofL_len (f : Fl) (s : Int) (j : Nat) : (ofL f s j).length ≤ j := by
  unfold ofL
  rw [List.length_map]
  exact Nat.le_trans (List.length_filter_le _ _) (by simp)
def ofA (f : Fl) (s : Int) : List Int := ofL f s f.prods.length
theorem mem_ofA {f : Fl} {s x : Int} : x ∈ ofA f s ↔ ∃ (q : Nat) (p : Pr), x = q ∧ f.prods[q]? = some p ∧ p.left = s := by
  unfold ofA ofL
  constructor
  · intro h
    obtain ⟨k, hk, rfl⟩ := List.mem_map.1 h
    obtain ⟨h1, h2⟩ := List.mem_filter.1 hk
    obtain ⟨p, hp, hs⟩ := Option.map_eq_some_iff.1 (of_decide_eq_true h2)
    exact ⟨k, p, rfl, hp, hs⟩
  · rintro ⟨q, p, rfl, hp, hs⟩
    refine List.mem_map.2 ⟨q, List.mem_filter.2 ⟨List.mem_range.2 (List.getElem?_eq_some_iff.1 hp).1, ?_⟩, rfl⟩
    simp [hp, hs]
theorem ofL_ok {f : Fl} {s : Int} {j : Nat} (hj : j ≤ 1000) : ∀ y ∈ ofL f s j, i64B y := by
  intro y hy
  unfold ofL at hy
  obtain ⟨k, hk, rfl⟩ := List.mem_map.1 hy
  have := List.mem_range.1 (List.mem_filter.1 hk).1
  unfold i64B
  omega

set_option maxRecDepth 100000 in
set_option maxHeartbeats 1600000 in
theorem rof_any (f : Fl) (a : FlA) (s : Int) (w : World) (hf : FlAt f a w) (hl : f.prods.length ≤ 1000) :
    Calls Tryz.prog 25 #[a.val f, .int .i64 s] w fun e w' => ∃ v, e = .returned v ∧ SlI (ofA f s) v w' ∧ Apart w.heap.size v ∧ Below w.heap.size w w' := by
  obtain ⟨i0, hi0, hz0, hz1, hz2⟩ := info_parts info3
  obtain ⟨ta, tc, na, nc, pa, pc⟩ := a
  have X0 := FBox.new f ⟨ta, tc, na, nc, pa, pc⟩ 25 w
  have B0 : Below w.heap.size w (w.alloc (fobj f ⟨ta, tc, na, nc, pa, pc⟩ 25)) := (Below.refl _ _).alloc (Nat.le_refl _) _
  obtain ⟨h0, h1, h2, h3, h4, h5, h6, h7⟩ := hf
  unfold fobj at X0 B0
  unfold FlA.val
  simp only at *
  clear h0 h1
  skip
  skip
  go_enter Tryz.func25, Tryz.ntmps25
  go_wp2_with fail
  generalize w.alloc (Obj.cells #[Value.slice ta f.terms.length tc, Value.slice na f.nons.length nc, Value.slice pa f.prods.length pc] 25) = w0 at *
  have HX : Hid (∀ W, Below w0.heap.size w0 W → FBox f ⟨ta, tc, na, nc, pa, pc⟩ w.heap.size W) := fun W hb => X0.next hb
  have HP : Hid (∀ W, Below w0.heap.size w0 W → PrsAt f.prods pa W) := fun W hb => (h2.next B0).next hb
  have HB : Hid (∀ W, Below w0.heap.size w0 W → Below w.heap.size w W) := fun W hb => below_then B0 hb B0.size
  have HZ0 : Hid (w.heap.size ≤ w0.heap.size) := B0.size
  clear X0 B0 h2
  go_loopw [5, 6] (fun o i wr => ∃ (j : Nat), i = .int .i64 j ∧ j ≤ f.prods.length ∧ Own1 3 encI w0.heap.size (ofL f s j) o wr ∧ Below w0.heap.size w0 wr) (fun _ i _ => f.prods.length - (intOf i).toNat)
  case atStart => exact ⟨0, rfl, Nat.zero_le _, Own1.nil _ _ _ _, Below.refl _ _⟩
  case round =>
    obtain ⟨j, rfl, hj, hown, B1⟩ := hrel
    obtain ⟨x1, d0, d1, d2⟩ := HX.out _ B1
    simp only at d0 d1 d2
    have hsz := B1.size
    obtain ⟨oa, oc, rfl⟩ := slice_of_own hown
    have HW : Hid (wr.ownsRow w0.heap.size 3 1 (.slice oa (ofL f s j).length oc) (ofL f s j).length ((ofL f s j).map encI)) := hown
    have hLj := ofL_len f s j
    clear hown
    by_cases hlt : j < f.prods.length
    · obtain ⟨b, off, v, rfl, _, c0, c1, c2, hv, hlf, _⟩ := (HP.out _ B1).at (Below.refl _ _) hlt
      have HG : Hid (f.prods[j]? = some f.prods[j]) := List.getElem?_eq_getElem hlt
      generalize f.prods[j] = p at *
      obtain ⟨ra, rc, rfl, _⟩ := hv
      by_cases hs : p.left = s
      · have HO2 : Hid (ofL f s (j + 1) = ofL f s j ++ [(j : Int)]) := ofL_yes HG.out hs
        have hs' : (p.left == s) = true := by simpa using hs
        have w1own := HW.out
        generalize ofL f s j = L at *
        obtain ⟨LV, hLV⟩ : ∃ LV, L.map encI = LV := ⟨_, rfl⟩
        have HLV : Hid (L.map encI = LV) := hLV
        rw [hLV] at w1own
        clear hLV HW
        have B1a : Below w0.heap.size w0 wr := B1
        have hsza := B1a.size
        have w1o := w1own
        go_wp2_with (at_builtin; refine wpList_append_own _ rfl (.tmp 22) (.tmp 24) 47 rfl w0.heap.size 3 i0 _ 1 8 Tryz.underlying47 hi0 hz0 hz1 hz2 rfl (by decide) _ L.length LV rfl (World.ownsRow.alloc w1o _) ⟨wr.heap.size, 0, none⟩ 1 1 [encI j] rfl rfl (by first | exact new_cell _ _ _ | (have := new_cell wr (encI j) 3; simpa [encI] using this)) (by simp [encI]; rfl) (by unfold maxLen; omega) (by omega) (by simp; omega) ?_)
        intro v2 w2 hown2 hg2 _
        have B2 : Below w0.heap.size w0 w2 := (B1a.alloc hsza _).grown hg2 (by simp; omega) (fun k e => (World.ownsRow.lt w1own k e).1)
        obtain ⟨a2, c2, rfl⟩ := slice_of_own hown2
        have HW2 : Hid (Own1 3 encI w0.heap.size (L ++ [(j : Int)]) (.slice a2 (L.length + 1) c2) w2) := by
          show World.ownsRow _ _ _ _ _ _ _
          have := hown2
          rw [← HLV.out] at this
          simpa using this
        clear hown2 hg2 w1own w1o B1a hsza
        go_wp2_with fail
        exact ⟨⟨j + 1, by go_num, by omega, by rw [HO2.out]; exact HW2.out, B2⟩, by simp [intOf]; omega⟩
      · have hs' : (p.left == s) = false := by simpa using hs
        have HO2 : Hid (ofL f s (j + 1) = ofL f s j) := ofL_no HG.out hs
        go_wp2_with fail
        exact ⟨⟨j + 1, by go_num, by omega, by rw [HO2.out]; exact HW.out, B1⟩, by simp [intOf]; omega⟩
    · obtain rfl : j = f.prods.length := by omega
      go_wp2_with fail
      go_ret
      exact ⟨_, rfl, sli_own (B := w0.heap.size) HW.out (ofL_ok hl), (apart_own HW.out).mono HZ0.out, HB.out _ B1⟩

set_option maxRecDepth 100000 in
set_option maxHeartbeats 1600000 in
theorem of_any (f : Fl) (a : FlA) (s : Int) (w : World) (hf : FlAt f a w) (hl : f.prods.length ≤ 1000) :
    Calls Tryz.prog 55 #[a.val f, .int .i64 s] w fun e w' => ∃ v, e = .returned v ∧ SlI (ofA f s) v w' ∧ Apart w.heap.size v ∧ Below w.heap.size w w' := by
  obtain ⟨i0, hi0, hz0, hz1, hz2⟩ := info_parts info3
  obtain ⟨ta, tc, na, nc, pa, pc⟩ := a
  have X0 := FBox.new f ⟨ta, tc, na, nc, pa, pc⟩ 25 w
  have B0 : Below w.heap.size w (w.alloc (fobj f ⟨ta, tc, na, nc, pa, pc⟩ 25)) := (Below.refl _ _).alloc (Nat.le_refl _) _
  obtain ⟨h0, h1, h2, h3, h4, h5, h6, h7⟩ := hf
  unfold fobj at X0 B0
  unfold FlA.val
  simp only at *
  clear h0 h1
  obtain ⟨_, y0, y1, y2⟩ := id X0
  simp only at y0 y1 y2
  go_enter Tryz.func55, Tryz.ntmps55
  go_wp2_with fail
  generalize w.alloc (Obj.cells #[Value.slice ta f.terms.length tc, Value.slice na f.nons.length nc, Value.slice pa f.prods.length pc] 25) = w0 at *
  have HX : Hid (∀ W, Below w0.heap.size w0 W → FBox f ⟨ta, tc, na, nc, pa, pc⟩ w.heap.size W) := fun W hb => X0.next hb
  have HP : Hid (∀ W, Below w0.heap.size w0 W → PrsAt f.prods pa W) := fun W hb => (h2.next B0).next hb
  have HB : Hid (∀ W, Below w0.heap.size w0 W → Below w.heap.size w W) := fun W hb => below_then B0 hb B0.size
  have HZ0 : Hid (w.heap.size ≤ w0.heap.size) := B0.size
  clear X0 B0 h2 y0 y1 y2
  go_loopw [5, 11] (fun o i wr => ∃ (j : Nat), i = .int .i64 j ∧ j ≤ f.prods.length ∧ Own1 3 encI w0.heap.size (ofL f s j) o wr ∧ Below w0.heap.size w0 wr) (fun _ i _ => f.prods.length - (intOf i).toNat)
  case atStart => exact ⟨0, rfl, Nat.zero_le _, Own1.nil _ _ _ _, Below.refl _ _⟩
  case round =>
    obtain ⟨j, rfl, hj, hown, B1⟩ := hrel
    obtain ⟨x1, d0, d1, d2⟩ := HX.out _ B1
    simp only at d0 d1 d2
    have hsz := B1.size
    obtain ⟨oa, oc, rfl⟩ := slice_of_own hown
    have HW : Hid (wr.ownsRow w0.heap.size 3 1 (.slice oa (ofL f s j).length oc) (ofL f s j).length ((ofL f s j).map encI)) := hown
    have hLj := ofL_len f s j
    clear hown
    by_cases hlt : j < f.prods.length
    · obtain ⟨b, off, v, rfl, _, c0, c1, c2, hv, hlf, _⟩ := (HP.out _ B1).at (Below.refl _ _) hlt
      have HG : Hid (f.prods[j]? = some f.prods[j]) := List.getElem?_eq_getElem hlt
      generalize f.prods[j] = p at *
      obtain ⟨ra, rc, rfl, _⟩ := hv
      by_cases hs : p.left = s
      · have HO2 : Hid (ofL f s (j + 1) = ofL f s j ++ [(j : Int)]) := ofL_yes HG.out hs
        subst hs
        have w1own := HW.out
        generalize ofL f p.left j = L at *
        obtain ⟨LV, hLV⟩ : ∃ LV, L.map encI = LV := ⟨_, rfl⟩
        have HLV : Hid (L.map encI = LV) := hLV
        rw [hLV] at w1own
        clear hLV HW
        have B1a : Below w0.heap.size w0 (wr.alloc (Obj.cells #[.int .i64 p.left, .slice ra p.right.length rc, .int .i64 p.prec] 54)) := B1.alloc hsz _
        have hsza := B1a.size
        have w1o := World.ownsRow.alloc w1own (Obj.cells #[.int .i64 p.left, .slice ra p.right.length rc, .int .i64 p.prec] 54)
        go_wp2_with (at_builtin; refine wpList_append_own _ rfl (.tmp 20) (.tmp 22) 47 rfl w0.heap.size 3 i0 _ 1 8 Tryz.underlying47 hi0 hz0 hz1 hz2 rfl (by decide) _ L.length LV rfl (World.ownsRow.alloc w1o _) ⟨wr.heap.size + 1, 0, none⟩ 1 1 [encI j] rfl rfl (by first | exact new_cell _ _ _ | (have := new_cell (wr.alloc (Obj.cells #[.int .i64 p.left, .slice ra p.right.length rc, .int .i64 p.prec] 54)) (encI j) 3; simpa [encI] using this)) (by simp [encI]; rfl) (by unfold maxLen; omega) (by omega) (by simp; omega) ?_)
        intro v2 w2 hown2 hg2 _
        have B2 : Below w0.heap.size w0 w2 := (B1a.alloc hsza _).grown hg2 (by simp; omega) (fun k e => (World.ownsRow.lt w1own k e).1)
        obtain ⟨a2, c2, rfl⟩ := slice_of_own hown2
        have HW2 : Hid (Own1 3 encI w0.heap.size (L ++ [(j : Int)]) (.slice a2 (L.length + 1) c2) w2) := by
          show World.ownsRow _ _ _ _ _ _ _
          have := hown2
          rw [← HLV.out] at this
          simpa using this
        clear hown2 hg2 w1own w1o B1a hsza
        go_wp2_with fail
        exact ⟨⟨j + 1, by go_num, by omega, by rw [HO2.out]; exact HW2.out, B2⟩, by simp [intOf]; omega⟩
      · have hs' : (p.left == s) = false := by simpa using hs
        have HO2 : Hid (ofL f s (j + 1) = ofL f s j) := ofL_no HG.out hs
        go_wp2_with fail
        exact ⟨⟨j + 1, by go_num, by omega, by rw [HO2.out]; exact World.ownsRow.alloc HW.out _, B1.alloc hsz _⟩, by simp [intOf]; omega⟩
    · obtain rfl : j = f.prods.length := by omega
      go_wp2_with fail
      go_ret
      exact ⟨_, rfl, sli_own (B := w0.heap.size) HW.out (ofL_ok hl), (apart_own HW.out).mono HZ0.out, HB.out _ B1⟩
end Go.Proofs.YtlaplmmicccbcaaGreatDoor
/- beginning, fitOnes, moved of the program. -/
namespace Go.Proofs.YtlaplmmicccbcaaGreatDoor
open Go.RowKit

theorem ownsRow_next {W W' : World} {B n k : Nat} {e : TypeId} {v : Value} {xs : List Value} (h : W.ownsRow B e k v n xs) (hb : Below W.heap.size W W') : W'.ownsRow B e k v n xs := by
  refine ⟨h.1, ?_⟩
  rcases h.2 with h' | ⟨g, cap, cur, h1, h2, h3, h4⟩
  · exact .inl h'
  · exact .inr ⟨g, cap, cur, h1, h2, (hb.block g (Array.getElem?_eq_some_iff.1 h3).1).trans h3, h4⟩
theorem ownsRow_setCell {W : World} {B n k : Nat} {e : TypeId} {v : Value} {xs : List Value} (h : W.ownsRow B e k v n xs) (a : Addr) (u : Value) (hne : ∀ q, v.ownBlock = some q → q ≠ a.block) : (W.setCell a u).ownsRow B e k v n xs := by
  refine ⟨h.1, ?_⟩
  rcases h.2 with h' | ⟨g, cap, cur, h1, h2, h3, h4⟩
  · exact .inl h'
  · exact .inr ⟨g, cap, cur, h1, h2, (Below.heap_setCell W a u g (hne g (by rw [h1]; rfl))).trans h3, h4⟩
theorem OwnL.next {W W' : World} {B : Nat} {v : Value} {l : List Ir} (h : OwnL B l v W) (hb : Below W.heap.size W W') : OwnL B l v W' := ownsRow_next h hb
theorem SlL.of {l : List Ir} {ao : Option Addr} {cap : Nat} {W : World} (h : IrsAt l ao W) (h1 : ao = none → cap = 0) (h2 : l.length ≤ cap) : SlL l (.slice ao l.length cap) W := ⟨ao, cap, rfl, h, h1, h2⟩

set_option maxRecDepth 100000 in
set_option maxHeartbeats 800000 in
theorem beginning_any (f : Fl) (a : FlA) (w : World) (hn : f.n ≤ 600) :
    Calls Tryz.prog 40 #[a.val f] w fun e w' => ∃ v, e = .returned v ∧ SlL (begL f) v w' ∧ Below w.heap.size w w' := by
  have hE := fun W => end_any f a W
  obtain ⟨ta, tc, na, nc, pa, pc⟩ := a
  unfold FlA.val at hE ⊢
  simp only at *
  have B0 : Below w.heap.size w (w.alloc (Obj.cells #[Value.slice ta f.terms.length tc, Value.slice na f.nons.length nc, Value.slice pa f.prods.length pc] 25)) := (Below.refl _ _).alloc (Nat.le_refl _) _
  have HE : Hid (∀ W, Calls Tryz.prog 32 #[.agg #[.slice ta f.terms.length tc, .slice na f.nons.length nc, .slice pa f.prods.length pc]] W fun e w' => e = .returned (.int .i64 f.terms.length) ∧ Below W.heap.size W w') := hE
  clear hE
  go_enter Tryz.func40, Tryz.ntmps40
  go_wp2_with fail
  refine (HE.out _).mono ?_
  rintro e w1 ⟨rfl, hb1⟩
  have B1 := below_then B0 hb1 B0.size
  clear B0 hb1 HE
  have HX := RBox.new (-1, 0, (f.terms.length : Int)) 30 w1
  have HS : Hid (SlL (begL f) (.slice (some ⟨w1.heap.size, 0, none⟩) 1 1) (w1.alloc (Obj.cells #[.int .i64 (-1), .int .i64 0, .int .i64 f.terms.length] 30))) := by
    refine SlL.of (l := begL f) (fun i x hi => ?_) (fun h => by cases h) (by simp [begL])
    rcases i with _ | i
    · simp [begL] at hi; subst hi
      obtain ⟨h0, h1, h2, h3⟩ := HX
      exact ⟨_, _, rfl, h0, h1, h2, h3, by unfold okR i64B; unfold Fl.n at hn; simp only; omega⟩
    · simp [begL] at hi
  clear HX
  go_wp2_with fail
  go_ret
  exact ⟨_, rfl, HS.out, B1.alloc B1.size _⟩

set_option maxRecDepth 100000 in
set_option maxHeartbeats 1600000 in
theorem fitOnes_any (f : Fl) (a : FlA) (l : List Ir) (v : Value) (w : World) (hf : FlAt f a w) (hn : f.n ≤ 600) (hl : SlL l v w) (hll : l.length ≤ 100000000) :
    Calls Tryz.prog 34 #[a.val f, v] w fun e w' => ∃ v', e = .returned v' ∧ SlL (l.filter (fitI f)) v' w' ∧ Below w.heap.size w w' := by
  obtain ⟨i0, hi0, hz0, hz1, hz2⟩ := info_parts infoLr
  have hF := fun x W (hb : Below w.heap.size w W) => fit_item f a x W (hf.next hb) hn
  obtain ⟨la, lc, rfl, hI, _, _⟩ := hl
  obtain ⟨ta, tc, na, nc, pa, pc⟩ := a
  have X0 := FBox.new f ⟨ta, tc, na, nc, pa, pc⟩ 25 w
  have B0 : Below w.heap.size w (w.alloc (fobj f ⟨ta, tc, na, nc, pa, pc⟩ 25)) := (Below.refl _ _).alloc (Nat.le_refl _) _
  unfold fobj at X0 B0
  unfold FlA.val at hF ⊢
  unfold valR at hF
  simp only at *
  have HF : Hid (∀ (x : Ir) (W : World), Below w.heap.size w W → Calls Tryz.prog 12 #[.agg #[.slice ta f.terms.length tc, .slice na f.nons.length nc, .slice pa f.prods.length pc], .agg #[.int .i64 x.1, .int .i64 x.2.1, .int .i64 x.2.2]] W fun e w' => e = .returned (.bool (fitI f x)) ∧ Below W.heap.size W w') := hF
  clear hF hf
  go_enter Tryz.func34, Tryz.ntmps34
  go_wp2_with fail
  generalize w.alloc (Obj.cells #[Value.slice ta f.terms.length tc, Value.slice na f.nons.length nc, Value.slice pa f.prods.length pc] 25) = w0 at *
  have HX : Hid (∀ W, Below w0.heap.size w0 W → FBox f ⟨ta, tc, na, nc, pa, pc⟩ w.heap.size W) := fun W hb => X0.next hb
  have HI : Hid (∀ W, Below w0.heap.size w0 W → IrsAt l la W) := fun W hb => (hI.next B0).next hb
  have HB : Hid (∀ W, Below w0.heap.size w0 W → Below w.heap.size w W) := fun W hb => below_then B0 hb B0.size
  have HOK : Hid (∀ x ∈ l, okR x) := hI.ok
  clear X0 B0 hI
  go_loopw [5, 10] (fun o i wr => ∃ (j : Nat), i = .int .i64 j ∧ j ≤ l.length ∧ OwnL w0.heap.size ((l.take j).filter (fitI f)) o wr ∧ Below w0.heap.size w0 wr) (fun _ i _ => l.length - (intOf i).toNat)
  case atStart => exact ⟨0, rfl, Nat.zero_le _, by simpa using OwnL.nil _ _, Below.refl _ _⟩
  case round =>
    obtain ⟨j, rfl, hj, hown, B1⟩ := hrel
    have hsz := B1.size
    have hLj : ((l.take j).filter (fitI f)).length ≤ j := Nat.le_trans (List.length_filter_le _ _) (by simp; omega)
    obtain ⟨oa, oc, rfl⟩ := slice_of_ownK hown
    by_cases hlt : j < l.length
    · obtain ⟨b, off, rfl, _, c0, c1, c2, hok⟩ := (HI.out _ B1).at (Below.refl _ _) hlt
      have HT : Hid ((l.take (j + 1)).filter (fitI f) = (l.take j).filter (fitI f) ++ (if fitI f l[j] = true then [l[j]] else [])) := by
        show _ = _
        rw [List.take_succ_eq_append_getElem hlt, List.filter_append]
        congr 1
        split
        · rename_i h; simp [h]
        · rename_i h; simp [h]
      generalize l[j] = x at *
      generalize (l.take j).filter (fitI f) = L at *
      obtain ⟨x0, x1, x2⟩ := x
      simp only at c0 c1 c2
      have B2 : Below w0.heap.size w0 (wr.alloc (Obj.cells #[.int .i64 x0, .int .i64 x1, .int .i64 x2] 30)) := B1.alloc hsz _
      have Y0 := RBox.new (x0, x1, x2) 30 wr
      obtain ⟨_, k0, k1, k2⟩ := HX.out _ B1
      simp only at k0 k1 k2
      have hF1 := HF.out (x0, x1, x2) _ (HB.out _ B2)
      have hO1 : OwnL w0.heap.size L (.slice oa L.length oc) (wr.alloc (Obj.cells #[.int .i64 x0, .int .i64 x1, .int .i64 x2] 30)) := World.ownsRow.alloc hown _
      simp only at hF1
      clear hown
      go_wp2_with fail
      generalize wr.alloc (Obj.cells #[.int .i64 x0, .int .i64 x1, .int .i64 x2] 30) = W1 at *
      refine hF1.mono ?_
      rintro e W2 ⟨rfl, hb2⟩
      have Y1 := Y0.next hb2
      have B3 := below_then B2 hb2 B2.size
      have hO2 := hO1.next hb2
      have hsz3 := B3.size
      obtain ⟨_, y0, y1, y2⟩ := Y1
      simp only at y0 y1 y2
      clear hF1 hO1 Y0 hb2 B2 k0 k1 k2
      cases hfit : fitI f (x0, x1, x2) with
      | false =>
        rw [hfit] at HT
        go_wp2_with fail
        exact ⟨⟨j + 1, by go_num, by omega, by rw [HT.out]; simpa using hO2, B3⟩, by simp [intOf]; omega⟩
      | true =>
        rw [hfit] at HT
        have w1own : W2.ownsRow w0.heap.size 30 3 (.slice oa L.length oc) L.length (L.flatMap encR) := hO2
        obtain ⟨LV, hLV⟩ : ∃ LV, L.flatMap encR = LV := ⟨_, rfl⟩
        have HLV : Hid (L.flatMap encR = LV) := hLV
        rw [hLV] at w1own
        clear hLV hO2
        go_wp2_with (at_builtin; refine wpList_append_own _ rfl (.tmp 17) (.tmp 19) 26 rfl w0.heap.size 30 i0 _ 3 24 Tryz.underlying26 hi0 hz0 hz1 hz2 rfl (by decide) _ L.length LV rfl (World.ownsRow.alloc w1own _) ⟨W2.heap.size, 0, none⟩ 1 1 (encR (x0, x1, x2)) rfl rfl (new_cellR W2 (x0, x1, x2) _) (one_encR _) (by unfold maxLen; omega) (by omega) (by simp; omega) ?_)
        intro v2 w2 hown2 hg2 _
        have B4 : Below w0.heap.size w0 w2 := (B3.alloc hsz3 _).grown hg2 (by simp; omega) (fun k e => (World.ownsRow.lt w1own k e).1)
        obtain ⟨a2, c2, rfl⟩ := slice_of_ownK hown2
        have HW2 : Hid (OwnL w0.heap.size (L ++ [(x0, x1, x2)]) (.slice a2 (L.length + 1) c2) w2) := by
          refine OwnL.more ?_
          rw [HLV.out]; exact hown2
        clear hown2 hg2 w1own y0 y1 y2
        go_wp2_with fail
        exact ⟨⟨j + 1, by go_num, by omega, by rw [HT.out]; exact HW2.out, B4⟩, by simp [intOf]; omega⟩
    · obtain rfl : j = l.length := by omega
      rw [List.take_of_length_le (Nat.le_refl _)] at *
      have HS : Hid (SlL (l.filter (fitI f)) (.slice oa (l.filter (fitI f)).length oc) wr) := hown.sl (fun x hx => HOK.out x (List.mem_filter.1 hx).1)
      clear hown
      go_wp2_with fail
      go_ret
      exact ⟨_, rfl, HS.out, HB.out _ B1⟩

theorem movedL_take {f : Fl} {l : List Ir} {s : Int} {j : Nat} (h : j < l.length) : movedL f (l.take (j + 1)) s = movedL f (l.take j) s ++ (if nextI f l[j] = some s then [(l[j].1, l[j].2.1 + 1, l[j].2.2)] else []) := by
  unfold movedL
  rw [List.take_succ_eq_append_getElem h, List.filter_append, List.map_append]
  congr 1
  split
  · rename_i h; simp [h]
  · rename_i h; simp [h]
theorem movedL_len (f : Fl) (l : List Ir) (s : Int) : (movedL f l s).length ≤ l.length := by
  unfold movedL; rw [List.length_map]; exact List.length_filter_le _ _
theorem movedL_ok {f : Fl} {l : List Ir} {s : Int} (hp : FitP f) : ∀ x ∈ movedL f l s, okR x := fun x hx => by
  have h1 := fitI_iff.1 (movedL_fit x hx)
  have h2 := rightI_le hp x.1
  have h3 := hp.prods
  have h4 := hp.size
  unfold okR i64B
  omega
set_option maxRecDepth 100000 in
set_option maxHeartbeats 1600000 in
theorem moved_any (f : Fl) (a : FlA) (l : List Ir) (v : Value) (s : Int) (w : World) (hf : FlAt f a w) (hp : FitP f) (hl : SlL l v w) (hll : l.length ≤ 100000000) :
    Calls Tryz.prog 39 #[a.val f, v, .int .i64 s] w fun e w' => ∃ v', e = .returned v' ∧ SlL (movedL f l s) v' w' ∧ Below w.heap.size w w' := by
  have hn : f.n ≤ 600 := hp.size
  obtain ⟨i0, hi0, hz0, hz1, hz2⟩ := info_parts infoLr
  have hF := fun x W (hb : Below w.heap.size w W) => next_item f a x W (hf.next hb) hn
  obtain ⟨la, lc, rfl, hI, _, _⟩ := hl
  obtain ⟨ta, tc, na, nc, pa, pc⟩ := a
  have X0 := FBox.new f ⟨ta, tc, na, nc, pa, pc⟩ 25 w
  have B0 : Below w.heap.size w (w.alloc (fobj f ⟨ta, tc, na, nc, pa, pc⟩ 25)) := (Below.refl _ _).alloc (Nat.le_refl _) _
  unfold fobj at X0 B0
  unfold FlA.val at hF ⊢
  unfold valR at hF
  simp only at *
  have HF : Hid (∀ (x : Ir) (W : World), Below w.heap.size w W → Calls Tryz.prog 10 #[.agg #[.slice ta f.terms.length tc, .slice na f.nons.length nc, .slice pa f.prods.length pc], .agg #[.int .i64 x.1, .int .i64 x.2.1, .int .i64 x.2.2]] W fun e w' => e = .returned (.tuple #[.int .i64 ((nextI f x).getD 0), .bool (nextI f x).isSome]) ∧ Below W.heap.size W w') := hF
  have HOK : Hid (∀ j, ∀ x ∈ movedL f (l.take j) s, okR x) := fun j => movedL_ok hp
  have HDT : Hid (∀ (x : Ir) (z : Int), nextI f x = some z → 0 ≤ x.2.1 ∧ x.2.1 ≤ 64) := fun x z hz => by
    have h1 := fitI_iff.1 (nextI_fit hz)
    have h2 := rightI_le hp x.1
    omega
  clear hF hf
  go_enter Tryz.func39, Tryz.ntmps39
  go_wp2_with fail
  generalize w.alloc (Obj.cells #[Value.slice ta f.terms.length tc, Value.slice na f.nons.length nc, Value.slice pa f.prods.length pc] 25) = w0 at *
  have HX : Hid (∀ W, Below w0.heap.size w0 W → FBox f ⟨ta, tc, na, nc, pa, pc⟩ w.heap.size W) := fun W hb => X0.next hb
  have HI : Hid (∀ W, Below w0.heap.size w0 W → IrsAt l la W) := fun W hb => (hI.next B0).next hb
  have HB : Hid (∀ W, Below w0.heap.size w0 W → Below w.heap.size w W) := fun W hb => below_then B0 hb B0.size
  clear X0 B0 hI hp
  go_loopw [7, 14] (fun o i wr => ∃ (j : Nat), i = .int .i64 j ∧ j ≤ l.length ∧ OwnL w0.heap.size (movedL f (l.take j) s) o wr ∧ Below w0.heap.size w0 wr) (fun _ i _ => l.length - (intOf i).toNat)
  case atStart => exact ⟨0, rfl, Nat.zero_le _, OwnL.nil _ _, Below.refl _ _⟩
  case round =>
    obtain ⟨j, rfl, hj, hown, B1⟩ := hrel
    have hsz := B1.size
    have hLj : (movedL f (l.take j) s).length ≤ j := Nat.le_trans (movedL_len _ _ _) (by simp; omega)
    obtain ⟨oa, oc, rfl⟩ := slice_of_ownK hown
    by_cases hlt : j < l.length
    · obtain ⟨b, off, rfl, _, c0, c1, c2, hok⟩ := (HI.out _ B1).at (Below.refl _ _) hlt
      have HT : Hid (movedL f (l.take (j + 1)) s = movedL f (l.take j) s ++ (if nextI f l[j] = some s then [(l[j].1, l[j].2.1 + 1, l[j].2.2)] else [])) := movedL_take hlt
      generalize l[j] = x at *
      generalize movedL f (l.take j) s = L at *
      have HD : Hid (∀ z, nextI f x = some z → 0 ≤ x.2.1 ∧ x.2.1 ≤ 64) := HDT.out x
      obtain ⟨x0, x1, x2⟩ := x
      simp only at c0 c1 c2
      have B2 : Below w0.heap.size w0 (wr.alloc (Obj.cells #[.int .i64 x0, .int .i64 x1, .int .i64 x2] 30)) := B1.alloc hsz _
      have Y0 := RBox.new (x0, x1, x2) 30 wr
      have fz : ((wr.alloc (Obj.cells #[.int .i64 x0, .int .i64 x1, .int .i64 x2] 30)).frozen? ⟨wr.heap.size, 1, none⟩ = false) := by simp
      obtain ⟨_, k0, k1, k2⟩ := HX.out _ B1
      simp only at k0 k1 k2
      have hF1 := HF.out (x0, x1, x2) _ (HB.out _ B2)
      have hO1 : OwnL w0.heap.size L (.slice oa L.length oc) (wr.alloc (Obj.cells #[.int .i64 x0, .int .i64 x1, .int .i64 x2] 30)) := World.ownsRow.alloc hown _
      have HGO : Hid (∀ k, (Value.slice oa L.length oc).ownBlock = some k → k ≠ wr.heap.size) := fun k hk => by have := (World.ownsRow.lt hown k hk).2; omega
      simp only at hF1
      clear hown
      obtain ⟨nx, hnx⟩ : ∃ nx, nextI f (x0, x1, x2) = nx := ⟨_, rfl⟩
      rw [hnx] at hF1 HT HD
      clear hnx
      go_wp2_with fail
      generalize hW1 : wr.alloc (Obj.cells #[.int .i64 x0, .int .i64 x1, .int .i64 x2] 30) = W1 at *
      have hsW : wr.heap.size < W1.heap.size := by rw [← hW1]; simp
      refine hF1.mono ?_
      rintro e W2 ⟨rfl, hb2⟩
      have Y1 := Y0.next hb2
      have B3 := below_then B2 hb2 B2.size
      have hO2 := hO1.next hb2
      have hsz3 := B3.size
      have fz2 := (hb2.frozen (p := ⟨wr.heap.size, 1, none⟩) hsW).trans fz
      have hsW2 : wr.heap.size < W2.heap.size := Nat.lt_of_lt_of_le hsW hb2.size
      obtain ⟨_, y0, y1, y2⟩ := Y1
      simp only at y0 y1 y2
      clear hF1 hO1 Y0 hb2 B2 k0 k1 k2 hW1 hsW fz
      cases nx with
      | none =>
        simp only [Option.getD_none, Option.isSome_none]
        go_wp2_with fail
        exact ⟨⟨j + 1, by go_num, by omega, by rw [HT.out]; simpa using hO2, B3⟩, by simp [intOf]; omega⟩
      | some z =>
        simp only [Option.getD_some, Option.isSome_some]
        by_cases hz : z = s
        · subst hz
          have hd := HD.out z rfl
          obtain ⟨hd0, hd1⟩ := hd
          have hz' : (z == z) = true := by simp
          have w1own : (W2.setCell ⟨wr.heap.size, 1, none⟩ (.int .i64 (x1 + 1))).ownsRow w0.heap.size 30 3 (.slice oa L.length oc) L.length (L.flatMap encR) := ownsRow_setCell hO2 _ _ HGO.out
          have B4 : Below w0.heap.size w0 (W2.setCell ⟨wr.heap.size, 1, none⟩ (.int .i64 (x1 + 1))) := B3.setCell hsz _
          obtain ⟨LV, hLV⟩ : ∃ LV, L.flatMap encR = LV := ⟨_, rfl⟩
          have HLV : Hid (L.flatMap encR = LV) := hLV
          rw [hLV] at w1own
          have hzs : (W2.setCell ⟨wr.heap.size, 1, none⟩ (.int .i64 (x1 + 1))).heap.size = W2.heap.size := by simp
          clear hLV hO2 HGO HD
          go_wp2_with (at_builtin; refine wpList_append_own _ rfl (.tmp 34) (.tmp 36) 26 rfl w0.heap.size 30 i0 _ 3 24 Tryz.underlying26 hi0 hz0 hz1 hz2 rfl (by decide) _ L.length LV rfl (World.ownsRow.alloc w1own _) ⟨W2.heap.size, 0, none⟩ 1 1 (encR (x0, x1 + 1, x2)) rfl rfl (by have := new_cellR (W2.setCell ⟨wr.heap.size, 1, none⟩ (.int .i64 (x1 + 1))) (x0, x1 + 1, x2) 30; rw [hzs] at this; exact this) (one_encR _) (by unfold maxLen; omega) (by omega) (by simp; omega) ?_)
          intro v2 w2 hown2 hg2 _
          have B5 : Below w0.heap.size w0 w2 := (B4.alloc B4.size _).grown hg2 (by simp; omega) (fun k e => (World.ownsRow.lt w1own k e).1)
          obtain ⟨a2, c2, rfl⟩ := slice_of_ownK hown2
          have HW2 : Hid (OwnL w0.heap.size (L ++ [(x0, x1 + 1, x2)]) (.slice a2 (L.length + 1) c2) w2) := by
            refine OwnL.more ?_
            rw [HLV.out]; exact hown2
          clear hown2 hg2 w1own y0 y1 y2 B4 hzs
          go_wp2_with fail
          exact ⟨⟨j + 1, by go_num, by omega, by rw [HT.out, if_pos (by trivial)]; exact HW2.out, B5⟩, by simp [intOf]; omega⟩
        · have hz' : (z == s) = false := by simpa using hz
          have hz2 : ¬ (some z = some s) := fun h => hz (Option.some.inj h)
          go_wp2_with fail
          exact ⟨⟨j + 1, by go_num, by omega, by rw [HT.out, if_neg hz2]; simpa using hO2, B3⟩, by simp [intOf]; omega⟩
    · obtain rfl : j = l.length := by omega
      rw [List.take_of_length_le (Nat.le_refl _)] at *
      have hk := HOK.out l.length
      rw [List.take_of_length_le (Nat.le_refl _)] at hk
      have HS : Hid (SlL (movedL f l s) (.slice oa (movedL f l s).length oc) wr) := hown.sl hk
      clear hown hk
      go_wp2_with fail
      go_ret
      exact ⟨_, rfl, HS.out, HB.out _ B1⟩
end Go.Proofs.YtlaplmmicccbcaaGreatDoor
/- before and Same of the document. -/
namespace Go.Proofs.YtlaplmmicccbcaaGreatDoor
open Go.RowKit

set_option maxRecDepth 100000 in
set_option maxHeartbeats 1000000 in
theorem rbefore_any (x y : Ir) (w : World) : Calls Tryz.prog 48 #[valR x, valR y] w fun e w' => e = .returned (.bool (decide (ltI x y))) ∧ Below w.heap.size w w' := by
  obtain ⟨x0, x1, x2⟩ := x
  obtain ⟨y0, y1, y2⟩ := y
  have HW : Hid (decide (ltI (x0, x1, x2) (y0, y1, y2)) = decide (x0 < y0 ∨ (x0 = y0 ∧ (x1 < y1 ∨ (x1 = y1 ∧ x2 < y2))))) := rfl
  have B0 : Below w.heap.size w ((w.alloc (Obj.cells #[.int .i64 x0, .int .i64 x1, .int .i64 x2] 30)).alloc (Obj.cells #[.int .i64 y0, .int .i64 y1, .int .i64 y2] 30)) := ((Below.refl _ _).alloc (Nat.le_refl _) _).alloc (by simp) _
  unfold valR
  simp only
  by_cases h1 : x0 = y0
  · subst h1
    by_cases h2 : x1 = y1
    · subst h2
      go_enter Tryz.func48, Tryz.ntmps48
      go_wp2
      go_ret
      exact ⟨ret_bool (by rw [HW.out, Bool.eq_iff_iff]; simp), B0⟩
    · have h2' : (x1 != y1) = true := by simpa using h2
      go_enter Tryz.func48, Tryz.ntmps48
      go_wp2
      go_ret
      exact ⟨ret_bool (by rw [HW.out, Bool.eq_iff_iff]; simp; omega), B0⟩
  · have h1' : (x0 != y0) = true := by simpa using h1
    go_enter Tryz.func48, Tryz.ntmps48
    go_wp2
    go_ret
    exact ⟨ret_bool (by rw [HW.out, Bool.eq_iff_iff]; simp; omega), B0⟩

set_option maxRecDepth 100000 in
set_option maxHeartbeats 1000000 in
theorem rsame_any (es fs : List Ir) (u v : Value) (w : World) (hc : SlL es u w) (hd : SlL fs v w) (hl : es.length ≤ 100000000) (_hm : fs.length ≤ 100000000) :
    Calls Tryz.prog 14 #[u, v] w fun e w' => e = .returned (.bool (decide (es = fs))) ∧ ∃ m, w' = w.drewN m := by
  obtain ⟨ao, cap, rfl, hc, _⟩ := hc
  obtain ⟨bo, dap, rfl, hd, _⟩ := hd
  by_cases hn : es.length = fs.length
  · have hn' : (es.length : Int) = fs.length := by omega
    rw [← hn]
    go_enter Tryz.func14, Tryz.ntmps14
    go_wp2
    go_loopw [5] (fun i wr => ∃ (j : Nat), i = .int .i64 j ∧ j ≤ es.length ∧ (es = fs ↔ es.drop j = fs.drop j) ∧ ∃ m, wr = w.drewN m) (fun i _ => es.length - (intOf i).toNat)
    case atStart => exact ⟨0, rfl, Nat.zero_le _, by simp, 0, rfl⟩
    case round =>
      obtain ⟨j, rfl, hj, hrel, m0, rfl⟩ := hrel
      by_cases hlt : j < es.length
      · have hlt2 : j < fs.length := by omega
        obtain ⟨b, off, rfl, _, c0, c1, c2, _⟩ := hc.at (Below.refl _ _) hlt
        obtain ⟨b2, off2, rfl, _, d0, d1, d2, _⟩ := hd.at (Below.refl _ _) hlt2
        rw [List.drop_eq_getElem_cons hlt, List.drop_eq_getElem_cons hlt2] at hrel
        generalize es[j] = r at *
        generalize fs[j] = q at *
        simp only [List.cons.injEq] at hrel
        have HN : Hid (es.length = fs.length) := hn
        clear hc hd hn hn' hlt2
        by_cases h1 : r = q
        · have HR : Hid (es = fs ↔ es.drop (j + 1) = fs.drop (j + 1)) := by show _ ↔ _; rw [hrel]; exact ⟨fun h => h.2, fun h => ⟨h1, h⟩⟩
          clear hrel
          subst h1
          obtain ⟨r0, r1, r2⟩ := r
          simp only at c0 c1 c2 d0 d1 d2
          go_wp2
          go_quiet (fail)
          go_wp2
          exact ⟨⟨j + 1, by go_num, by omega, HR.out, (by first | exact drewN_two _ _ _ | exact ⟨_, rfl⟩)⟩, by simp [intOf]; omega⟩
        · have HR : Hid (¬ es = fs) := by show ¬ _; rw [hrel]; exact fun h => h1 h.1
          clear hrel
          obtain ⟨r0, r1, r2⟩ := r
          obtain ⟨q0, q1, q2⟩ := q
          simp only at c0 c1 c2 d0 d1 d2
          have h3 : ¬ (r0 = q0 ∧ r1 = q1 ∧ r2 = q2) := fun ⟨e1, e2, e3⟩ => h1 (by rw [e1, e2, e3])
          clear h1
          by_cases e0 : r0 = q0
          · subst e0
            by_cases e1 : r1 = q1
            · subst e1
              have e2 : (r2 == q2) = false := by
                have : ¬ r2 = q2 := fun h => h3 ⟨rfl, rfl, h⟩
                simpa using this
              clear h3
              go_wp2
              go_quiet (fail)
              go_wp2
              go_ret
              exact ⟨ret_bool (by simp [HR.out]), (by first | exact drewN_two _ _ _ | exact ⟨_, rfl⟩)⟩
            · have e1' : (r1 == q1) = false := by simpa using e1
              clear h3
              go_wp2
              go_quiet (fail)
              go_wp2
              go_ret
              exact ⟨ret_bool (by simp [HR.out]), (by first | exact drewN_two _ _ _ | exact ⟨_, rfl⟩)⟩
          · have e0' : (r0 == q0) = false := by simpa using e0
            clear h3
            go_wp2
            go_quiet (fail)
            go_wp2
            go_ret
            exact ⟨ret_bool (by simp [HR.out]), (by first | exact drewN_two _ _ _ | exact ⟨_, rfl⟩)⟩
      · have HS : Hid (es = fs) := by
          show _ = _
          rw [hrel, List.drop_of_length_le (by omega), List.drop_of_length_le (by omega)]
        clear hrel hc hd
        go_wp2
        go_ret
        exact ⟨ret_bool (by simp [HS.out]), m0, rfl⟩
  · have hn' : ¬ (es.length : Int) = fs.length := by omega
    have HS : Hid (¬ es = fs) := fun h => hn (by rw [h])
    have hn2 : ((es.length : Int) != fs.length) = true := by simpa using hn'
    clear hc hd hn
    go_enter Tryz.func14, Tryz.ntmps14
    go_wp2
    go_ret
    exact ⟨ret_bool (by simp [HS.out]), 0, rfl⟩
end Go.Proofs.YtlaplmmicccbcaaGreatDoor
/- Find and Sets of the document. -/
namespace Go.Proofs.YtlaplmmicccbcaaGreatDoor
open Go.RowKit

/-- Rows of items: the cells hold slices, and each of these its row. -/
def IrssAt (R : List (List Ir)) (ao : Option Addr) (W : World) : Prop :=
  ∀ (i : Nat) (l : List Ir), R[i]? = some l → ∃ b off v, ao = some ⟨b, off, none⟩ ∧ b < W.heap.size ∧ W.cell? ⟨b, off + i, none⟩ = some v ∧ SlL l v W
theorem IrssAt.next {R : List (List Ir)} {ao : Option Addr} {W W' : World} (h : IrssAt R ao W) (hb : Below W.heap.size W W') : IrssAt R ao W' := fun i r hr => by
  obtain ⟨b, off, v, h0, h1, h2, h3⟩ := h i r hr
  exact ⟨b, off, v, h0, Nat.lt_of_lt_of_le h1 hb.size, (hb.cell (p := ⟨b, off + i, none⟩) h1).trans h2, h3.next hb⟩
theorem IrssAt.at {R : List (List Ir)} {ao : Option Addr} {w W : World} (h : IrssAt R ao w) (hb : Below w.heap.size w W) {j : Nat} (hj : j < R.length) :
    ∃ b off v, ao = some ⟨b, off, none⟩ ∧ b < W.heap.size ∧ W.cell? ⟨b, off + j, none⟩ = some v ∧ SlL R[j] v W := h.next hb j R[j] (by simp [hj])
def SlLL (R : List (List Ir)) (v : Value) (W : World) : Prop :=
  ∃ ao cap, v = .slice ao R.length cap ∧ IrssAt R ao W ∧ (ao = none → cap = 0) ∧ R.length ≤ cap
theorem SlLL.next {R : List (List Ir)} {v : Value} {W W' : World} (h : SlLL R v W) (hb : Below W.heap.size W W') : SlLL R v W' := by
  obtain ⟨ao, cap, h0, h1, h2⟩ := h
  exact ⟨ao, cap, h0, h1.next hb, h2⟩
theorem SlLL.nil (W : World) : SlLL [] (.slice none 0 0) W := ⟨none, 0, rfl, fun i l h => by simp at h, fun _ => rfl, Nat.le_refl _⟩

def findI (A : List (List Ir)) (l : List Ir) : Nat := A.findIdx fun x => decide (x = l)
theorem findI_at {A : List (List Ir)} {l : List Ir} {j : Nat} (h0 : ∀ k (hk : k < A.length), k < j → A[k] ≠ l) (hj : j < A.length) (h1 : A[j] = l) : findI A l = j := by
  unfold findI
  rw [List.findIdx_eq hj]
  exact ⟨by simp [h1], fun k hk => by simpa using h0 k (by omega) hk⟩
theorem findI_none {A : List (List Ir)} {l : List Ir} (h0 : ∀ k (hk : k < A.length), A[k] ≠ l) : findI A l = A.length := by
  unfold findI
  rw [List.findIdx_eq_length]
  intro x hx
  obtain ⟨k, hk, rfl⟩ := List.getElem_of_mem hx
  simpa using h0 k hk
theorem findI_eq_len {A : List (List Ir)} {l : List Ir} : findI A l = A.length ↔ l ∉ A := by
  unfold findI
  rw [List.findIdx_eq_length]
  constructor
  · intro h hl; have := h l hl; simp at this
  · intro h x hx; simp; rintro rfl; exact h hx
theorem findI_le (A : List (List Ir)) (l : List Ir) : findI A l ≤ A.length := List.findIdx_le_length

set_option maxRecDepth 100000 in
set_option maxHeartbeats 1000000 in
theorem rfind_any (R : List (List Ir)) (l : List Ir) (u v : Value) (w : World) (hc : SlLL R u w) (hd : SlL l v w) (hl : R.length ≤ 1000000) (hR : ∀ x ∈ R, x.length ≤ 100000000) (hll : l.length ≤ 100000000) :
    Calls Tryz.prog 26 #[u, v] w fun e w' => e = .returned (.int .i64 (findI R l)) ∧ Below w.heap.size w w' := by
  obtain ⟨ao, cap, rfl, hc, _⟩ := hc
  have hv : ∃ a n c, v = .slice a n c := by obtain ⟨a, c, h, _⟩ := hd; exact ⟨_, _, _, h⟩
  obtain ⟨va, vn, vc, rfl⟩ := hv
  have HV : Hid (∀ W, Below w.heap.size w W → SlL l (.slice va vn vc) W) := fun W hb => hd.next hb
  have HC : Hid (∀ W, Below w.heap.size w W → IrssAt R ao W) := fun W hb => hc.next hb
  have HR : Hid (∀ x ∈ R, x.length ≤ 100000000) := hR
  clear hd hc hR
  go_enter Tryz.func26, Tryz.ntmps26
  go_wp2_with fail
  go_loopw [5] (fun i wr => ∃ (j : Nat), i = .int .i64 j ∧ j ≤ R.length ∧ (∀ k (hk : k < R.length), k < j → R[k] ≠ l) ∧ Below w.heap.size w wr) (fun i _ => R.length - (intOf i).toNat)
  case atStart => exact ⟨0, rfl, Nat.zero_le _, by simp, Below.refl _ _⟩
  case round =>
    obtain ⟨j, rfl, hj, hrel, B1⟩ := hrel
    have HJ : Hid (∀ k (hk : k < R.length), k < j → R[k] ≠ l) := hrel
    clear hrel
    by_cases hlt : j < R.length
    · obtain ⟨b, off, x, rfl, _, c0, hx⟩ := (HC.out _ B1).at (Below.refl _ _) hlt
      have hxl := HR.out _ (List.getElem_mem hlt)
      have hS := rsame_any R[j] l x _ wr hx (HV.out _ B1) hxl hll
      have hx' : ∃ a n c, x = .slice a n c := by obtain ⟨a, c, h, _⟩ := hx; exact ⟨_, _, _, h⟩
      obtain ⟨xa, xn, xc, rfl⟩ := hx'
      by_cases he : R[j] = l
      · have HF : Hid (findI R l = j) := findI_at HJ.out hlt he
        rw [decide_eq_true he] at hS
        have HS : Hid (Calls Tryz.prog 14 #[.slice xa xn xc, .slice va vn vc] wr fun e w' => e = .returned (.bool true) ∧ ∃ m, w' = wr.drewN m) := hS
        clear hS hx HJ he
        go_wp2_with fail
        refine HS.out.mono ?_
        rintro e w2 ⟨rfl, m, rfl⟩
        go_wp2_with fail
        go_ret
        exact ⟨ret_int (by rw [HF.out]), below_drewN B1 _⟩
      · have HJ2 : Hid (∀ k (hk : k < R.length), k < j + 1 → R[k] ≠ l) := fun k hk h => by
          by_cases e : k = j
          · subst e; exact he
          · exact HJ.out k hk (by omega)
        rw [decide_eq_false he] at hS
        have HS : Hid (Calls Tryz.prog 14 #[.slice xa xn xc, .slice va vn vc] wr fun e w' => e = .returned (.bool false) ∧ ∃ m, w' = wr.drewN m) := hS
        clear hS hx HJ he
        go_wp2_with fail
        refine HS.out.mono ?_
        rintro e w2 ⟨rfl, m, rfl⟩
        go_wp2_with fail
        exact ⟨⟨j + 1, by go_num, by omega, HJ2.out, below_drewN B1 _⟩, by simp [intOf]; omega⟩
    · obtain rfl : j = R.length := by omega
      have HF : Hid (findI R l = R.length) := findI_none (fun k hk => HJ.out k hk hk)
      clear HJ
      go_wp2_with fail
      go_ret
      exact ⟨ret_int (by rw [HF.out]), B1⟩

set_option maxRecDepth 100000 in
set_option maxHeartbeats 1600000 in
theorem rsets_any (es fs : List (List Ir)) (u v : Value) (w : World) (hc : SlLL es u w) (hd : SlLL fs v w) (hl : es.length ≤ 1000000) (_hm : fs.length ≤ 1000000) (hl2 : ∀ l ∈ es, l.length ≤ 100000000) (hm2 : ∀ l ∈ fs, l.length ≤ 100000000) :
    Calls Tryz.prog 23 #[u, v] w fun e w' => e = .returned (.bool (decide (es = fs))) ∧ ∃ m, w' = w.drewN m := by
  obtain ⟨ao, cap, rfl, hc, _⟩ := hc
  obtain ⟨bo, dap, rfl, hd, _⟩ := hd
  by_cases hn : es.length = fs.length
  · have hn' : (es.length : Int) = fs.length := by omega
    rw [← hn]
    go_enter Tryz.func23, Tryz.ntmps23
    go_wp2
    go_loopw [5] (fun i wr => ∃ (j : Nat), i = .int .i64 j ∧ j ≤ es.length ∧ (es = fs ↔ es.drop j = fs.drop j) ∧ ∃ m, wr = w.drewN m) (fun i _ => es.length - (intOf i).toNat)
    case atStart => exact ⟨0, rfl, Nat.zero_le _, by simp, 0, rfl⟩
    case round =>
      obtain ⟨j, rfl, hj, hrel, m0, hm0⟩ := hrel
      have B1 : Below w.heap.size w wr := by rw [hm0]; exact below_drewN (Below.refl _ _) _
      have HM : Hid (wr = w.drewN m0) := hm0
      clear hm0
      by_cases hlt : j < es.length
      · have hlt2 : j < fs.length := by omega
        obtain ⟨b, off, x, rfl, _, c0, c1⟩ := hc.at B1 hlt
        obtain ⟨b2, off2, y, rfl, _, d0, d1⟩ := hd.at B1 hlt2
        have l1 := hl2 _ (List.getElem_mem hlt)
        have l2 := hm2 _ (List.getElem_mem hlt2)
        rw [List.drop_eq_getElem_cons hlt, List.drop_eq_getElem_cons hlt2] at hrel
        generalize es[j] = r at *
        generalize fs[j] = q at *
        simp only [List.cons.injEq] at hrel
        have HN : Hid (es.length = fs.length) := hn
        clear hc hd hn hn' hlt2 hl2 hm2
        by_cases h1 : r = q
        · have HR : Hid (es = fs ↔ es.drop (j + 1) = fs.drop (j + 1)) := by show _ ↔ _; rw [hrel]; exact ⟨fun h => h.2, fun h => ⟨h1, h⟩⟩
          clear hrel
          have hin : ∀ n, Calls Tryz.prog 14 #[x, y] (wr.drewN n) fun e w' => e = .returned (.bool true) ∧ ∃ m, w' = (wr.drewN n).drewN m := fun n => by
            have := rsame_any r q x y (wr.drewN n) c1 d1 l1 l2
            rw [show decide (r = q) = true from by simp [h1]] at this
            exact this
          go_wp2_with fail
          go_quiet ((go_at_call 14; exact Calls.quiet_of (hin _)))
          go_wp2
          exact ⟨⟨j + 1, by go_num, by omega, HR.out, (by rw [HM.out]; exact drewN_two _ _ _)⟩, by simp [intOf]; omega⟩
        · have HR : Hid (¬ es = fs) := by show ¬ _; rw [hrel]; exact fun h => h1 h.1
          clear hrel
          have hin : ∀ n, Calls Tryz.prog 14 #[x, y] (wr.drewN n) fun e w' => e = .returned (.bool false) ∧ ∃ m, w' = (wr.drewN n).drewN m := fun n => by
            have := rsame_any r q x y (wr.drewN n) c1 d1 l1 l2
            rw [show decide (r = q) = false from by simp [h1]] at this
            exact this
          go_wp2_with fail
          go_quiet ((go_at_call 14; exact Calls.quiet_of (hin _)))
          go_wp2
          go_ret
          exact ⟨ret_bool (by simp [HR.out]), (by rw [HM.out]; exact drewN_two _ _ _)⟩
      · have HS : Hid (es = fs) := by
          show _ = _
          rw [hrel, List.drop_of_length_le (by omega), List.drop_of_length_le (by omega)]
        clear hrel hc hd
        go_wp2
        go_ret
        exact ⟨ret_bool (by simp [HS.out]), m0, HM.out⟩
  · have hn' : ¬ (es.length : Int) = fs.length := by omega
    have HS : Hid (¬ es = fs) := fun h => hn (by rw [h])
    have hn2 : ((es.length : Int) != fs.length) = true := by simpa using hn'
    clear hc hd hn
    go_enter Tryz.func23, Tryz.ntmps23
    go_wp2
    go_ret
    exact ⟨ret_bool (by simp [HS.out]), 0, rfl⟩
end Go.Proofs.YtlaplmmicccbcaaGreatDoor
