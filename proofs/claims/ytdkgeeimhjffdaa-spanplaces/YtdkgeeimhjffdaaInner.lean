/- Inner of the program: the place within ranges of the normal form of a byte of the whole. -/
import Derived.Test.YtdkgeeimhjffdaaOuter
namespace Go.Proofs.Ytdkgeeimhjffdaa
open Go.RowKit Go.Shelf
attribute [local go_sem] Oper.semAt_some

/-- How many bytes are below x, from T on; and is x one of them? -/
def innF (x : Int) : Int → List Rg → Int × Bool
  | T, [] => (T, false)
  | T, r :: t => if x < r.1 then (T, false) else if x < r.2 then (T + (x - r.1), true) else innF x (T + (r.2 - r.1)) t

def NoIn (x : Int) (pre : List Pt) : Prop := ∀ y ∈ pre, ¬ x < y.2.1 ∧ ¬ x < y.2.2
def HitIn (x : Int) (pre : List Pt) (v : Int) (o : Bool) : Prop := ∃ pre' y, pre = pre' ++ [y] ∧ NoIn x pre' ∧ ((x < y.2.1 ∧ v = y.1 ∧ o = false) ∨ (¬ x < y.2.1 ∧ x < y.2.2 ∧ v = wrap64 (y.1 + wrap64 (x - y.2.1)) ∧ o = true))
def HitC (N : Nat) (x : Int) (pre : List Pt) (W : World) : Prop := ∃ v o, HitIn x pre v o ∧ OuC N x v o W
theorem NoIn.snoc {x : Int} {pre : List Pt} {y : Pt} (h : NoIn x pre) (hy : ¬ x < y.2.1 ∧ ¬ x < y.2.2) : NoIn x (pre ++ [y]) := fun z hz => by
  rcases List.mem_append.1 hz with k | k
  · exact h z k
  · simp at k; subst k; exact hy
theorem in_go {x : Int} : ∀ {es : List Rg} {T : Int}, NoIn x (partsL T es) → innF x T es = (T + sizeN es, false)
  | [], T, _ => by simp [innF, sizeN]
  | r :: t, T, h => by
    have h1 := h (T, r) (by simp [partsL])
    have h2 := in_go (x := x) (es := t) (T := T + (r.2 - r.1)) (fun y hy => h y (by simp [partsL, hy]))
    simp only at h1
    rw [innF, if_neg h1.1, if_neg h1.2, h2]
    simp only [sizeN, Prod.mk.injEq, and_true]
    omega
theorem in_none {x : Int} {es : List Rg} (h : NoIn x (partsL 0 es)) : innF x 0 es = (sizeN es, false) := by
  rw [in_go h]; simp
theorem in_pre {x : Int} {y : Pt} {es0 : List Rg} (hok : x < y.2.1 ∨ (wrap64 (x - y.2.1) = x - y.2.1 ∧ wrap64 (y.1 + (x - y.2.1)) = y.1 + (x - y.2.1))) {v : Int} {o : Bool} (hy : (x < y.2.1 ∧ v = y.1 ∧ o = false) ∨ (¬ x < y.2.1 ∧ x < y.2.2 ∧ v = wrap64 (y.1 + wrap64 (x - y.2.1)) ∧ o = true)) :
    ∀ {es : List Rg} {T : Int} {pre : List Pt}, NoIn x pre → pre ++ [y] <+: partsL T es → innF x T es = (v, o)
  | [], T, pre, _, h => by simp [partsL] at h
  | r :: t, T, [], _, h => by
    simp only [partsL, List.nil_append] at h
    obtain ⟨rest, hr⟩ := h
    simp at hr
    obtain ⟨rfl, _⟩ := hr
    simp only at hok hy
    rw [innF]
    rcases hy with ⟨h1, rfl, rfl⟩ | ⟨h1, h2, rfl, rfl⟩
    · rw [if_pos h1]
    · rw [if_neg h1, if_pos h2]
      rcases hok with hok | ⟨e1, e2⟩
      · exact absurd hok h1
      · rw [e1, e2]
  | r :: t, T, p :: pre, hn, h => by
    simp only [partsL, List.cons_append] at h
    obtain ⟨rest, hr⟩ := h
    simp at hr
    obtain ⟨rfl, hr⟩ := hr
    have h1 := hn (T, r) (by simp)
    simp only at h1
    rw [innF, if_neg h1.1, if_neg h1.2]
    exact in_pre (es0 := es0) (pre := pre) hok hy (fun z hz => hn z (List.mem_cons_of_mem _ hz)) ⟨rest, by simpa using hr⟩
theorem in_some {x : Int} {es : List Rg} (hf : Fit es) (ho : ∀ r ∈ es, RgOk r) {pre : List Pt} {v : Int} {o : Bool} (hp : pre <+: partsL 0 es) (h : HitIn x pre v o) : innF x 0 es = (v, o) := by
  obtain ⟨pre', y, rfl, hn, hy⟩ := h
  have hy2 : y ∈ partsL 0 es := hp.subset (by simp)
  obtain ⟨k1, k2, k3⟩ := partsL_ok (M := 9223372036854775807) hf (Int.le_refl _) (by have := sizeN_max hf ho; omega) y hy2
  have h0 := hf.1 _ k3
  have h1 := ho _ k3
  unfold RgOk at h1
  refine in_pre (es0 := es) ?_ hy hn hp
  rcases Int.lt_or_le x y.2.1 with hlt | hge
  · exact .inl hlt
  · rcases hy with ⟨h, _⟩ | ⟨_, h2, _⟩
    · omega
    · exact .inr ⟨IntWalk.wrap64_in _ (by omega), IntWalk.wrap64_in _ (by omega)⟩

set_option maxRecDepth 100000 in
set_option maxHeartbeats 2000000 in
theorem inner_in (n : Nat) (hn : 3 ≤ n) (es : List Rg) (ao : Option Addr) (cap : Nat) (x : Int) (w : World) (hc : RgAt es ao w) (hf : Fit es) (ho : ∀ r ∈ es, RgOk r) (hl : es.length ≤ 1000000) :
    CallsIn Fence.wide n Try.prog 23 #[.slice ao es.length cap, .int .i64 x] w fun e w' => e = .returned (.tuple #[.int .i64 (innF x 0 es).1, .bool (innF x 0 es).2]) ∧ Below w.heap.size w w' := by
  have h1 : 1 ≤ n := by omega
  refine callsIn_of_wp_marks Try.func23 rfl trivial ?_ rfl
  simp only [Try.ntmps23, List.size_toArray, List.length_cons, List.length_nil, Nat.reduceAdd, Nat.reduceSub, Array.replicate_succ, Array.replicate_zero, List.push_toArray, List.append_toArray, List.nil_append, List.cons_append]
  gi_wp2_with fail
  refine ⟨trivial, ?_⟩
  refine (callsIn_wide.2 (parts_any _ _ _ _)).mono ?_
  rintro e w1 ⟨rfl, rfl⟩
  gi_wp2
  obtain ⟨W0, hW0⟩ : ∃ W0, (((w.alloc (Obj.cells #[Value.int IntKind.i64 x] 3)).alloc (Obj.cells #[Value.int IntKind.i64 0] 3)).alloc (Obj.cells #[Value.bool false] 4)).alloc (Obj.cells #[.slice ao es.length cap] 22) = W0 := ⟨_, rfl⟩
  obtain ⟨hB0, hsz, hcl, hC0⟩ := ou_start w x _ hW0
  rw [hW0]
  clear hW0
  refine wpIn_rangeFunc_ownH rfl h1 (gf := 41) (lb := #[.pointer (some ⟨w.heap.size + 1 + 1 + 1, 0, none⟩)]) rfl trivial (enters_of Try.func41 (by kernel_rfl) rfl)
    (parts_stops (n - 1) (by omega) w.heap.size (w.heap.size + 1 + 1 + 1) es ao cap hf ho hl W0 (fun i r hi => by obtain ⟨b, off, h, hlt, _⟩ := hc i r hi; exact ⟨b, off, h, hlt⟩) hcl (hc.next hB0))
    Kp29.trans (fun W l o o' hl h hc _ => Kp29.putObj (by omega) h hc o') (Below.refl _ _) (fun _ => rfl)
    (fun pre W => (NoIn x pre ∧ OuC w.heap.size x 0 false W) ∧ Below w.heap.size w W)
    (fun c pre W => (c = .ret ∧ HitC w.heap.size x pre W) ∧ Below w.heap.size w W)
    (OwnFrom.and (Own.from (fun s A B row hs hg hr => ⟨hs.1, hs.2.kept hg hr⟩) _) (ownFrom_below (Nat.le_refl _) (by omega)))
    (fun c => OwnFrom.and (Own.from (fun s A B row hs hg hr => by obtain ⟨h1, v, o, h2, h3⟩ := hs; exact ⟨h1, v, o, h2, h3.kept hg hr⟩) _) (ownFrom_below (Nat.le_refl _) (by omega)))
    ⟨⟨fun _ h => by simp at h, hC0⟩, hB0⟩
    (fun y a' W => ∃ Bx, (W.cell? ⟨Bx, 0, none⟩ = some (.int .i64 y.2.1) ∧ W.cell? ⟨Bx, 1, none⟩ = some (.int .i64 y.2.2)) ∧ a' = { tmps := #[.slice ao es.length cap, .int .i64 x, undef, .pointer (some ⟨w.heap.size, 0, none⟩), .pointer (some ⟨w.heap.size + 1, 0, none⟩), .pointer (some ⟨w.heap.size + 1 + 1, 0, none⟩), .int .i64 y.1, .pointer (some ⟨Bx, 0, none⟩), .slice ao es.length cap, .func (.func 41) #[] #[.pointer (some ⟨w.heap.size + 1 + 1 + 1, 0, none⟩)], .int .i64 y.1, .agg #[.int .i64 y.2.1, .int .i64 y.2.2], undef, undef, undef, undef, undef, undef, undef, undef, undef, undef, undef, undef, undef, undef, undef, undef, undef], defers := [] })
    (fun y a' _ X Y row hs hg hr => by obtain ⟨Bx, ⟨h1, h2⟩, h4⟩ := hs; exact ⟨Bx, ⟨cell_kept h1 hg (fun r e => (hr r e).2), cell_kept h2 hg (fun r e => (hr r e).2)⟩, h4⟩)
    ?assign ?body ?done ?stop
  case assign =>
    rintro l pre y W K ⟨⟨hne, hP⟩, hB⟩ hK
    gi_wp2
    exact hK _ _ ((KeepsOthers.alloc _ _).from _) (Kp29.alloc hB.size _) ⟨⟨hne, hP.alloc _⟩, hB.alloc hB.size _⟩ ⟨W.heap.size, ⟨by go_simp, by go_simp⟩, rfl⟩
  case body =>
    rintro l pre y a' W hl' hr ⟨⟨hne, hP⟩, hB⟩ ⟨Bx, ⟨hb0, hb1⟩, rfl⟩ hlt
    have HP : Hid (OuC w.heap.size x 0 false W) := hP
    obtain ⟨c1, c2, c3, f1, f2⟩ := hP.cells
    have HN : Hid (NoIn x pre) := hne
    have HB : Hid (Below w.heap.size w W) := hB
    clear hne hr hP hB
    by_cases h1 : x < y.2.1
    · gi_wp2
      exact ⟨((KeepsOthers.setCell _ _ _).trans (KeepsOthers.setCell _ _ _)).from _, ⟨rfl, _, _, ⟨pre, y, rfl, HN.out, .inl ⟨h1, rfl, rfl⟩⟩, HP.out.set _ _⟩, (HB.out.setCell (by simp) _).setCell (by simp; omega) _⟩
    · by_cases h2 : x < y.2.2
      · gi_wp2
        exact ⟨((KeepsOthers.setCell _ _ _).trans (KeepsOthers.setCell _ _ _)).from _, ⟨rfl, _, _, ⟨pre, y, rfl, HN.out, .inr ⟨by omega, h2, rfl, rfl⟩⟩, HP.out.set _ _⟩, (HB.out.setCell (by simp) _).setCell (by simp; omega) _⟩
      · gi_wp2
        exact ⟨KeepsFrom.refl _ _, Kp29.refl _ _, ⟨HN.out.snoc ⟨by omega, by omega⟩, HP.out⟩, HB.out⟩
  case done =>
    rintro D ys W hD rfl ⟨⟨hne, hP⟩, hB⟩ hK
    have HE : Hid (innF x 0 es = (sizeN es, false)) := in_none hne
    have hsi := size_any es ao cap W (hc.next hB) hf ho hl
    have hlt2 := hP.lt
    have HP : Hid (OuC w.heap.size x 0 false W) := hP
    have HB : Hid (Below w.heap.size w W) := hB
    clear hne hP hB hc hf ho
    generalize sizeN es = z at *
    gi_wp2_with fail
    refine ⟨trivial, ?_⟩
    refine (callsIn_wide.2 hsi).mono ?_
    rintro e W2 ⟨rfl, hb⟩
    have hP2 : OuC w.heap.size x 0 false W2 := ⟨(hb.block _ (by omega)).trans HP.out.a, (hb.block _ (by omega)).trans HP.out.r, (hb.block _ (by omega)).trans HP.out.o⟩
    have hK1 : W2.heap[D]? = some (.deferred (some [])) := (hb.block D (Array.getElem?_eq_some_iff.1 hK).1).trans hK
    have hB2 : Below w.heap.size w W2 := HB.out.trans (hb.mono HB.out.size)
    obtain ⟨c1, c2, c3, f1, f2⟩ := hP2.cells
    have hK2 : ((W2.setCell ⟨w.heap.size + 1, 0, none⟩ (.int .i64 z)).setCell ⟨w.heap.size + 1 + 1, 0, none⟩ (.bool false)).heap[D]? = some (.deferred (some [])) := ((KeepsOthers.setCell _ _ _).trans (KeepsOthers.setCell _ _ _)).same D _ hK1 rfl
    have hP3 := hP2.set z false
    have hB3 : Below w.heap.size w ((W2.setCell ⟨w.heap.size + 1, 0, none⟩ (.int .i64 z)).setCell ⟨w.heap.size + 1 + 1, 0, none⟩ (.bool false)) := (hB2.setCell (by simp) _).setCell (by simp; omega) _
    clear hsi hb hP2 hK hK1 hB2
    gi_wp2
    generalize (W2.setCell ⟨w.heap.size + 1, 0, none⟩ (.int .i64 z)).setCell ⟨w.heap.size + 1 + 1, 0, none⟩ (.bool false) = W3 at *
    refine ⟨by simp, .inl ⟨_, _, rfl, run_takeDeferred hK2, ?_⟩⟩
    have g := hP3.kept (grownBy_putObj' W3 D (.deferred none)) (fun r e => by cases e; exact ⟨_, hK2, rfl⟩)
    obtain ⟨_, g0, g1, _, _⟩ := g.cells
    refine ⟨.tuple #[.int .i64 z, .bool false], ?_, by rw [HE.out], hB3.trans (belowK_b (w := w) (Nat.le_refl _) W3 D _ _ (by omega) hK2 rfl rfl)⟩
    simp [results, Try.f23, go_sem, g0, g1]
  case stop =>
    rintro D c pre W hD hpre ⟨⟨rfl, v, o, hv, hP⟩, hB⟩ hK
    have HE : Hid (innF x 0 es = (v, o)) := in_some hf ho hpre hv
    gi_wp2
    refine ⟨by simp, .inl ⟨_, _, rfl, run_takeDeferred hK, ?_⟩⟩
    have g := hP.kept (grownBy_putObj' W D (.deferred none)) (fun r e => by cases e; exact ⟨_, hK, rfl⟩)
    obtain ⟨_, g0, g1, _, _⟩ := g.cells
    refine ⟨.tuple #[.int .i64 v, .bool o], ?_, by rw [HE.out], hB.trans (belowK_b (w := w) (Nat.le_refl _) W D _ _ (by omega) hK rfl rfl)⟩
    simp [results, Try.f23, go_sem, g0, g1]

theorem inner_any (es : List Rg) (ao : Option Addr) (cap : Nat) (x : Int) (w : World) (hc : RgAt es ao w) (hf : Fit es) (ho : ∀ r ∈ es, RgOk r) (hl : es.length ≤ 1000000) :
    Calls Try.prog 23 #[.slice ao es.length cap, .int .i64 x] w fun e w' => e = .returned (.tuple #[.int .i64 (innF x 0 es).1, .bool (innF x 0 es).2]) ∧ Below w.heap.size w w' :=
  callsIn_wide.1 (inner_in 3 (Nat.le_refl _) es ao cap x w hc hf ho hl)
end Go.Proofs.Ytdkgeeimhjffdaa
