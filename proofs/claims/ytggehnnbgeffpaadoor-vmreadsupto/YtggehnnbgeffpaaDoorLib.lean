/- The library's functions that vm calls: Itoa, Atoi, IndexAny, Join, by the shelf's contracts; the variables that they read. -/
import Derived.Test.YtggehnnbgeffpaaDoorBase
import Derived.Shelf.Lay
import Derived.Ground.NamesProg
import Derived.Shelf.Strings.IndexAnyAll
import Derived.Shelf.Strconv.AtoiAll
import Derived.Shelf.Strconv.Itoa4
import Derived.Shelf.Strings.OnBuilder
import Derived.Lib.SmallJoins
import Derived.WalkSmall
namespace Go.Proofs.YtggehnnbgeffpaaDoor
open Go.Shelf Go.RowKit Go.Lib Go.Proofs Go.Sort
shelf_lay Lays.n153 Nm 153 at Tryd as Tryd.indexAny
shelf_lay LaysC.n172 Nm 172 at Tryd as Tryd.atoi
shelf_lay LaysM.n171 Nm 171 at Tryd as Tryd.itoa
shelf_lay Lays.n156 Nm 156 at Tryd as Tryd.join

theorem Tryd.gForms : Tryd.prog.globalNamed "bramble/vm.forms" = some 0 := by kernel_rfl
theorem Tryd.gSyn : Tryd.prog.globalNamed "strconv.ErrSyntax" = some 3 := by kernel_rfl
theorem Tryd.gRan : Tryd.prog.globalNamed "strconv.ErrRange" = some 4 := by kernel_rfl
theorem Tryd.gPow : Tryd.prog.globalNamed "internal/strconv.uint64pow10" = some 2 := by kernel_rfl
theorem Tryd.extraJoin : Builder.Extra Tryd.prog Tryd.join_ren where
  sizeBuilder := by kernel_rfl
  liesBuilder := by kernel_rfl
  t5 := Tryd.underlying5
  a5 := Tryd.isAgg5
  z5 := Tryd.sizeOf5
  v5 := Tryd.zeroValue5
  infoByte := by kernel_rfl
  cellsByte := by kernel_rfl
  sizeByte := by kernel_rfl
  neB5 := by decide

/-- The variables that vm reads hold what the program's text lays. -/
structure Vars (w : World) : Prop where
  forms : FormsAt w
  tab : Lib.TabIs Tryd.prog w "internal/strconv.uint64pow10" .u64 Lib.pow10Tab
  syn : ∃ te pe, w.cell? ⟨3, 0, none⟩ = some (.iface te pe)
  ran : ∃ te pe, w.cell? ⟨4, 0, none⟩ = some (.iface te pe)
  lt : 4 < w.heap.size
theorem Vars.nextB {n : Nat} {w w' : World} (h : Vars w) (hn : 4 < n) (hb : Below n w w') : Vars w' where
  forms := h.forms.nextB (by omega) hb
  tab := var?_below hb Tryd.gPow (by omega) h.tab
  syn := by obtain ⟨te, pe, hc⟩ := h.syn; exact ⟨te, pe, (hb.cell (p := ⟨3, 0, none⟩) (by show 3 < n; omega)).trans hc⟩
  ran := by obtain ⟨te, pe, hc⟩ := h.ran; exact ⟨te, pe, (hb.cell (p := ⟨4, 0, none⟩) (by show 4 < n; omega)).trans hc⟩
  lt := Nat.lt_of_lt_of_le h.lt hb.size
theorem Vars.next {w w' : World} (h : Vars w) (hb : Below w.heap.size w w') : Vars w' := h.nextB h.lt hb

theorem below_grow (w : World) (k : Nat) (os : Array Obj) : Below w.heap.size w (grow (w.drewN k) os) :=
  ⟨rfl, rfl, rfl, by simp [grow, World.drewN], fun i hi => by
    show ((w.drewN k).heap ++ os)[i]? = _
    rw [Array.getElem?_append_left (by simpa [World.drewN] using hi)]; rfl⟩
theorem itoa_any (n : Int) (h0 : -9223372036854775808 ≤ n) (h1 : n ≤ 9223372036854775807) (w : World) (hV : Vars w) :
    Calls Tryd.prog 40 #[.int .i64 n] w fun e w' => e = .returned (.string ⟨(Lib.itoa n).toArray⟩) ∧ Below w.heap.size w w' := by
  have h := Any.strconv_Itoa Tryd.itoa n h0 h1 w hV.tab
  change Calls Tryd.prog 40 _ _ _ at h
  refine h.mono ?_
  rintro e w' ⟨rfl, k, os, rfl⟩
  exact ⟨rfl, below_grow _ _ _⟩

/-- Atoi: the number and no error, or some error. -/
theorem atoi_any (s : ByteArray) (hs : s.size ≤ 281474976710656) (w : World) (hV : Vars w) :
    Calls Tryd.prog 71 #[.string s] w fun e w' => (∃ v ev, e = .returned (.tuple #[.int .i64 v, ev]) ∧ ((ev = .nilIface ∧ Lib.atoiAll s.data.toList = .ok v) ∨ ((∃ t p, ev = .iface t p) ∧ ∀ u, Lib.atoiAll s.data.toList ≠ .ok u))) ∧ Below w.heap.size w w' := by
  cases hv : Lib.atoiAll s.data.toList with
  | ok v =>
    have h := Any.strconv_Atoi_ok Tryd.atoi s (by omega) v hv w
    change Calls Tryd.prog 71 _ _ _ at h
    refine h.mono ?_
    rintro e w' ⟨rfl, hw⟩
    refine ⟨⟨v, _, rfl, .inl ⟨rfl, rfl⟩⟩, ?_⟩
    rcases hw with rfl | ⟨t, rfl⟩
    · exact Below.refl _ _
    · exact Lib.bytesWorld_below _ _ _
  | «syntax» =>
    obtain ⟨te, pe, hc⟩ := hV.syn
    have h := Any.strconv_Atoi_syntax Tryd.atoi s hs hv _ w hc (.inr ⟨te, pe, rfl⟩)
    change Calls Tryd.prog 71 _ _ _ at h
    refine h.mono ?_
    rintro e w' ⟨N, rfl, _, _, hb⟩
    exact ⟨⟨_, _, rfl, .inr ⟨⟨_, _, rfl⟩, fun u => by simp⟩⟩, hb⟩
  | range =>
    obtain ⟨te, pe, hc⟩ := hV.ran
    have h := Any.strconv_Atoi_range Tryd.atoi s hs hv _ w hc (.inr ⟨te, pe, rfl⟩)
    change Calls Tryd.prog 71 _ _ _ at h
    refine h.mono ?_
    rintro e w' ⟨N, rfl, _, _, hb⟩
    exact ⟨⟨_, _, rfl, .inr ⟨⟨_, _, rfl⟩, fun u => by simp⟩⟩, hb⟩

theorem join_any (bk o c : Nat) (xs : List ByteArray) (sep : ByteArray) (w : World)
    (hcells : ∀ (j : Nat) x, xs[j]? = some x → w.cell? ⟨bk, o + j, none⟩ = some (.string x))
    (hbk : bk < w.heap.size) (hN : xs.length ≤ 140737488355328) (hcap : xs.length ≤ c)
    (hlen : (Lib.join (xs.map (·.data.toList)) sep.data.toList).length ≤ 140737488355328) :
    Calls Tryd.prog 28 #[.slice (some ⟨bk, o, none⟩) xs.length c, .string sep] w fun e w' => e = .returned (.string ⟨(Lib.join (xs.map (·.data.toList)) sep.data.toList).toArray⟩) ∧ Below w.heap.size w w' :=
  Any.strings_Join Tryd.join Tryd.extraJoin bk o c xs sep w hcells hbk hN hcap hlen

theorem indexAny_ascii (s : ByteArray) (w : World) (hs : s.size < 4294967281) (has : ∀ (j : Nat) b, s.data.toList[j]? = some b → b.toNat < 128) :
    Calls Tryd.prog 51 #[.string s, .string ⟨#[32, 59]⟩] w fun e w' => e = .returned (.int .i64 (Lib.indexAny s.data.toList [32, 59])) ∧ Below w.heap.size w w' :=
  Any.strings_IndexAny_laid Tryd.indexAny (by kernel_rfl) s ⟨#[32, 59]⟩ w hs (by decide) has (fun j b hb => by
    match j, hb with
    | 0, hb => simp at hb; subst hb; decide
    | 1, hb => simp at hb; subst hb; decide
    | j + 2, hb => simp at hb)
theorem Tryd.info116 : (Tryd.prog.info? (Tryd.indexAny_ren.t 116)).map (fun i => (i.zero, i.size)) = some (some (.agg (Array.replicate 256 (.bool false))), 256) := by kernel_rfl
theorem indexAny_long (s : ByteArray) (w : World) (h8 : 8 < s.size) (hs : s.size < 4294967281) :
    Calls Tryd.prog 51 #[.string s, .string ⟨#[32, 59]⟩] w fun e w' => e = .returned (.int .i64 (Lib.indexAny s.data.toList [32, 59])) ∧ Below w.heap.size w w' := by
  have h := Any.strings_IndexAny_long Tryd.indexAny (zero_of_info Tryd.info116).1 (zero_of_info Tryd.info116).2 s ⟨#[32, 59]⟩ w (by decide) h8 hs (by decide) (fun j b hb => by
    match j, hb with
    | 0, hb => simp at hb; subst hb; decide
    | 1, hb => simp at hb; subst hb; decide
    | j + 2, hb => simp at hb)
  change Calls Tryd.prog 51 _ _ _ at h
  refine h.mono ?_
  rintro e w' ⟨rfl, rfl⟩
  exact ⟨rfl, ((Below.refl _ _).alloc (Nat.le_refl _) _).alloc (by simp) _⟩
end Go.Proofs.YtggehnnbgeffpaaDoor
