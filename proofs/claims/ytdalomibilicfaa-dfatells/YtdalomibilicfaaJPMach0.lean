/- Texts joined: PMach0, PMach. -/
import Derived.Test.YtdalomibilicfaaPOne
import Derived.Test.YtdalomibilicfaaMachMath
/- The machine of classes: what lies where while it is made. -/
namespace Go.Proofs.Ytdalomibilicfaa
open Go.RowKit Go.Shelf

def encA3 (x : Ar) : List Value := [.int .i64 x.lo, .int .i64 x.hi, .int .i64 x.tg]
def OwnA (B : Nat) (l : List Ar) (v : Value) (W : World) : Prop := W.ownsRow B 39 3 v l.length (l.flatMap encA3)
def encD2 (p : Ds × Value) : List Value := [p.2, .int .i64 p.1.acc]
/-- States that are done: their row, the rows of their arcs. -/
structure DoneD (B : Nat) (Z : List (Ds × Value)) (dv : Value) (W : World) : Prop where
  row : W.ownsRow B 37 2 dv Z.length (Z.flatMap encD2)
  arcs : ∀ p ∈ Z, OwnA B p.1.arcs p.2 W
/-- A box of a kind that is none of the others'. -/
def boxO (o : Obj) : Prop := ∃ cs t, o = Obj.cells cs t ∧ t ≠ 112 ∧ t ≠ 3 ∧ t ≠ 37 ∧ t ≠ 39
structure MSt (w : World) (fx : List (Nat × Obj)) (o mb : Nat) (sv : Value) (L : List Int) (b8 : Nat) (dv : Value) (Z : List (Ds × Value)) (V : World) : Prop where
  bel : Below w.heap.size w V
  fix : ∀ p ∈ fx, V.heap[p.1]? = some p.2 ∧ w.heap.size ≤ p.1 ∧ p.1 ≠ b8 ∧ boxO p.2
  ord : OrdI w.heap.size o mb sv L V
  dbox : V.heap[b8]? = some (Obj.cells #[dv] 24)
  dlow : w.heap.size ≤ b8
  done : DoneD w.heap.size Z dv V
def MB (fx : List (Nat × Obj)) (o mb : Nat) (sv : Value) (b8 : Nat) (dv : Value) (Z : List (Ds × Value)) (k : Nat) : Prop := (∃ p ∈ fx, p.1 = k) ∨ FtO o mb sv k ∨ k = b8 ∨ dv.ownBlock = some k ∨ ∃ p ∈ Z, p.2.ownBlock = some k
section
variable {w : World} {fx : List (Nat × Obj)} {o mb : Nat} {sv : Value} {L : List Int} {b8 : Nat} {dv : Value} {Z : List (Ds × Value)} {V V' : World}
theorem MSt.but {D : Nat → Prop} (h : MSt w fx o mb sv L b8 dv Z V) (hb : But D V V') (hd : ∀ k, MB fx o mb sv b8 dv Z k → ¬ D k) (hl : ∀ k, D k → w.heap.size ≤ k) : MSt w fx o mb sv L b8 dv Z V' :=
  ⟨below_but h.bel hb (Nat.le_refl _) hl, fun p hp => ⟨but_blk hb (h.fix p hp).1 (hd _ (.inl ⟨p, hp, rfl⟩)), (h.fix p hp).2⟩, h.ord.but hb (fun k hk => hd k (.inr (.inl hk))), but_blk hb h.dbox (hd _ (.inr (.inr (.inl rfl)))), h.dlow,
    ownsRow_keep h.done.row hb (fun k hk => hd k (.inr (.inr (.inr (.inl hk))))), fun p hp => ownsRow_keep (h.done.arcs p hp) hb (fun k hk => hd k (.inr (.inr (.inr (.inr ⟨p, hp, hk⟩)))))⟩
theorem MSt.next (h : MSt w fx o mb sv L b8 dv Z V) (hb : Below V.heap.size V V') : MSt w fx o mb sv L b8 dv Z V' := h.but (D := fun _ => False) (But.of_next hb) (fun _ _ h => h) (fun _ h => h.elim)
theorem MSt.at (h : MSt w fx o mb sv L b8 dv Z V) {k : Nat} (hk : MB fx o mb sv b8 dv Z k) : w.heap.size ≤ k ∧ k < V.heap.size := by
  rcases hk with ⟨p, hp, rfl⟩ | hk | rfl | hk | ⟨p, hp, hk⟩
  · exact ⟨(h.fix p hp).2.1, blk_lt (h.fix p hp).1⟩
  · exact h.ord.low hk
  · exact ⟨h.dlow, blk_lt h.dbox⟩
  · exact World.ownsRow.lt h.done.row k hk
  · exact World.ownsRow.lt (h.done.arcs p hp) k hk
theorem ft_nc {B : Nat} (h : OrdI B o mb sv L V) {k : Nat} {cs : Array Value} {t : TypeId} (hk : V.heap[k]? = some (Obj.cells cs t)) (h1 : t ≠ 112) (h2 : t ≠ 3) : ¬ FtO o mb sv k := by
  intro hf
  rcases hf with rfl | rfl | hf
  · have := h.box
    rw [hk] at this
    simp at this
    exact h1 this.2
  · exact h.map.notCells _ _ _ hk
  · exact own_nb h.row hk (fun e => h2 e.symm) hf
/-- Another thing is met. -/
theorem MSt.meet (h : MSt w fx o mb sv L b8 dv Z V) {sv' : Value} {L' : List Int} (ho : OrdI w.heap.size o mb sv' L' V') (hb : But (FtO o mb sv) V V') : MSt w fx o mb sv' L' b8 dv Z V' := by
  have nc : ∀ {k : Nat} {cs : Array Value} {t : TypeId}, V.heap[k]? = some (Obj.cells cs t) → t ≠ 112 → t ≠ 3 → ¬ FtO o mb sv k := by
    intro k cs t hk h1 h2 hf
    rcases hf with rfl | rfl | hf
    · have := h.ord.box
      rw [hk] at this
      simp at this
      exact h1 this.2
    · exact h.ord.map.notCells _ _ _ hk
    · exact own_nb h.ord.row hk (fun e => h2 e.symm) hf
  refine ⟨below_but h.bel hb (Nat.le_refl _) (fun k hk => (h.ord.low hk).1), fun p hp => ⟨but_blk hb (h.fix p hp).1 ?_, (h.fix p hp).2⟩, ho, but_blk hb h.dbox (nc h.dbox (by decide) (by decide)), h.dlow, ownsRow_keep h.done.row hb (fun k hk => ?_), fun p hp => ownsRow_keep (h.done.arcs p hp) hb (fun k hk => ?_)⟩
  · obtain ⟨cs, t, e, h1, h2, _⟩ := (h.fix p hp).2.2.2
    have h9 := (h.fix p hp).1
    rw [e] at h9
    exact nc h9 h1 h2
  · obtain ⟨cs, hc⟩ := own_is_cells h.done.row hk
    exact nc hc (by decide) (by decide)
  · obtain ⟨cs, hc⟩ := own_is_cells (h.done.arcs p hp) hk
    exact nc hc (by decide) (by decide)
end
/-- What is kept between two things. -/
def MJ (l : List Ds) (c : List Int) (q0 : Int) (w : World) (fx : List (Nat × Obj)) (o b8 : Nat) (A : Nat → Prop) (pre : List Pl) (V : World) : Prop :=
  ∃ mb sv L dv Z, MSt w fx o mb sv L b8 dv Z V ∧ MI l c q0 pre.length L (Z.map Prod.fst) ∧ (∀ k, MB fx o mb sv b8 dv Z k → ¬ A k) ∧ ∀ k, A k → w.heap.size ≤ k ∧ k < V.heap.size
theorem MJ.keep (l : List Ds) (c : List Int) (q0 : Int) (w : World) (fx : List (Nat × Obj)) (o b8 Bo : Nat) (hBo : (Bo, Obj.cells #[.pointer (some ⟨o, 0, none⟩)] 99) ∈ fx) (hn : c.length ≤ 10000) : KeepJ (fun V => FxO w.heap.size o Bo V ∧ ∀ mb sv L, OrdI w.heap.size o mb sv L V → L.length ≤ c.length) (MJ l c q0 w fx o b8) (fun _ _ => False) := by
  refine ⟨?_, ?_, ?_, ?_, ?_, ?_⟩
  · rintro A pre V V' ⟨mb, sv, L, dv, Z, h1, h2, h3, h4⟩ hb
    refine ⟨mb, sv, L, dv, Z, h1.but hb h3 (fun k hk => (h4 k hk).1), h2, fun k hk h => ?_, fun k hk => ?_⟩
    · rcases h with h | h
      · exact h3 k hk h
      · have := (h1.at hk).2; omega
    · have hz := hb.size
      have hw := h1.bel.size
      rcases hk with hk | hk
      · have := h4 k hk; omega
      · omega
  · rintro A pre V k ⟨mb, sv, L, dv, Z, h1, h2, h3, h4⟩ hk
    exact (h4 k hk).2
  · rintro A B pre V ⟨mb, sv, L, dv, Z, h1, h2, h3, h4⟩ hB
    exact ⟨mb, sv, L, dv, Z, h1, h2, fun k hk h => h3 k hk (hB k h), fun k hk => h4 k (hB k hk)⟩
  · rintro A pre V ⟨mb, sv, L, dv, Z, h1, h2, h3, h4⟩
    have hs := h2.small
    refine ⟨⟨(h1.fix _ hBo).1, mb, sv, L, h1.ord, by omega⟩, fun mb' sv' L' h' => ?_⟩
    rw [(h'.one h1.ord).1]
    exact hs
  · intro A B V h; exact h.elim
  · intro A V V' h; exact h.elim
/-- What is kept between two arcs of a state. -/
def NJ (w : World) (fx : List (Nat × Obj)) (o b8 : Nat) (dv : Value) (Z : List (Ds × Value)) (L0 : List Int) (sb S0 : Nat) (ac : Int) (Bs : Nat) (u cv : Value) (V0 : World) (Ao : Nat → Prop) (A : Nat → Prop) (pre : List Ar) (V : World) : Prop :=
  ∃ mb sv av, MSt w fx o mb sv (knownL L0 (pre.map Ar.tg)) b8 dv Z V ∧ V.heap[sb]? = some (Obj.cells #[av, .int .i64 ac] 37) ∧ OwnA S0 (arcsM L0 pre) av V ∧ FxC w u cv ac Bs (Bs + 1) V ∧ But (fun k => ¬ Ao k) V0 V ∧ (∀ k, (MB fx o mb sv b8 dv Z k ∨ k = sb ∨ av.ownBlock = some k ∨ k = Bs ∨ k = Bs + 1 ∨ Ao k) → ¬ A k) ∧ (∀ k, A k → w.heap.size ≤ k ∧ k < V.heap.size) ∧ ∀ k, (MB fx o mb sv b8 dv Z k ∨ k = sb ∨ av.ownBlock = some k) → ¬ Ao k
theorem NJ.keep (w : World) (fx : List (Nat × Obj)) (o b8 : Nat) (dv : Value) (Z : List (Ds × Value)) (L0 : List Int) (sb S0 : Nat) (ac : Int) (Bs : Nat) (u cv : Value) (V0 : World) (Ao : Nat → Prop) (hA : ∀ k, Ao k → k < V0.heap.size) : KeepJ (FxC w u cv ac Bs (Bs + 1)) (NJ w fx o b8 dv Z L0 sb S0 ac Bs u cv V0 Ao) (fun _ _ => False) := by
  refine ⟨?_, ?_, ?_, ?_, ?_, ?_⟩
  · rintro A pre V V' ⟨mb, sv, av, h1, h2, h3, h4, h5, h6, h7, h8⟩ hb
    have hold : ∀ k, (MB fx o mb sv b8 dv Z k ∨ k = sb ∨ av.ownBlock = some k ∨ k = Bs ∨ k = Bs + 1 ∨ Ao k) → k < V.heap.size := by
      intro k hk
      rcases hk with hk | rfl | hk | rfl | rfl | hk
      · exact (h1.at hk).2
      · exact blk_lt h2
      · exact (World.ownsRow.lt h3 k hk).2
      · exact blk_lt h4.2.1
      · exact blk_lt h4.2.2
      · exact Nat.lt_of_lt_of_le (hA k hk) h5.size
    refine ⟨mb, sv, av, h1.but hb (fun k hk => h6 k (.inl hk)) (fun k hk => (h7 k hk).1), but_blk hb h2 (h6 _ (.inr (.inl rfl))), ownsRow_keep h3 hb (fun k hk => h6 k (.inr (.inr (.inl hk)))), ⟨below_but h4.1 hb (Nat.le_refl _) (fun k hk => (h7 k hk).1), but_blk hb h4.2.1 (h6 _ (.inr (.inr (.inr (.inl rfl))))), but_blk hb h4.2.2 (h6 _ (.inr (.inr (.inr (.inr (.inl rfl))))))⟩, h5.trans (hb.mono (fun k _ hk ha => h6 k (.inr (.inr (.inr (.inr (.inr ha))))) hk)), fun k hk h => ?_, fun k hk => ?_, h8⟩
    · rcases h with h | h
      · exact h6 k hk h
      · have := hold k hk; omega
    · have hz := hb.size
      have hw := h1.bel.size
      rcases hk with hk | hk
      · have := h7 k hk; omega
      · omega
  · rintro A pre V k ⟨mb, sv, av, h1, h2, h3, h4, h5, h6, h7, h8⟩ hk
    exact (h7 k hk).2
  · rintro A B pre V ⟨mb, sv, av, h1, h2, h3, h4, h5, h6, h7, h8⟩ hB
    exact ⟨mb, sv, av, h1, h2, h3, h4, h5, fun k hk h => h6 k hk (hB k h), fun k hk => h7 k (hB k hk), h8⟩
  · rintro A pre V ⟨mb, sv, av, h1, h2, h3, h4, h5, h6, h7, h8⟩
    exact h4
  · intro A B V h; exact h.elim
  · intro A V V' h; exact h.elim
theorem addK_len (L : List Int) (k : Int) : (addK L k).length ≤ L.length + 1 := by
  unfold addK
  split
  · omega
  · simp
theorem knownL_len : ∀ (ks L : List Int), (knownL L ks).length ≤ L.length + ks.length
  | [], L => by simp [knownL]
  | k :: ks, L => by
    unfold knownL
    have := knownL_len ks (addK L k)
    have := addK_len L k
    simp only [List.length_cons]
    omega
theorem infoAr : (Try.prog.info? 39).map (fun i => (i.zero, i.size, i.bytes)) = some (some (.agg #[.int .i64 0, .int .i64 0, .int .i64 0]), 3, 24) := by kernel_rfl
theorem infoDs : (Try.prog.info? 37).map (fun i => (i.zero, i.size, i.bytes)) = some (some (.agg #[.slice none 0 0, .int .i64 0]), 2, 32) := by kernel_rfl
theorem new_cell2 (W : World) (x y : Value) (t : TypeId) : ∀ (k : Nat) (u : Value), [x, y][k]? = some u → (W.alloc (Obj.cells #[x, y] t)).cell? ((⟨W.heap.size, 0, none⟩ : Addr).add k) = some u := by
  intro k u hk
  match k, hk with
  | 0, hk => simp at hk; subst hk; rw [add_plain]; simp
  | 1, hk => simp at hk; subst hk; rw [add_plain]; simp
  | k + 2, hk => simp at hk
/-- What cells tell stays where cells stay. -/
theorem SlA.cells {l : List Ar} {v : Value} {W W' : World} (h : SlA l v W) (hz : W.heap.size ≤ W'.heap.size) (hc : ∀ (b k : Nat) (u : Value), W.cell? ⟨b, k, none⟩ = some u → W'.cell? ⟨b, k, none⟩ = some u) : SlA l v W' := by
  obtain ⟨ao, cap, h0, h1, h2⟩ := h
  refine ⟨ao, cap, h0, fun i x hi => ?_, h2⟩
  obtain ⟨b, off, e, hb, c0, c1, c2, h3⟩ := h1 i x hi
  exact ⟨b, off, e, Nat.lt_of_lt_of_le hb hz, hc _ _ _ c0, hc _ _ _ c1, hc _ _ _ c2, h3⟩
theorem SlD.cells {l : List Ds} {v : Value} {W W' : World} (h : SlD l v W) (hz : W.heap.size ≤ W'.heap.size) (hc : ∀ (b k : Nat) (u : Value), W.cell? ⟨b, k, none⟩ = some u → W'.cell? ⟨b, k, none⟩ = some u) : SlD l v W' := by
  obtain ⟨ao, cap, h0, h1, h2⟩ := h
  refine ⟨ao, cap, h0, fun i x hi => ?_, h2⟩
  obtain ⟨b, off, u, e, hb, c0, c1, c2, h3⟩ := h1 i x hi
  exact ⟨b, off, u, e, Nat.lt_of_lt_of_le hb hz, hc _ _ _ c0, hc _ _ _ c1, c2.cells hz hc, h3⟩
theorem cells_put {W : World} {q : Nat} (h : W.heap[q]? = some (.deferred (some []))) : W.heap.size ≤ (W.putObj q (.deferred none)).heap.size ∧ ∀ (b k : Nat) (u : Value), W.cell? ⟨b, k, none⟩ = some u → (W.putObj q (.deferred none)).cell? ⟨b, k, none⟩ = some u := by
  have hb := But.putObj W q (.deferred none)
  refine ⟨hb.size, fun b k u hu => ?_⟩
  refine (hb.cell (p := ⟨b, k, none⟩) (World.block_lt_of_cell? _ _ hu) (fun e => ?_)).trans hu
  simp only at e
  subst e
  simp [World.cell?, h] at hu
theorem own_sla {B : Nat} {l : List Ar} {v : Value} {W : World} (h : OwnA B l v W) (hl : l.length ≤ 1000000) (hb : ∀ x ∈ l, i64B x.lo ∧ i64B x.hi ∧ i64B x.tg) : SlA l v W := by
  rcases Nat.eq_zero_or_pos l.length with h0 | h0
  · obtain rfl := List.eq_nil_of_length_eq_zero h0
    rcases h.2 with ⟨rfl, _⟩ | ⟨g, cap, cur, rfl, _, _, hle, _⟩
    · exact SlA.nil _
    · exact ⟨_, _, rfl, fun i x hi => by simp at hi, fun e => (by cases e), hle, by simp⟩
  · obtain ⟨g, cap, rfl, hg, hc, hx⟩ := own_cells (enc := encA3) (c := 3) (fun x => rfl) h h0
    refine ⟨_, cap, rfl, fun i x hi => ⟨g, 0, rfl, hg, ?_, ?_, ?_, hb x (List.mem_of_getElem? hi)⟩, fun e => (by cases e), hc, by omega⟩
    · have := hx i 0 x _ hi (by omega) rfl; simpa using this
    · have := hx i 1 x _ hi (by omega) rfl; simpa using this
    · have := hx i 2 x _ hi (by omega) rfl; simpa using this
theorem done_sld {B : Nat} {Z : List (Ds × Value)} {dv : Value} {W : World} (h : DoneD B Z dv W) (hl : Z.length ≤ 1000000) (hb : ∀ p ∈ Z, p.1.arcs.length ≤ 1000000 ∧ i64B p.1.acc ∧ ∀ x ∈ p.1.arcs, i64B x.lo ∧ i64B x.hi ∧ i64B x.tg) : SlD (Z.map Prod.fst) dv W := by
  rcases Nat.eq_zero_or_pos Z.length with h0 | h0
  · obtain rfl := List.eq_nil_of_length_eq_zero h0
    rcases h.row.2 with ⟨rfl, _⟩ | ⟨g, cap, cur, rfl, _, _, hle, _⟩
    · exact SlD.nil _
    · exact ⟨_, _, rfl, fun i x hi => by simp at hi, fun e => (by cases e), hle, by simp⟩
  · obtain ⟨g, cap, rfl, hg, hc, hx⟩ := own_cells (enc := encD2) (c := 2) (fun x => rfl) h.row h0
    refine ⟨_, cap, by rw [List.length_map], fun i x hi => ?_, fun e => (by cases e), by rw [List.length_map]; exact hc, by rw [List.length_map]; omega⟩
    rw [List.getElem?_map] at hi
    obtain ⟨p, hp, rfl⟩ := Option.map_eq_some_iff.1 hi
    have hm := List.mem_of_getElem? hp
    obtain ⟨b1, b2, b3⟩ := hb p hm
    refine ⟨g, 0, p.2, rfl, hg, ?_, ?_, own_sla (h.arcs p hm) b1 b3, b2⟩
    · have := hx i 0 p _ hp (by omega) rfl; simpa using this
    · have := hx i 1 p _ hp (by omega) rfl; simpa using this
end Go.Proofs.Ytdalomibilicfaa
/- The machine of classes: machine. -/
namespace Go.Proofs.Ytdalomibilicfaa
open Go.RowKit Go.Shelf
attribute [local go_sem] Oper.semAt_some

theorem load_err {W : World} {a : Addr} {c : Int} (h : W.cell? a = some (.int .i64 c)) : (loadVar 90 a).run Try.prog W = .ok (.int .i64 c) W := by
  simp [go_sem, h]
set_option maxRecDepth 100000 in
set_option maxHeartbeats 8000000 in
theorem machine_any (l : List Ds) (c : List Int) (v cv : Value) (q0 : Int) (Bl Bc Bo : Nat) (w : World) (hl : SlD l v w) (hc : SlI c cv w) (hlen : c.length = l.length) (hn : l.length ≤ 600) (hf : fitD l) (har : ∀ s ∈ l, s.arcs.length ≤ 100000) (hq0 : q0 ∈ c) (hB : ClsB w v cv Bl Bc Bo w) :
    Calls Try.prog 55 #[.int .i64 q0, .func (.func 52) #[] #[.pointer (some ⟨Bo, 0, none⟩)], .func (.func 53) #[] #[.pointer (some ⟨Bo, 0, none⟩), .pointer (some ⟨Bc, 0, none⟩)]] w fun e w' => ∃ dv d L, e = .returned (.tuple #[.agg #[dv], .int .i64 0]) ∧ SlD d dv w' ∧ MI l c q0 L.length L d ∧ Below w.heap.size w w' := by
  have hi64 : ∀ x ∈ c, i64B x := by obtain ⟨_, _, _, _, _, _, h⟩ := hc; exact h
  have C1 := fromI_any q0 (((((w.alloc (Obj.cells #[Value.func (.func 52) #[] #[.pointer (some ⟨Bo, 0, none⟩)]] 85)).alloc (Obj.cells #[Value.func (.func 53) #[] #[.pointer (some ⟨Bo, 0, none⟩), .pointer (some ⟨Bc, 0, none⟩)]] 89)).alloc (Obj.cells #[.slice none 0 0] 24)).alloc (Obj.cells #[.int .i64 0] 90)).alloc (Obj.cells #[.slice none 0 0] 24)) (hi64 q0 hq0)
  have HAC : Hid (∀ (q : Int) (V : World), q ∈ c → Below w.heap.size w V → Calls Try.prog 52 #[.int .i64 q, .pointer (some ⟨Bo, 0, none⟩)] V fun e w' => e = .returned (.int .i64 (accQ l c q)) ∧ Below V.heap.size V w') := fun q V hq hV => accept_any l c v cv q Bl Bc Bo w V hl hc hlen (by omega) hq (hB.next hV)
  have HAR : Hid (∀ (q : Int) (V : World), q ∈ c → Below w.heap.size w V → ∃ u, SlA (arcsD l (idxK c q)) u w ∧ Calls Try.prog 53 #[.int .i64 q, .pointer (some ⟨Bo, 0, none⟩), .pointer (some ⟨Bc, 0, none⟩)] V fun e w' => ∃ Bs, V.heap.size ≤ Bs ∧ e = .returned (.func (.func 67) #[] #[.pointer (some ⟨Bs, 0, none⟩), .pointer (some ⟨Bs + 1, 0, none⟩)]) ∧ Below V.heap.size V w' ∧ w'.heap[Bs]? = some (Obj.cells #[u, .int .i64 (accQ l c q)] 37) ∧ w'.heap[Bs + 1]? = some (Obj.cells #[cv] 57)) := fun q V hq hV => arcs_any l c v cv q Bl Bc Bo w V hl hc hlen (by omega) hq (hB.next hV)
  have HGV : Hid (∀ (q : Int) (u : Value) (Bs n : Nat) (V : World), q ∈ c → SlA (arcsD l (idxK c q)) u w → GivesT n Try.prog 67 #[.pointer (some ⟨Bs, 0, none⟩), .pointer (some ⟨Bs + 1, 0, none⟩)] encC (fun xs _ => xs = runQ l c q) (fun _ _ _ => True) (fun xs => xs <+: runQ l c q) (fun _ => False) (FxC w u cv (accQ l c q) Bs (Bs + 1)) V) := fun q u Bs n V hq hu => classArcs_gives n (arcsD l (idxK c q)) c u cv (accQ l c q) Bs (Bs + 1) w V hu hc (fun x hx => by
    have hil : idxK c q < l.length := by rw [← hlen]; exact idxK_lt hq
    obtain ⟨q1, q3⟩ := hf.at hil
    have := q3 x hx
    obtain ⟨z1, z2, z3⟩ := upA_at q1 hx
    exact ⟨this.1, by omega, z3, z1, z2⟩)
  have HST : Hid (∀ p L d q, MI l c q0 p L d → L[p]? = some q → MI l c q0 (p + 1) (knownL L ((runQ l c q).map Ar.tg)) (d ++ [⟨arcsM L (runQ l c q), accQ l c q⟩])) := fun p L d q h hq => h.step hf hlen hq
  have HRL : Hid (∀ q ∈ c, (runQ l c q).length ≤ 200000 ∧ ∀ x ∈ runQ l c q, x.tg ∈ c) := fun q hq => by
    have hil : idxK c q < l.length := by rw [← hlen]; exact idxK_lt hq
    refine ⟨Nat.le_trans (crun_len _ _ _ _ _) ?_, fun x hx => ((runQ_all hf hlen hq).2.1 x hx).2⟩
    rw [(arcsD_mem hil).1]
    have := har l[idxK c q] (List.getElem_mem hil)
    omega
  have HQ0 : Hid (MI l c q0 0 [q0] []) := MI.start hq0
  have H64 : Hid (∀ x ∈ c, i64B x) := hi64
  have HCN : Hid (c.length ≤ 600) := by show _ ≤ _; omega
  have HSL : Hid (∀ d L, MI l c q0 L.length L d → (∀ s ∈ d, i64B s.acc ∧ ∀ x ∈ s.arcs, i64B x.lo ∧ i64B x.hi ∧ i64B x.tg)) := fun d L h s hs => by
    obtain ⟨i, hi⟩ := List.getElem?_of_mem hs
    have hil := (List.getElem?_eq_some_iff.1 hi).1
    have hil2 : i < L.length := by rw [← h.len]; exact hil
    obtain ⟨e1, e2, e3⟩ := h.st i L[i] hil2 (List.getElem?_eq_getElem hil2)
    have hqc := h.mem L[i] (List.getElem_mem hil2)
    have h9 := arcsD_mem hil
    rw [List.getElem?_eq_getElem hil] at hi
    rw [Option.some.inj hi] at h9
    have hk : idxK c L[i] < l.length := by rw [← hlen]; exact idxK_lt hqc
    obtain ⟨r1, _⟩ := runQ_all hf hlen hqc
    have hsm := h.small
    refine ⟨?_, fun x hx => ?_⟩
    · rw [← h9.2, e2]
      unfold accQ
      rw [(arcsD_mem hk).2]
      obtain ⟨_, _, _, hd0, _⟩ := hl
      obtain ⟨_, _, _, _, _, _, _, _, hac⟩ := hd0.at (Below.refl _ _) hk
      exact hac
    · rw [← h9.1, e1] at hx
      obtain ⟨y, hy, rfl⟩ := List.mem_map.1 hx
      obtain ⟨z1, z2, z3⟩ := upA_at r1 hy
      have hyl := idxK_lt (e3 y hy)
      unfold i64B
      simp only
      omega
  have H5 : Hid ((((((w.alloc (Obj.cells #[Value.func (.func 52) #[] #[.pointer (some ⟨Bo, 0, none⟩)]] 85)).alloc (Obj.cells #[Value.func (.func 53) #[] #[.pointer (some ⟨Bo, 0, none⟩), .pointer (some ⟨Bc, 0, none⟩)]] 89)).alloc (Obj.cells #[.slice none 0 0] 24)).alloc (Obj.cells #[.int .i64 0] 90)).alloc (Obj.cells #[.slice none 0 0] 24)).heap.size = w.heap.size + 5 ∧ Below w.heap.size w (((((w.alloc (Obj.cells #[Value.func (.func 52) #[] #[.pointer (some ⟨Bo, 0, none⟩)]] 85)).alloc (Obj.cells #[Value.func (.func 53) #[] #[.pointer (some ⟨Bo, 0, none⟩), .pointer (some ⟨Bc, 0, none⟩)]] 89)).alloc (Obj.cells #[.slice none 0 0] 24)).alloc (Obj.cells #[.int .i64 0] 90)).alloc (Obj.cells #[.slice none 0 0] 24)) ∧ (((((w.alloc (Obj.cells #[Value.func (.func 52) #[] #[.pointer (some ⟨Bo, 0, none⟩)]] 85)).alloc (Obj.cells #[Value.func (.func 53) #[] #[.pointer (some ⟨Bo, 0, none⟩), .pointer (some ⟨Bc, 0, none⟩)]] 89)).alloc (Obj.cells #[.slice none 0 0] 24)).alloc (Obj.cells #[.int .i64 0] 90)).alloc (Obj.cells #[.slice none 0 0] 24)).heap[w.heap.size]? = some (Obj.cells #[Value.func (.func 52) #[] #[.pointer (some ⟨Bo, 0, none⟩)]] 85) ∧ (((((w.alloc (Obj.cells #[Value.func (.func 52) #[] #[.pointer (some ⟨Bo, 0, none⟩)]] 85)).alloc (Obj.cells #[Value.func (.func 53) #[] #[.pointer (some ⟨Bo, 0, none⟩), .pointer (some ⟨Bc, 0, none⟩)]] 89)).alloc (Obj.cells #[.slice none 0 0] 24)).alloc (Obj.cells #[.int .i64 0] 90)).alloc (Obj.cells #[.slice none 0 0] 24)).heap[w.heap.size + 1]? = some (Obj.cells #[Value.func (.func 53) #[] #[.pointer (some ⟨Bo, 0, none⟩), .pointer (some ⟨Bc, 0, none⟩)]] 89) ∧ (((((w.alloc (Obj.cells #[Value.func (.func 52) #[] #[.pointer (some ⟨Bo, 0, none⟩)]] 85)).alloc (Obj.cells #[Value.func (.func 53) #[] #[.pointer (some ⟨Bo, 0, none⟩), .pointer (some ⟨Bc, 0, none⟩)]] 89)).alloc (Obj.cells #[.slice none 0 0] 24)).alloc (Obj.cells #[.int .i64 0] 90)).alloc (Obj.cells #[.slice none 0 0] 24)).heap[w.heap.size + 1 + 1]? = some (Obj.cells #[.slice none 0 0] 24) ∧ (((((w.alloc (Obj.cells #[Value.func (.func 52) #[] #[.pointer (some ⟨Bo, 0, none⟩)]] 85)).alloc (Obj.cells #[Value.func (.func 53) #[] #[.pointer (some ⟨Bo, 0, none⟩), .pointer (some ⟨Bc, 0, none⟩)]] 89)).alloc (Obj.cells #[.slice none 0 0] 24)).alloc (Obj.cells #[.int .i64 0] 90)).alloc (Obj.cells #[.slice none 0 0] 24)).heap[w.heap.size + 1 + 1 + 1]? = some (Obj.cells #[.int .i64 0] 90) ∧ (((((w.alloc (Obj.cells #[Value.func (.func 52) #[] #[.pointer (some ⟨Bo, 0, none⟩)]] 85)).alloc (Obj.cells #[Value.func (.func 53) #[] #[.pointer (some ⟨Bo, 0, none⟩), .pointer (some ⟨Bc, 0, none⟩)]] 89)).alloc (Obj.cells #[.slice none 0 0] 24)).alloc (Obj.cells #[.int .i64 0] 90)).alloc (Obj.cells #[.slice none 0 0] 24)).heap[w.heap.size + 1 + 1 + 1 + 1]? = some (Obj.cells #[.slice none 0 0] 24)) := by
    refine ⟨by simp, ((((((Below.refl _ _).alloc (Nat.le_refl _) _).alloc (by simp) _).alloc (by simp <;> omega) _).alloc (by simp <;> omega) _).alloc (by simp <;> omega) _), ?_, ?_, ?_, ?_, ?_⟩
    · exact blk_new (blk_new (blk_new (blk_new (heap_alloc_new _ _))))
    · refine blk_new (blk_new (blk_new ?_))
      have := heap_alloc_new (w.alloc (Obj.cells #[Value.func (.func 52) #[] #[.pointer (some ⟨Bo, 0, none⟩)]] 85)) (Obj.cells #[Value.func (.func 53) #[] #[.pointer (some ⟨Bo, 0, none⟩), .pointer (some ⟨Bc, 0, none⟩)]] 89)
      simpa using this
    · refine blk_new (blk_new ?_)
      have := heap_alloc_new ((w.alloc (Obj.cells #[Value.func (.func 52) #[] #[.pointer (some ⟨Bo, 0, none⟩)]] 85)).alloc (Obj.cells #[Value.func (.func 53) #[] #[.pointer (some ⟨Bo, 0, none⟩), .pointer (some ⟨Bc, 0, none⟩)]] 89)) (Obj.cells #[.slice none 0 0] 24)
      simpa using this
    · refine blk_new ?_
      have := heap_alloc_new (((w.alloc (Obj.cells #[Value.func (.func 52) #[] #[.pointer (some ⟨Bo, 0, none⟩)]] 85)).alloc (Obj.cells #[Value.func (.func 53) #[] #[.pointer (some ⟨Bo, 0, none⟩), .pointer (some ⟨Bc, 0, none⟩)]] 89)).alloc (Obj.cells #[.slice none 0 0] 24)) (Obj.cells #[.int .i64 0] 90)
      simpa using this
    · have := heap_alloc_new ((((w.alloc (Obj.cells #[Value.func (.func 52) #[] #[.pointer (some ⟨Bo, 0, none⟩)]] 85)).alloc (Obj.cells #[Value.func (.func 53) #[] #[.pointer (some ⟨Bo, 0, none⟩), .pointer (some ⟨Bc, 0, none⟩)]] 89)).alloc (Obj.cells #[.slice none 0 0] 24)).alloc (Obj.cells #[.int .i64 0] 90)) (Obj.cells #[.slice none 0 0] 24)
      simpa using this
  clear hl hc hf har hB hi64 hq0 hlen
  refine (callsIn_wide (n := 20)).1 ?_
  refine callsIn_of_wp_marks Try.func55 rfl trivial ?_ rfl
  simp only [Try.ntmps55, List.size_toArray, List.length_cons, List.length_nil, Nat.reduceAdd, Nat.reduceSub, Array.replicate_succ, Array.replicate_zero, List.push_toArray, List.append_toArray, List.nil_append, List.cons_append]
  gi_wp2_with fail
  refine ⟨trivial, (callsIn_wide.2 C1).mono ?_⟩
  rintro e w6 ⟨o, mb0, sv0, rfl, hO, hb6⟩
  clear C1
  generalize (((((w.alloc (Obj.cells #[Value.func (.func 52) #[] #[.pointer (some ⟨Bo, 0, none⟩)]] 85)).alloc (Obj.cells #[Value.func (.func 53) #[] #[.pointer (some ⟨Bo, 0, none⟩), .pointer (some ⟨Bc, 0, none⟩)]] 89)).alloc (Obj.cells #[.slice none 0 0] 24)).alloc (Obj.cells #[.int .i64 0] 90)).alloc (Obj.cells #[.slice none 0 0] 24)) = w5 at *
  have H6 : Hid (OrdI w.heap.size o mb0 sv0 [q0] w6 ∧ Below w.heap.size w w6 ∧ w.heap.size + 5 ≤ w6.heap.size ∧ w6.heap[w.heap.size]? = some (Obj.cells #[Value.func (.func 52) #[] #[.pointer (some ⟨Bo, 0, none⟩)]] 85) ∧ w6.heap[w.heap.size + 1]? = some (Obj.cells #[Value.func (.func 53) #[] #[.pointer (some ⟨Bo, 0, none⟩), .pointer (some ⟨Bc, 0, none⟩)]] 89) ∧ w6.heap[w.heap.size + 1 + 1]? = some (Obj.cells #[.slice none 0 0] 24) ∧ w6.heap[w.heap.size + 1 + 1 + 1]? = some (Obj.cells #[.int .i64 0] 90) ∧ w6.heap[w.heap.size + 1 + 1 + 1 + 1]? = some (Obj.cells #[.slice none 0 0] 24)) := by
    obtain ⟨z0, z1, y1, y2, y3, y4, y5⟩ := H5.out
    have hs6 := hb6.size
    refine ⟨⟨hO.box, hO.map, own_mono hO.row z1.size, Nat.le_trans z1.size hO.lo, Nat.le_trans z1.size hO.lm⟩, z1.trans (hb6.mono z1.size), by omega, (hb6.block _ (blk_lt y1)).trans y1, (hb6.block _ (blk_lt y2)).trans y2, (hb6.block _ (blk_lt y3)).trans y3, (hb6.block _ (blk_lt y4)).trans y4, (hb6.block _ (blk_lt y5)).trans y5⟩
  have C2 := all_any o (w6.alloc (Obj.cells #[.pointer (some ⟨o, 0, none⟩)] 99))
  have H7 : Hid ((w6.alloc (Obj.cells #[.pointer (some ⟨o, 0, none⟩)] 99)).heap.size = w6.heap.size + 1 ∧ Below w6.heap.size w6 (w6.alloc (Obj.cells #[.pointer (some ⟨o, 0, none⟩)] 99)) ∧ (w6.alloc (Obj.cells #[.pointer (some ⟨o, 0, none⟩)] 99)).heap[w6.heap.size]? = some (Obj.cells #[.pointer (some ⟨o, 0, none⟩)] 99)) := ⟨by simp, below_box _ _ _, heap_alloc_new _ _⟩
  clear hO hb6 H5
  gi_wp2_with fail
  refine ⟨trivial, (callsIn_wide.2 C2).mono ?_⟩
  rintro e w8 ⟨rfl, hw8⟩
  clear C2
  generalize w6.alloc (Obj.cells #[.pointer (some ⟨o, 0, none⟩)] 99) = w7 at *
  have HW8 : Hid (w8.heap.size = w7.heap.size + 1 ∧ Below w7.heap.size w7 w8 ∧ w8.heap[w7.heap.size]? = some (Obj.cells #[.pointer (some ⟨o, 0, none⟩)] 99)) := by
    rw [hw8]
    exact ⟨by simp, below_box _ _ _, heap_alloc_new _ _⟩
  clear hw8
  obtain ⟨fx, hfx⟩ : ∃ fx : List (Nat × Obj), fx = [(w.heap.size, Obj.cells #[Value.func (.func 52) #[] #[.pointer (some ⟨Bo, 0, none⟩)]] 85), (w.heap.size + 1, Obj.cells #[Value.func (.func 53) #[] #[.pointer (some ⟨Bo, 0, none⟩), .pointer (some ⟨Bc, 0, none⟩)]] 89), (w.heap.size + 1 + 1, Obj.cells #[.slice none 0 0] 24), (w.heap.size + 1 + 1 + 1, Obj.cells #[.int .i64 0] 90), (w6.heap.size, Obj.cells #[.pointer (some ⟨o, 0, none⟩)] 99), (w7.heap.size, Obj.cells #[.pointer (some ⟨o, 0, none⟩)] 99)] := ⟨_, rfl⟩
  have HM : Hid (MSt w fx o mb0 sv0 [q0] (w.heap.size + 1 + 1 + 1 + 1) (.slice none 0 0) [] w8) := by
    obtain ⟨x1, x2, x3, y1, y2, y3, y4, y5⟩ := H6.out
    obtain ⟨s7, b7, k7⟩ := H7.out
    obtain ⟨s8, b8, k8⟩ := HW8.out
    have b68 : Below w6.heap.size w6 w8 := b7.trans (b8.mono b7.size)
    have up : ∀ {k ob}, w6.heap[k]? = some ob → w8.heap[k]? = some ob := fun h => (b68.block _ (blk_lt h)).trans h
    refine ⟨x2.trans (b68.mono x2.size), fun p hp => ?_, x1.next b68, up y5, by omega, World.ownsRow_nil _ _ _ _, fun p hp => (by cases hp)⟩
    rw [hfx] at hp
    simp only [List.mem_cons, List.not_mem_nil, or_false] at hp
    rcases hp with rfl | rfl | rfl | rfl | rfl | rfl
    · exact ⟨up y1, Nat.le_refl _, by simp only; omega, _, _, rfl, by decide, by decide, by decide, by decide⟩
    · exact ⟨up y2, by simp only; omega, by simp only; omega, _, _, rfl, by decide, by decide, by decide, by decide⟩
    · exact ⟨up y3, by simp only; omega, by simp only; omega, _, _, rfl, by decide, by decide, by decide, by decide⟩
    · exact ⟨up y4, by simp only; omega, by simp only; omega, _, _, rfl, by decide, by decide, by decide, by decide⟩
    · exact ⟨(b8.block _ (blk_lt k7)).trans k7, by simp only; omega, by simp only; omega, _, _, rfl, by decide, by decide, by decide, by decide⟩
    · exact ⟨k8, by simp only; omega, by simp only; omega, _, _, rfl, by decide, by decide, by decide, by decide⟩
  have HFX : Hid ((w.heap.size, Obj.cells #[Value.func (.func 52) #[] #[.pointer (some ⟨Bo, 0, none⟩)]] 85) ∈ fx ∧ (w.heap.size + 1, Obj.cells #[Value.func (.func 53) #[] #[.pointer (some ⟨Bo, 0, none⟩), .pointer (some ⟨Bc, 0, none⟩)]] 89) ∈ fx ∧ (w.heap.size + 1 + 1, Obj.cells #[.slice none 0 0] 24) ∈ fx ∧ (w.heap.size + 1 + 1 + 1, Obj.cells #[.int .i64 0] 90) ∈ fx ∧ (w6.heap.size, Obj.cells #[.pointer (some ⟨o, 0, none⟩)] 99) ∈ fx ∧ (w7.heap.size, Obj.cells #[.pointer (some ⟨o, 0, none⟩)] 99) ∈ fx) := by
    show _ ∧ _
    rw [hfx]
    simp
  have HS8 : Hid (w.heap.size + 5 ≤ w8.heap.size) := by
    have := H6.out.2.2.1
    have := H7.out.1
    have := HW8.out.1
    show _ ≤ _
    omega
  clear hfx H6 H7 HW8
  gi_wp2_with fail
  refine wpIn_range_O (α := Pl) (by omega) (gf := 70) (lb := #[.pointer (some ⟨w7.heap.size, 0, none⟩)]) rfl (enters_of Try.func70 (by kernel_rfl) rfl) (encs := encPl) (S := allPl w.heap.size o) (Ok := okPl w.heap.size o) (Pf := fun xs => pfPl xs) (A0 := fun _ => False) (Fx := fun V => FxO w.heap.size o w7.heap.size V ∧ ∀ mb sv L, OrdI w.heap.size o mb sv L V → L.length ≤ c.length) (fun _ => rfl) (fun q hq => hq.elim) (fun V _ => all_gives _ _ _ _ _ V)
    (fun A x W W' k r h hk hb => ⟨h.1, h.2.imp fun mb h => h.imp fun sv h => h.loop hk hb⟩) (fun xs W W' r h hk hb => ⟨h.1, h.2.imp fun mb h => h.imp fun sv h => h.imp fun L h => ⟨h.1.loop hk hb, h.2⟩⟩)
    (MJ l c q0 w fx o (w.heap.size + 1 + 1 + 1 + 1)) (fun _ _ => False) (MJ.keep l c q0 w fx o _ w7.heap.size HFX.out.2.2.2.2.2 (by have := HCN.out; omega)) (fun V h1 h2 => ?init)
    (fun x a' => a' = { tmps := #[Value.int .i64 q0, Value.func (.func 52) #[] #[.pointer (some ⟨Bo, 0, none⟩)], Value.func (.func 53) #[] #[.pointer (some ⟨Bo, 0, none⟩), .pointer (some ⟨Bc, 0, none⟩)], undef, Value.pointer (some ⟨w.heap.size, 0, none⟩), Value.pointer (some ⟨w.heap.size + 1, 0, none⟩), Value.pointer (some ⟨w.heap.size + 1 + 1, 0, none⟩), Value.pointer (some ⟨w.heap.size + 1 + 1 + 1, 0, none⟩), Value.pointer (some ⟨w.heap.size + 1 + 1 + 1 + 1, 0, none⟩), Value.pointer (some ⟨w6.heap.size, 0, none⟩), Value.int .i64 (x.2.getD x.1 0), undef, undef, undef, Value.int .i64 q0, Value.pointer (some ⟨o, 0, none⟩), Value.pointer (some ⟨o, 0, none⟩), Value.func (.func 70) #[] #[.pointer (some ⟨w7.heap.size, 0, none⟩)], Value.int .i64 (x.2.getD x.1 0), undef, undef, undef, undef, undef, undef, undef, undef, undef, undef, undef, undef, undef, undef, undef, undef, undef, undef, undef, undef, undef, undef, undef, undef, undef, undef, undef, undef, undef, undef, undef, undef, undef], defers := [] })
    ?assign ?body ?done (fun V h => h.elim)
  case init =>
    have h8 := HS8.out
    refine ⟨mb0, sv0, [q0], .slice none 0 0, [], HM.out.next h1, HQ0.out, fun k hk h => ?_, fun k hk => ?_⟩
    · have := (HM.out.at hk).2
      rcases h with h | h | h
      · exact h
      · omega
      · omega
    · rcases hk with h | h | h
      · exact h.elim
      · omega
      · omega
  case assign =>
    intro l' x V K hK
    simp only [encPl]
    have HK : Hid _ := hK
    clear hK
    gi_wp2_with fail
    exact HK.out _ rfl
  case body =>
    rintro l' A' pre x a' V hl' ⟨r0, hr0⟩ hI rfl hOk hPf
    obtain ⟨mb, sv, L, dv, Z, m1, m2, m3, m4⟩ := hI
    obtain ⟨ok1, mb', sv', ok2⟩ := hOk
    obtain ⟨p, L'⟩ := x
    simp only at ok1 ok2
    obtain ⟨rfl, _, _⟩ := ok2.one m1.ord
    have hp : p = pre.length := hPf pre.length (p, L') (by simp)
    subst hp
    obtain ⟨q, hq⟩ : ∃ q, L'[pre.length]? = some q := ⟨_, List.getElem?_eq_getElem ok1⟩
    have hgd : L'.getD pre.length 0 = q := by simp [List.getD, hq]
    simp only [hgd]
    have hqc : q ∈ c := m2.mem q (List.mem_of_getElem? hq)
    have hbV := m1.bel.size
    have HAc := HAC.out q V hqc m1.bel
    have HMI : Hid (MI l c q0 (pre.length + 1) (knownL L' ((runQ l c q).map Ar.tg)) (Z.map Prod.fst ++ [⟨arcsM L' (runQ l c q), accQ l c q⟩])) := HST.out _ _ _ _ m2 hq
    have c4 : V.cell? ⟨w.heap.size, 0, none⟩ = some (Value.func (.func 52) #[] #[.pointer (some ⟨Bo, 0, none⟩)]) := by rw [Lib.cell_of_heap (m1.fix _ HFX.out.1).1]; rfl
    have HM1 : Hid (MSt w fx o mb sv L' (w.heap.size + 1 + 1 + 1 + 1) dv Z V ∧ (∀ k, MB fx o mb sv (w.heap.size + 1 + 1 + 1 + 1) dv Z k → ¬ (fun k => A' k ∨ k = w8.heap.size ∨ k = w8.heap.size + 1) k) ∧ (∀ k, (fun k => A' k ∨ k = w8.heap.size ∨ k = w8.heap.size + 1) k → w.heap.size ≤ k ∧ k < V.heap.size) ∧ V.heap[l']? = some (.loop r0) ∧ (fun k => A' k ∨ k = w8.heap.size ∨ k = w8.heap.size + 1) l') := ⟨m1, m3, m4, hr0, by rw [hl']; exact .inr (.inr rfl)⟩
    have hLs : L'.length ≤ 600 := Nat.le_trans m2.small HCN.out
    have hZl : Z.length ≤ 600 := by have h1 := m2.len; have h2 := m2.le; simp at h1; omega
    clear m1 m2 m3 m4 ok1 ok2 hPf hgd hr0 HST HQ0 HAC HM hl'
    have HAr := HAR.out q
    have HGq := HGV.out q
    have HRq := HRL.out q hqc
    clear HAR HGV HRL
    generalize accQ l c q = a at *
    gi_wp2_with fail
    refine ⟨trivial, (callsIn_wide.2 HAc).mono ?_⟩
    rintro e V1 ⟨rfl, hb1⟩
    clear HAc
    have b12 : Below V1.heap.size V1 (V1.alloc (Obj.cells #[.slice none 0 0, .int .i64 a] 37)) := below_box2 _ _ _ _
    have bV2 : Below V.heap.size V (V1.alloc (Obj.cells #[.slice none 0 0, .int .i64 a] 37)) := hb1.trans (b12.mono hb1.size)
    obtain ⟨u, hu, C3⟩ := HAr (V1.alloc (Obj.cells #[.slice none 0 0, .int .i64 a] 37)) hqc (HM1.out.1.bel.trans (bV2.mono HM1.out.1.bel.size))
    have HV2 : Hid (Below V.heap.size V (V1.alloc (Obj.cells #[.slice none 0 0, .int .i64 a] 37)) ∧ (V1.alloc (Obj.cells #[.slice none 0 0, .int .i64 a] 37)).heap[V1.heap.size]? = some (Obj.cells #[.slice none 0 0, .int .i64 a] 37) ∧ V.heap.size ≤ V1.heap.size) := ⟨bV2, heap_alloc_new _ _, hb1.size⟩
    have HGu : Hid (∀ Bs n V, GivesT n Try.prog 67 #[.pointer (some ⟨Bs, 0, none⟩), .pointer (some ⟨Bs + 1, 0, none⟩)] encC (fun xs _ => xs = runQ l c q) (fun _ _ _ => True) (fun xs => xs <+: runQ l c q) (fun _ => False) (FxC w u cv a Bs (Bs + 1)) V) := fun Bs n V => HGq u Bs n V hqc hu
    have c5 : (V1.alloc (Obj.cells #[.slice none 0 0, .int .i64 a] 37)).cell? ⟨w.heap.size + 1, 0, none⟩ = some (Value.func (.func 53) #[] #[.pointer (some ⟨Bo, 0, none⟩), .pointer (some ⟨Bc, 0, none⟩)]) := by rw [Lib.cell_of_heap ((bV2.block _ (blk_lt (HM1.out.1.fix _ HFX.out.2.1).1)).trans (HM1.out.1.fix _ HFX.out.2.1).1)]; rfl
    have c5' : V1.cell? ⟨w.heap.size + 1, 0, none⟩ = some (Value.func (.func 53) #[] #[.pointer (some ⟨Bo, 0, none⟩), .pointer (some ⟨Bc, 0, none⟩)]) := by rw [Lib.cell_of_heap ((hb1.block _ (blk_lt (HM1.out.1.fix _ HFX.out.2.1).1)).trans (HM1.out.1.fix _ HFX.out.2.1).1)]; rfl
    clear hb1 b12 bV2 HAr HGq c4 hu
    gi_wp2_with fail
    refine ⟨trivial, (callsIn_wide.2 C3).mono ?_⟩
    rintro e V3 ⟨Bs, hBs, rfl, hb3, k1, k2⟩
    clear C3 c5 c5'
    generalize V1.alloc (Obj.cells #[.slice none 0 0, .int .i64 a] 37) = V2 at *
    have HV3 : Hid (Below V.heap.size V V3 ∧ V3.heap[V1.heap.size]? = some (Obj.cells #[.slice none 0 0, .int .i64 a] 37) ∧ V.heap.size ≤ V1.heap.size ∧ V1.heap.size < V2.heap.size ∧ V2.heap.size ≤ Bs ∧ V3.heap[Bs]? = some (Obj.cells #[u, .int .i64 a] 37) ∧ V3.heap[Bs + 1]? = some (Obj.cells #[cv] 57)) := by
      obtain ⟨z1, z2, z3⟩ := HV2.out
      exact ⟨z1.trans (hb3.mono z1.size), (hb3.block _ (blk_lt z2)).trans z2, z3, blk_lt z2, hBs, k1, k2⟩
    clear HV2 hb3 k1 k2 hBs
    gi_wp2_with fail
    have hl3 : V3.heap[l']? = some (.loop r0) := by
      obtain ⟨_, _, _, z4, _⟩ := HM1.out
      exact (HV3.out.1.block _ (blk_lt z4)).trans z4
    refine wpIn_range_N (α := Ar) (by omega) hl3 (gf := 67) (lb := #[.pointer (some ⟨Bs, 0, none⟩), .pointer (some ⟨Bs + 1, 0, none⟩)]) rfl (enters_of Try.func67 (by kernel_rfl) rfl) (encs := encC) (S := fun xs _ => xs = runQ l c q) (Ok := fun _ => True) (Pf := fun xs => xs <+: runQ l c q) (A0 := fun _ => False) (Fx := FxC w u cv a Bs (Bs + 1)) (fun _ => rfl) (fun q hq => hq.elim) (fun V _ => HGu.out _ _ V) (fun ys V V' h1 _ => h1)
      (NJ w fx o (w.heap.size + 1 + 1 + 1 + 1) dv Z L' V1.heap.size V3.heap.size a Bs u cv V (fun k => A' k ∨ k = w8.heap.size ∨ k = w8.heap.size + 1)) (fun _ _ => False) (NJ.keep _ _ _ _ _ _ _ _ _ _ _ _ _ _ _ (fun k hk => (HM1.out.2.2.1 k hk).2)) (fun W h1 h2 => ?init)
      (fun y a' W s s' => ∃ xb, (s ≤ xb ∧ xb < s') ∧ W.heap[xb]? = some (Obj.cells #[.int .i64 y.lo, .int .i64 y.hi, .int .i64 0] 39) ∧ a' = { tmps := #[Value.int .i64 q0, Value.func (.func 52) #[] #[.pointer (some ⟨Bo, 0, none⟩)], Value.func (.func 53) #[] #[.pointer (some ⟨Bo, 0, none⟩), .pointer (some ⟨Bc, 0, none⟩)], undef, Value.pointer (some ⟨w.heap.size, 0, none⟩), Value.pointer (some ⟨w.heap.size + 1, 0, none⟩), Value.pointer (some ⟨w.heap.size + 1 + 1, 0, none⟩), Value.pointer (some ⟨w.heap.size + 1 + 1 + 1, 0, none⟩), Value.pointer (some ⟨w.heap.size + 1 + 1 + 1 + 1, 0, none⟩), Value.pointer (some ⟨w6.heap.size, 0, none⟩), Value.int .i64 q, Value.pointer (some ⟨V1.heap.size, 0, none⟩), Value.pointer (some ⟨xb, 0, none⟩), Value.int .i64 y.tg, Value.int .i64 q0, Value.pointer (some ⟨o, 0, none⟩), Value.pointer (some ⟨o, 0, none⟩), Value.func (.func 70) #[] #[.pointer (some ⟨w7.heap.size, 0, none⟩)], Value.int .i64 q, Value.func (.func 52) #[] #[.pointer (some ⟨Bo, 0, none⟩)], Value.int .i64 q, Value.int .i64 a, Value.agg #[.slice none 0 0, .int .i64 a], Value.func (.func 53) #[] #[.pointer (some ⟨Bo, 0, none⟩), .pointer (some ⟨Bc, 0, none⟩)], Value.int .i64 q, Value.func (.func 67) #[] #[.pointer (some ⟨Bs, 0, none⟩), .pointer (some ⟨Bs + 1, 0, none⟩)], Value.agg #[.int .i64 y.lo, .int .i64 y.hi, .int .i64 0], Value.int .i64 y.tg, undef, undef, undef, undef, undef, undef, undef, undef, undef, undef, undef, undef, undef, undef, undef, undef, undef, undef, undef, undef, undef, undef, undef, undef], defers := [] })
      ?assign ?ibody ?idone
    case init =>
      obtain ⟨n1, n2, n3, n4, n5⟩ := HM1.out
      obtain ⟨z1, z2, z3, z4, z5, z6, z7⟩ := HV3.out
      have bW : Below V.heap.size V W := z1.trans (h1.mono z1.size)
      have hw := n1.bel.size
      have hk := blk_lt z6
      have hk' := blk_lt z7
      have hz1 := z1.size
      refine ⟨mb, sv, .slice none 0 0, n1.next bW, (h1.block _ (blk_lt z2)).trans z2, World.ownsRow_nil _ _ _ _, ⟨n1.bel.trans (bW.mono n1.bel.size), (h1.block _ hk).trans z6, (h1.block _ hk').trans z7⟩, But.of_next bW, fun k hk9 h => ?_, fun k hk9 => ?_, fun k hk9 hAo => ?_⟩
      · have hk3 : k < V3.heap.size := by
          rcases hk9 with h9 | rfl | h9 | rfl | rfl | h9
          · have := (n1.at h9).2; omega
          · exact blk_lt z2
          · cases h9
          · exact hk
          · exact hk'
          · have := (n3 k h9).2; omega
        rcases h with h | h
        · exact h
        · omega
      · rcases hk9 with h | h
        · exact h.elim
        · omega
      · rcases hk9 with h9 | rfl | h9
        · exact n2 k h9 hAo
        · have := (n3 _ hAo).2; omega
        · cases h9
    case assign =>
      intro l'' y W K hW hK
      simp only [encC]
      gi_wp2_with fail
      exact hK _ _ ((Below.refl _ _).alloc (Nat.le_refl _) _) (fun W2 h2 => ⟨W.heap.size, ⟨Nat.le_refl _, by simp⟩, but_blk h2 (heap_alloc_new _ _) (fun e => by omega), rfl⟩)
    case ibody =>
      rintro l'' A'' pre2 y a' W s s' hAs hJ ⟨xb, hxs, hxb, rfl⟩ _ hPf
      obtain ⟨mb2, sv2, av, n1, n2, n3, n4, n5, n6, n7, n8⟩ := hJ
      have hyr : y ∈ runQ l c q := hPf.subset (by simp)
      have hy64 := H64.out y.tg (HRq.2 y hyr)
      have hpl : pre2.length + 1 ≤ 200000 := by have := hPf.length_le; have := HRq.1; simp at *; omega
      have hLk : (knownL L' (pre2.map Ar.tg)).length ≤ 300000 := by have := knownL_len (pre2.map Ar.tg) L'; simp at this; omega
      have C4 := meetI_any w.heap.size o mb2 sv2 (knownL L' (pre2.map Ar.tg)) y.tg W n1.ord hy64 (by omega)
      have c9 : W.cell? ⟨w6.heap.size, 0, none⟩ = some (.pointer (some ⟨o, 0, none⟩)) := by rw [Lib.cell_of_heap (n1.fix _ HFX.out.2.2.2.2.1).1]; rfl
      have HN : Hid (MSt w fx o mb2 sv2 (knownL L' (pre2.map Ar.tg)) (w.heap.size + 1 + 1 + 1 + 1) dv Z W ∧ W.heap[V1.heap.size]? = some (Obj.cells #[av, .int .i64 a] 37) ∧ OwnA V3.heap.size (arcsM L' pre2) av W ∧ FxC w u cv a Bs (Bs + 1) W ∧ But (fun k => ¬ (fun k => A' k ∨ k = w8.heap.size ∨ k = w8.heap.size + 1) k) V W ∧ (∀ k, (MB fx o mb2 sv2 (w.heap.size + 1 + 1 + 1 + 1) dv Z k ∨ k = V1.heap.size ∨ av.ownBlock = some k ∨ k = Bs ∨ k = Bs + 1 ∨ (fun k => A' k ∨ k = w8.heap.size ∨ k = w8.heap.size + 1) k) → ¬ (fun k => (A'' k ∨ k = V3.heap.size) ∨ (s ≤ k ∧ k < s')) k) ∧ (∀ k, (fun k => (A'' k ∨ k = V3.heap.size) ∨ (s ≤ k ∧ k < s')) k → w.heap.size ≤ k ∧ k < W.heap.size) ∧ (∀ k, (MB fx o mb2 sv2 (w.heap.size + 1 + 1 + 1 + 1) dv Z k ∨ k = V1.heap.size ∨ av.ownBlock = some k) → ¬ (fun k => A' k ∨ k = w8.heap.size ∨ k = w8.heap.size + 1) k) ∧ W.heap[xb]? = some (Obj.cells #[.int .i64 y.lo, .int .i64 y.hi, .int .i64 0] 39) ∧ (s ≤ xb ∧ xb < s') ∧ ∀ k, (fun k => A'' k ∨ k = V3.heap.size) k → k < s) := ⟨n1, n2, n3, n4, n5, n6, n7, n8, hxb, hxs, hAs⟩
      clear n1 n2 n3 n4 n5 n6 n7 n8 hxb hxs hAs hyr hPf HGu HMI hl3
      gi_wp2_with fail
      refine ⟨trivial, (callsIn_wide.2 C4).mono ?_⟩
      rintro e W1 ⟨rfl, sv3, hO3, hB3, hat3⟩
      clear C4 c9
      have HIX : Hid (arcsM L' (pre2 ++ [y]) = arcsM L' pre2 ++ [⟨y.lo, y.hi, idxK (addK (knownL L' (pre2.map Ar.tg)) y.tg) y.tg⟩] ∧ knownL L' ((pre2 ++ [y]).map Ar.tg) = addK (knownL L' (pre2.map Ar.tg)) y.tg) := ⟨arcsM_snoc _ _ _, by rw [List.map_append]; exact knownL_snoc _ _ _⟩
      have hML : (arcsM L' pre2).length ≤ 200000 := by rw [arcsM_len]; omega
      have HW1 : Hid (MSt w fx o mb2 sv3 (addK (knownL L' (pre2.map Ar.tg)) y.tg) (w.heap.size + 1 + 1 + 1 + 1) dv Z W1 ∧ W1.heap[V1.heap.size]? = some (Obj.cells #[av, .int .i64 a] 37) ∧ OwnA V3.heap.size (arcsM L' pre2) av W1 ∧ FxC w u cv a Bs (Bs + 1) W1 ∧ But (fun k => ¬ (fun k => A' k ∨ k = w8.heap.size ∨ k = w8.heap.size + 1) k) V W1 ∧ (∀ k, (MB fx o mb2 sv3 (w.heap.size + 1 + 1 + 1 + 1) dv Z k ∨ k = V1.heap.size ∨ av.ownBlock = some k ∨ k = Bs ∨ k = Bs + 1 ∨ (fun k => A' k ∨ k = w8.heap.size ∨ k = w8.heap.size + 1) k) → ¬ (fun k => (A'' k ∨ k = V3.heap.size) ∨ (s ≤ k ∧ k < s')) k) ∧ (∀ k, (fun k => (A'' k ∨ k = V3.heap.size) ∨ (s ≤ k ∧ k < s')) k → w.heap.size ≤ k ∧ k < W1.heap.size) ∧ (∀ k, (MB fx o mb2 sv3 (w.heap.size + 1 + 1 + 1 + 1) dv Z k ∨ k = V1.heap.size ∨ av.ownBlock = some k) → ¬ (fun k => A' k ∨ k = w8.heap.size ∨ k = w8.heap.size + 1) k) ∧ W1.heap[xb]? = some (Obj.cells #[.int .i64 y.lo, .int .i64 y.hi, .int .i64 0] 39) ∧ (s ≤ xb ∧ xb < s') ∧ (∀ k, (fun k => A'' k ∨ k = V3.heap.size) k → k < s) ∧ But (fun k => ¬ (fun k => A'' k ∨ k = V3.heap.size) k) W W1) := by
        obtain ⟨n1, n2, n3, n4, n5, n6, n7, n8, n9, n10, n11⟩ := HN.out
        have hmb : ∀ k, MB fx o mb2 sv3 (w.heap.size + 1 + 1 + 1 + 1) dv Z k → MB fx o mb2 sv2 (w.heap.size + 1 + 1 + 1 + 1) dv Z k ∨ W.heap.size ≤ k := fun k hk => by
          rcases hk with h | (h | h | h) | h
          · exact .inl (.inl h)
          · exact .inl (.inr (.inl (.inl h)))
          · exact .inl (.inr (.inl (.inr (.inl h))))
          · rcases hat3 with h9 | ⟨j9, h9, hj9⟩
            · exact .inl (.inr (.inl (.inr (.inr (by rw [← h9]; exact h)))))
            · rw [h9] at h; cases h; exact .inr hj9
          · exact .inl (.inr (.inr h))
        have hsz := hB3.size
        refine ⟨n1.meet hO3 hB3, but_blk hB3 n2 (ft_nc n1.ord n2 (by decide) (by decide)), ownsRow_keep n3 hB3 (fun k hk => by
          obtain ⟨cs, hcs⟩ := own_is_cells n3 hk
          exact ft_nc n1.ord hcs (by decide) (by decide)), ⟨below_but n4.1 hB3 (Nat.le_refl _) (fun k hk => (n1.ord.low hk).1), but_blk hB3 n4.2.1 (ft_nc n1.ord n4.2.1 (by decide) (by decide)), but_blk hB3 n4.2.2 (ft_nc n1.ord n4.2.2 (by decide) (by decide))⟩, n5.trans (hB3.mono (fun k _ hk => n8 k (.inl (.inr (.inl hk))))), fun k hk h => ?_, fun k hk => ⟨(n7 k hk).1, by have := (n7 k hk).2; omega⟩, fun k hk h => ?_, but_blk hB3 n9 (ft_nc n1.ord n9 (by decide) (by decide)), n10, n11, hB3.mono (fun k _ hk h => n6 k (.inl (.inr (.inl hk))) (.inl h))⟩
        · rcases hk with hk | hk
          · rcases hmb k hk with h9 | h9
            · exact n6 k (.inl h9) h
            · have := (n7 k h).2; omega
          · exact n6 k (.inr hk) h
        · rcases hk with hk | hk
          · rcases hmb k hk with h9 | h9
            · exact n8 k (.inl h9) h
            · have h1 := (HM1.out.2.2.1 k h).2
              have h2 := n5.size
              omega
          · exact n8 k (.inr hk) h
      clear HN hO3 hB3 hat3
      generalize arcsM L' pre2 = R2 at *
      generalize idxK (addK (knownL L' (pre2.map Ar.tg)) y.tg) y.tg = z at *
      generalize addK (knownL L' (pre2.map Ar.tg)) y.tg = Lz at *
      obtain ⟨n1, n2, n3, n4, n5, n6, n7, n8, n9, n10, n11, n12⟩ := HW1.out
      obtain ⟨va, vc, rfl⟩ := slice_of_ownK n3
      have nsx : ¬ V1.heap.size = xb := fun e => n6 _ (.inr (.inl rfl)) (.inr (by rw [e]; exact n10))
      have nsx' : ¬ xb = V1.heap.size := fun e => nsx e.symm
      have x0 : W1.cell? ⟨xb, 0, none⟩ = some (.int .i64 y.lo) := by rw [Lib.cell_of_heap n9]; rfl
      have x1 : W1.cell? ⟨xb, 1, none⟩ = some (.int .i64 y.hi) := by rw [Lib.cell_of_heap n9]; rfl
      have x2 : W1.cell? ⟨xb, 2, none⟩ = some (.int .i64 0) := by rw [Lib.cell_of_heap n9]; rfl
      have fx2 : W1.frozen? ⟨xb, 2, none⟩ = false := Lib.frozen_of_heap n9 _
      have s0 : W1.cell? ⟨V1.heap.size, 0, none⟩ = some (.slice va R2.length vc) := by rw [Lib.cell_of_heap n2]; rfl
      have bX : But (fun k => k = xb) W1 (W1.setCell ⟨xb, 2, none⟩ (.int .i64 z)) := (But.refl _ _).setCell _ _ (.inr rfl)
      have bA : Below (W1.setCell ⟨xb, 2, none⟩ (.int .i64 z)).heap.size (W1.setCell ⟨xb, 2, none⟩ (.int .i64 z)) ((W1.setCell ⟨xb, 2, none⟩ (.int .i64 z)).alloc (Obj.cells #[.int .i64 y.lo, .int .i64 y.hi, .int .i64 z] 39)) := (Below.refl _ _).alloc (Nat.le_refl _) _
      have nvx : ∀ k, (Value.slice va R2.length vc).ownBlock = some k → ¬ k = xb := fun k hk e => n6 k (.inr (.inr (.inl hk))) (.inr (by rw [e]; exact n10))
      have hON : ((W1.setCell ⟨xb, 2, none⟩ (.int .i64 z)).alloc (Obj.cells #[.int .i64 y.lo, .int .i64 y.hi, .int .i64 z] 39)).ownsRow V3.heap.size 39 3 (.slice va R2.length vc) R2.length (R2.flatMap encA3) := own_below (ownsRow_keep n3 bX nvx) bA
      have hnw : ∀ (k : Nat) (u : Value), [Value.int .i64 y.lo, .int .i64 y.hi, .int .i64 z][k]? = some u → ((W1.setCell ⟨xb, 2, none⟩ (.int .i64 z)).alloc (Obj.cells #[.int .i64 y.lo, .int .i64 y.hi, .int .i64 z] 39)).cell? ((⟨W1.heap.size, 0, none⟩ : Addr).add k) = some u := by
        have h9 := new_cell3 (W1.setCell ⟨xb, 2, none⟩ (.int .i64 z)) (.int .i64 y.lo) (.int .i64 y.hi) (.int .i64 z) 39
        have e9 : (W1.setCell ⟨xb, 2, none⟩ (.int .i64 z)).heap.size = W1.heap.size := by simp
        rw [e9] at h9
        exact h9
      have hszW : W1.heap.size = (W1.setCell ⟨xb, 2, none⟩ (.int .i64 z)).heap.size := by simp
      have h33 : V3.heap.size ≤ ((W1.setCell ⟨xb, 2, none⟩ (.int .i64 z)).alloc (Obj.cells #[.int .i64 y.lo, .int .i64 y.hi, .int .i64 z] 39)).heap.size := by
        have h1 := n11 V3.heap.size (.inr rfl)
        have h2 := (n7 xb (.inr n10)).2
        have h3 := bA.size
        omega
      obtain ⟨ia, hia, hza0, hza1, hza2⟩ := info_parts infoAr
      have HBX : Hid (But (fun k => k = xb) W1 (W1.setCell ⟨xb, 2, none⟩ (.int .i64 z)) ∧ Below (W1.setCell ⟨xb, 2, none⟩ (.int .i64 z)).heap.size (W1.setCell ⟨xb, 2, none⟩ (.int .i64 z)) ((W1.setCell ⟨xb, 2, none⟩ (.int .i64 z)).alloc (Obj.cells #[.int .i64 y.lo, .int .i64 y.hi, .int .i64 z] 39))) := ⟨bX, bA⟩
      clear n1 n2 n3 n4 n5 n6 n7 n8 n9 n11 n12 bX bA nvx hLk hy64 hszW
      gi_wp2_with (first
        | (gi_at_builtin; refine wpListIn_append_own_at _ rfl _ _ 35 rfl V3.heap.size 39 ia _ 3 24 Try.underlying35 hia hza0 hza1 hza2 rfl (by omega) _ _ _ rfl hON ⟨W1.heap.size, 0, none⟩ 1 1 [.int .i64 y.lo, .int .i64 y.hi, .int .i64 z] rfl rfl hnw (by simp [Value.oneCell']) (by unfold maxLen; omega) (by omega) h33 ?_)
        | gi_in)
      intro v' W5 ho5 hg5 _ hat5
      obtain ⟨n1, n2, n3, n4, n5, n6, n7, n8, n9, n11', n11, n12⟩ := HW1.out
      obtain ⟨bX, bA⟩ := HBX.out
      have hsx : (W1.setCell ⟨xb, 2, none⟩ (.int .i64 z)).heap.size = W1.heap.size := by simp
      have hsa : ((W1.setCell ⟨xb, 2, none⟩ (.int .i64 z)).alloc (Obj.cells #[.int .i64 y.lo, .int .i64 y.hi, .int .i64 z] 39)).heap.size = W1.heap.size + 1 := by simp
      have b15 : But (fun k => k = xb ∨ (Value.slice va R2.length vc).ownBlock = some k) W1 W5 := (bX.mono (fun k _ h => .inl h)).trans ((But.of_next bA).trans (but_grown hg5 (fun r h => .inr h)))
      have hv5 : ∀ k, v'.ownBlock = some k → (Value.slice va R2.length vc).ownBlock = some k ∨ W1.heap.size ≤ k := fun k hk => by
        rcases hat5 with h | h
        · exact .inl (by rw [← h]; exact hk)
        · rw [h] at hk; cases hk; exact .inr (by omega)
      have nsv : ¬ (Value.slice va R2.length vc).ownBlock = some V1.heap.size := own_nb n3 n2 (by decide)
      have e5 : W5.heap[V1.heap.size]? = some (Obj.cells #[.slice va R2.length vc, .int .i64 a] 37) := but_blk b15 n2 (fun h => h.elim nsx nsv)
      have t5 : W5.cell? ⟨V1.heap.size, 0, none⟩ = some (.slice va R2.length vc) := by rw [Lib.cell_of_heap e5]; rfl
      have tf5 : W5.frozen? ⟨V1.heap.size, 0, none⟩ = false := Lib.frozen_of_heap e5 _
      have HE : Hid (NJ w fx o (w.heap.size + 1 + 1 + 1 + 1) dv Z L' V1.heap.size V3.heap.size a Bs u cv V (fun k => A' k ∨ k = w8.heap.size ∨ k = w8.heap.size + 1) (fun k => A'' k ∨ k = V3.heap.size) (pre2 ++ [y]) (W5.setCell ⟨V1.heap.size, 0, none⟩ v') ∧ But (fun k => ¬ (fun k => A'' k ∨ k = V3.heap.size) k) W (W5.setCell ⟨V1.heap.size, 0, none⟩ v')) := by
        have b56 : But (fun k => k = V1.heap.size) W5 (W5.setCell ⟨V1.heap.size, 0, none⟩ v') := (But.refl _ _).setCell _ _ (.inr rfl)
        have b16 : But (fun k => k = xb ∨ (Value.slice va R2.length vc).ownBlock = some k ∨ k = V1.heap.size) W1 (W5.setCell ⟨V1.heap.size, 0, none⟩ v') := (b15.mono (fun k _ h => h.imp id .inl)).trans (b56.mono (fun k _ h => .inr (.inr h)))
        have hsz := b16.size
        obtain ⟨v1, v2, v3, v4, _⟩ := HM1.out
        obtain ⟨z1, z2, z3, z4, z5, z6, z7⟩ := HV3.out
        have hz1 := z1.size
        have hbV2 := v1.bel.size
        have hW1s := n5.size
        have hold : ∀ k, MB fx o mb sv (w.heap.size + 1 + 1 + 1 + 1) dv Z k → k < V.heap.size := fun k hk => (v1.at hk).2
        have hMlow : ∀ k, MB fx o mb2 sv3 (w.heap.size + 1 + 1 + 1 + 1) dv Z k → ¬ (k = xb ∨ (Value.slice va R2.length vc).ownBlock = some k ∨ k = V1.heap.size) := fun k hk h => by
          rcases h with h | h | h
          · exact n6 k (.inl hk) (.inr (by rw [h]; exact n10))
          · have h3 := (World.ownsRow.lt n3 k h).1
            rcases hk with hk | hk | hk | hk | hk
            · have := hold k (.inl hk); omega
            · obtain ⟨cs, hcs⟩ := own_is_cells n3 h
              exact ft_nc n1.ord hcs (by decide) (by decide) hk
            · have := hold k (.inr (.inr (.inl hk))); omega
            · have := hold k (.inr (.inr (.inr (.inl hk)))); omega
            · have := hold k (.inr (.inr (.inr (.inr hk)))); omega
          · rcases hk with hk | hk | hk | hk | hk
            · have := hold k (.inl hk); omega
            · rw [h] at hk
              exact ft_nc n1.ord n2 (by decide) (by decide) hk
            · have := hold k (.inr (.inr (.inl hk))); omega
            · have := hold k (.inr (.inr (.inr (.inl hk)))); omega
            · have := hold k (.inr (.inr (.inr (.inr hk)))); omega
        have hDl : ∀ k, (k = xb ∨ (Value.slice va R2.length vc).ownBlock = some k ∨ k = V1.heap.size) → w.heap.size ≤ k := fun k hk => by
          rcases hk with rfl | hk | rfl
          · exact (n7 _ (.inr n10)).1
          · have := (World.ownsRow.lt n3 k hk).1; omega
          · omega
        refine ⟨⟨mb2, sv3, v', by rw [HIX.out.2]; exact n1.but b16 hMlow hDl, by simpa using blk_set (o := 0) e5 v', ?_, ⟨below_but n4.1 b16 (Nat.le_refl _) hDl, but_blk b16 n4.2.1 (fun h => ?_), but_blk b16 n4.2.2 (fun h => ?_)⟩, n5.trans (b16.mono (fun k _ h hAo => ?_)), fun k hk h => ?_, fun k hk => ⟨(n7 k (.inl hk)).1, by have := (n7 k (.inl hk)).2; omega⟩, fun k hk hAo => ?_⟩, n12.trans (b16.mono (fun k _ h hAi => ?_))⟩
        · have h9 := ownsRow_keep ho5 b56 (fun k hk e => own_nb ho5 e5 (by decide) (by rw [← e]; exact hk))
          unfold OwnA
          rw [HIX.out.1, List.flatMap_append, List.length_append]
          exact h9
        · rcases h with h | h | h
          · exact n6 Bs (.inr (.inr (.inr (.inl rfl)))) (.inr (by rw [h]; exact n10))
          · exact own_nb n3 n4.2.1 (by decide) h
          · omega
        · rcases h with h | h | h
          · exact n6 (Bs + 1) (.inr (.inr (.inr (.inr (.inl rfl))))) (.inr (by rw [h]; exact n10))
          · exact own_nb n3 n4.2.2 (by decide) h
          · omega
        · rcases h with h | h | h
          · exact n6 k (.inr (.inr (.inr (.inr (.inr hAo))))) (.inr (by rw [h]; exact n10))
          · exact n8 k (.inr (.inr h)) hAo
          · exact n8 k (.inr (.inl h)) hAo
        · rcases hk with hk | hk | hk | hk
          · exact n6 k (.inl hk) (.inl h)
          · exact n6 k (.inr (.inl hk)) (.inl h)
          · rcases hv5 k hk with h9 | h9
            · exact n6 k (.inr (.inr (.inl h9))) (.inl h)
            · have := (n7 k (.inl h)).2; omega
          · exact n6 k (.inr (.inr (.inr hk))) (.inl h)
        · rcases hk with hk | hk | hk
          · exact n8 k (.inl hk) hAo
          · exact n8 k (.inr (.inl hk)) hAo
          · rcases hv5 k hk with h9 | h9
            · exact n8 k (.inr (.inr h9)) hAo
            · have := (v3 k hAo).2; omega
        · rcases h with h | h | h
          · have := n11 k hAi; have := n10.1; omega
          · exact n6 k (.inr (.inr (.inl h))) (.inl hAi)
          · exact n6 k (.inr (.inl h)) (.inl hAi)
      obtain ⟨ga, gc, rfl⟩ := slice_of_ownK ho5
      clear ho5 hg5 hat5 n1 n2 n3 n4 n5 n6 n7 n8 n9 n11 n11' n12 bX bA b15 hv5 nsv e5 HW1 HBX hON hnw h33 x0 x1 x2 fx2 s0 nsx nsx' hsx hsa
      gi_wp2
      have HE' := HE.out
      simp only [not_or] at HE'
      exact HE'
    case idone =>
      intro xs W hS hJ
      subst hS
      obtain ⟨mb2, sv2, av, n1, n2, n3, n4, n5, n6, n7, n8⟩ := hJ
      obtain ⟨va, vc, rfl⟩ := slice_of_ownK n3
      obtain ⟨sa, sc, rfl⟩ := slice_of_ownK n1.ord.row
      obtain ⟨da, dc, rfl⟩ := slice_of_ownK n1.done.row
      have hL2 : (knownL L' ((runQ l c q).map Ar.tg)).length ≤ 600 := Nat.le_trans HMI.out.small HCN.out
      have hML : (arcsM L' (runQ l c q)).length ≤ 200000 := by rw [arcsM_len]; exact HRq.1
      have c9 : W.cell? ⟨w6.heap.size, 0, none⟩ = some (.pointer (some ⟨o, 0, none⟩)) := by rw [Lib.cell_of_heap (n1.fix _ HFX.out.2.2.2.2.1).1]; rfl
      have c10 : W.cell? ⟨o, 1, none⟩ = some (.slice sa (knownL L' ((runQ l c q).map Ar.tg)).length sc) := by rw [Lib.cell_of_heap n1.ord.box]; rfl
      have d6 : decide (((knownL L' ((runQ l c q).map Ar.tg)).length : Int) > 600) = false := decide_eq_false (by omega)
      have d7 : decide (600 < (knownL L' ((runQ l c q).map Ar.tg)).length) = false := decide_eq_false (by omega)
      have c8 : W.cell? ⟨(w.heap.size + 1 + 1 + 1 + 1), 0, none⟩ = some (.slice da Z.length dc) := by rw [Lib.cell_of_heap n1.dbox]; rfl
      have s0 : W.cell? ⟨V1.heap.size, 0, none⟩ = some (.slice va (arcsM L' (runQ l c q)).length vc) := by rw [Lib.cell_of_heap n2]; rfl
      have s1 : W.cell? ⟨V1.heap.size, 1, none⟩ = some (.int .i64 a) := by rw [Lib.cell_of_heap n2]; rfl
      have bA : Below W.heap.size W (W.alloc (Obj.cells #[.slice va (arcsM L' (runQ l c q)).length vc, .int .i64 a] 37)) := below_box2 _ _ _ _
      have hON : (W.alloc (Obj.cells #[.slice va (arcsM L' (runQ l c q)).length vc, .int .i64 a] 37)).ownsRow w.heap.size 37 2 (.slice da Z.length dc) Z.length (Z.flatMap encD2) := own_below n1.done.row bA
      have hnw := new_cell2 W (.slice va (arcsM L' (runQ l c q)).length vc) (.int .i64 a) 37
      have hszn : w.heap.size ≤ (W.alloc (Obj.cells #[.slice va (arcsM L' (runQ l c q)).length vc, .int .i64 a] 37)).heap.size := Nat.le_trans n1.bel.size bA.size
      obtain ⟨ia, hia, hza0, hza1, hza2⟩ := info_parts infoDs
      have HN : Hid (MSt w fx o mb2 (.slice sa (knownL L' ((runQ l c q).map Ar.tg)).length sc) (knownL L' ((runQ l c q).map Ar.tg)) (w.heap.size + 1 + 1 + 1 + 1) (.slice da Z.length dc) Z W ∧ OwnA V3.heap.size (arcsM L' (runQ l c q)) (.slice va (arcsM L' (runQ l c q)).length vc) W ∧ But (fun k => ¬ (fun k => A' k ∨ k = w8.heap.size ∨ k = w8.heap.size + 1) k) V W ∧ (∀ k, (MB fx o mb2 (.slice sa (knownL L' ((runQ l c q).map Ar.tg)).length sc) (w.heap.size + 1 + 1 + 1 + 1) (.slice da Z.length dc) Z k ∨ k = V1.heap.size ∨ (Value.slice va (arcsM L' (runQ l c q)).length vc).ownBlock = some k) → ¬ (fun k => A' k ∨ k = w8.heap.size ∨ k = w8.heap.size + 1) k) ∧ Below W.heap.size W (W.alloc (Obj.cells #[.slice va (arcsM L' (runQ l c q)).length vc, .int .i64 a] 37))) := ⟨n1, n3, n5, n8, bA⟩
      clear n1 n2 n3 n4 n5 n6 n7 n8 bA HGu
      gi_wp2_with (first
        | (gi_at_builtin; refine wpListIn_append_own_at _ rfl _ _ 22 rfl w.heap.size 37 ia _ 2 32 Try.underlying22 hia hza0 hza1 hza2 rfl (by omega) _ _ _ rfl hON ⟨W.heap.size, 0, none⟩ 1 1 [.slice va (arcsM L' (runQ l c q)).length vc, .int .i64 a] rfl rfl hnw (by simp [Value.oneCell']) (by unfold maxLen; omega) (by omega) hszn ?_)
        | gi_in)
      intro v' W5 ho5 hg5 _ hat5
      obtain ⟨n1, n3, n5, n8, bA⟩ := HN.out
      have hsa : (W.alloc (Obj.cells #[.slice va (arcsM L' (runQ l c q)).length vc, .int .i64 a] 37)).heap.size = W.heap.size + 1 := by simp
      have b15 : But (fun k => (Value.slice da Z.length dc).ownBlock = some k) W W5 := (But.of_next bA).trans (but_grown hg5 (fun r h => h))
      have nd8 : ¬ (Value.slice da Z.length dc).ownBlock = some (w.heap.size + 1 + 1 + 1 + 1) := own_nb n1.done.row n1.dbox (by decide)
      have e5 : W5.heap[(w.heap.size + 1 + 1 + 1 + 1)]? = some (Obj.cells #[.slice da Z.length dc] 24) := but_blk b15 n1.dbox nd8
      have t5 : W5.cell? ⟨(w.heap.size + 1 + 1 + 1 + 1), 0, none⟩ = some (.slice da Z.length dc) := by rw [Lib.cell_of_heap e5]; rfl
      have tf5 : W5.frozen? ⟨(w.heap.size + 1 + 1 + 1 + 1), 0, none⟩ = false := Lib.frozen_of_heap e5 _
      have hv5 : ∀ k, v'.ownBlock = some k → (Value.slice da Z.length dc).ownBlock = some k ∨ W.heap.size ≤ k := fun k hk => by
        rcases hat5 with h | h
        · exact .inl (by rw [← h]; exact hk)
        · rw [h] at hk; cases hk; exact .inr (by omega)
      have HE : Hid (MJ l c q0 w fx o (w.heap.size + 1 + 1 + 1 + 1) (fun k => A' k ∨ k = w8.heap.size ∨ k = w8.heap.size + 1) (pre ++ [(pre.length, L')]) (W5.setCell ⟨(w.heap.size + 1 + 1 + 1 + 1), 0, none⟩ v') ∧ But (fun k => ¬ (fun k => A' k ∨ k = w8.heap.size ∨ k = w8.heap.size + 1) k) V (W5.setCell ⟨(w.heap.size + 1 + 1 + 1 + 1), 0, none⟩ v')) := by
        have b56 : But (fun k => k = (w.heap.size + 1 + 1 + 1 + 1)) W5 (W5.setCell ⟨(w.heap.size + 1 + 1 + 1 + 1), 0, none⟩ v') := (But.refl _ _).setCell _ _ (.inr rfl)
        have b16 : But (fun k => (Value.slice da Z.length dc).ownBlock = some k ∨ k = (w.heap.size + 1 + 1 + 1 + 1)) W (W5.setCell ⟨(w.heap.size + 1 + 1 + 1 + 1), 0, none⟩ v') := (b15.mono (fun k _ h => .inl h)).trans (b56.mono (fun k _ h => .inr h))
        obtain ⟨v1, v2, v3, v4, _⟩ := HM1.out
        have hz3 := HV3.out.1.size
        have hbV2 := v1.bel.size
        have hsz := b16.size
        have hWs := n5.size
        have hDA : ∀ k, ((Value.slice da Z.length dc).ownBlock = some k ∨ k = (w.heap.size + 1 + 1 + 1 + 1)) → ¬ (fun k => A' k ∨ k = w8.heap.size ∨ k = w8.heap.size + 1) k := fun k hk => by
          rcases hk with hk | hk
          · exact n8 k (.inl (.inr (.inr (.inr (.inl hk)))))
          · exact n8 k (.inl (.inr (.inr (.inl hk))))
        have hArc : ∀ {B : Nat} {r : List Ar} {v9 : Value}, OwnA B r v9 W → ∀ k, v9.ownBlock = some k → ¬ ((Value.slice da Z.length dc).ownBlock = some k ∨ k = (w.heap.size + 1 + 1 + 1 + 1)) := fun h9 k hk h => by
          rcases h with h | h
          · exact own_ne h9 n1.done.row (by decide) hk h
          · exact own_nb h9 n1.dbox (by decide) (by rw [← h]; exact hk)
        refine ⟨⟨mb2, _, _, v', Z ++ [(⟨arcsM L' (runQ l c q), a⟩, .slice va (arcsM L' (runQ l c q)).length vc)], ⟨below_but n1.bel b16 (Nat.le_refl _) (fun k hk => ?_), fun p hp => ⟨but_blk b16 (n1.fix p hp).1 (fun h => ?_), (n1.fix p hp).2⟩, n1.ord.but b16 (fun k hk h => ?_), by simpa using blk_set (o := 0) e5 v', n1.dlow, ⟨?_, fun p hp => ?_⟩⟩, ?_, fun k hk h => ?_, fun k hk => ⟨(v3 k hk).1, by have := (v3 k hk).2; omega⟩⟩, n5.trans (b16.mono (fun k _ h => hDA k h))⟩
        · rcases hk with hk | rfl
          · exact (World.ownsRow.lt n1.done.row k hk).1
          · exact n1.dlow
        · obtain ⟨f1, f2, f3, cs, t, e, _, _, h3, _⟩ := n1.fix p hp
          rcases h with h | h
          · rw [e] at f1
            exact own_nb n1.done.row f1 (fun e9 => h3 e9.symm) h
          · exact f3 h
        · rcases h with h | h
          · obtain ⟨cs, hcs⟩ := own_is_cells n1.done.row h
            exact ft_nc n1.ord hcs (by decide) (by decide) hk
          · rw [h] at hk
            exact ft_nc n1.ord n1.dbox (by decide) (by decide) hk
        · have h9 := ownsRow_keep ho5 b56 (fun k hk e => own_nb ho5 e5 (by decide) (by rw [← e]; exact hk))
          rw [List.flatMap_append, List.length_append]
          exact h9
        · rcases List.mem_append.1 hp with hp | hp
          · exact ownsRow_keep (n1.done.arcs p hp) b16 (hArc (n1.done.arcs p hp))
          · simp at hp
            subst hp
            exact own_mono (ownsRow_keep n3 b16 (hArc n3)) (by omega)
        · rw [List.map_append, List.length_append]
          exact HMI.out
        · rcases hk with hk | hk | hk | hk | ⟨p, hp, hk⟩
          · exact n8 k (.inl (.inl hk)) h
          · exact n8 k (.inl (.inr (.inl hk))) h
          · exact n8 k (.inl (.inr (.inr (.inl hk)))) h
          · rcases hv5 k hk with h9 | h9
            · exact n8 k (.inl (.inr (.inr (.inr (.inl h9))))) h
            · have := (v3 k h).2; omega
          · rcases List.mem_append.1 hp with hp | hp
            · exact n8 k (.inl (.inr (.inr (.inr (.inr ⟨p, hp, hk⟩))))) h
            · simp at hp
              subst hp
              exact n8 k (.inr (.inr hk)) h
      obtain ⟨ga, gc, rfl⟩ := slice_of_ownK ho5
      clear ho5 hg5 hat5 n1 n3 n5 n8 bA b15 nd8 e5 hv5 HN hON hnw hszn c8 c9 c10 s0 s1 hsa HM1 HV3 HMI
      gi_wp2
      have HE' := HE.out
      simp only [not_or] at HE'
      exact HE'
  case done =>
    intro xs V hS hI hd
    obtain ⟨mb, sv, L, dv, Z, m1, m2, m3, m4⟩ := hI
    obtain ⟨_, mb', sv', L', hO', hL'⟩ := hS
    obtain ⟨rfl, _, _⟩ := hO'.one m1.ord
    have hxl : xs.length = L'.length := Nat.le_antisymm m2.le hL'
    rw [hxl] at m2
    have hsm := m2.small
    have hZl : Z.length ≤ 600 := by have h1 := m2.len; have h2 := HCN.out; simp at h1; omega
    have hbnd : ∀ p ∈ Z, p.1.arcs.length ≤ 1000000 ∧ i64B p.1.acc ∧ ∀ x ∈ p.1.arcs, i64B x.lo ∧ i64B x.hi ∧ i64B x.tg := fun p hp => by
      have h1 := HSL.out _ _ m2 p.1 (List.mem_map.2 ⟨p, hp, rfl⟩)
      refine ⟨?_, h1⟩
      obtain ⟨i, hi⟩ := List.getElem?_of_mem hp
      have hil := (List.getElem?_eq_some_iff.1 hi).1
      have hil2 : i < L'.length := by have h9 := m2.len; simp at h9; omega
      obtain ⟨e1, _⟩ := m2.st i L'[i] hil2 (List.getElem?_eq_getElem hil2)
      have h9 := (arcsD_mem (d := Z.map Prod.fst) (p := i) (by simpa using hil)).1
      rw [e1] at h9
      have h8 := HRL.out L'[i] (m2.mem _ (List.getElem_mem hil2))
      have h7 : p.1.arcs = (runQ l c L'[i]).map (fun x => ⟨x.lo, x.hi, (idxK L' x.tg : Int)⟩) := by
        rw [h9]
        rw [List.getElem?_eq_getElem hil] at hi
        simp only [List.getElem_map]
        rw [Option.some.inj hi]
      rw [h7, List.length_map]
      have := h8.1
      omega
    have hsld : SlD (Z.map Prod.fst) dv V := done_sld m1.done (by omega) hbnd
    obtain ⟨da, dc, rfl⟩ := slice_of_ownK m1.done.row
    have f6 := (m1.fix _ HFX.out.2.2.1).1
    have f7 := (m1.fix _ HFX.out.2.2.2.1).1
    simp only at f6 f7
    have c8 : V.cell? ⟨(w.heap.size + 1 + 1 + 1 + 1), 0, none⟩ = some (.slice da Z.length dc) := by rw [Lib.cell_of_heap m1.dbox]; rfl
    have c6 : V.cell? ⟨w.heap.size + 1 + 1, 0, none⟩ = some (.slice none 0 0) := by rw [Lib.cell_of_heap f6]; rfl
    have c7 : V.cell? ⟨w.heap.size + 1 + 1 + 1, 0, none⟩ = some (.int .i64 0) := by rw [Lib.cell_of_heap f7]; rfl
    have z6 : V.frozen? ⟨w.heap.size + 1 + 1, 0, none⟩ = false := Lib.frozen_of_heap f6 _
    have z7 : V.frozen? ⟨w.heap.size + 1 + 1 + 1, 0, none⟩ = false := Lib.frozen_of_heap f7 _
    have HNB : Hid (∀ (d : List Ds) (t : Option Addr × Nat × Nat) (W : World), SlD (Z.map Prod.fst) (.slice da Z.length dc) V → But (fun k => k = w.heap.size + 1 + 1 ∨ k = w.heap.size + 1 + 1 + 1) V W → SlD (Z.map Prod.fst) (.slice da Z.length dc) W) := fun _ _ W _ hb => by
      have n6 : ∀ {e : TypeId} {B n k : Nat} {v9 : Value} {ys : List Value}, V.ownsRow B e k v9 n ys → e = 37 ∨ e = 39 → ∀ j, v9.ownBlock = some j → ¬ (j = w.heap.size + 1 + 1 ∨ j = w.heap.size + 1 + 1 + 1) := fun h9 he j hj hk => by
        rcases hk with rfl | rfl
        · exact own_nb h9 f6 (by rcases he with rfl | rfl <;> decide) hj
        · exact own_nb h9 f7 (by rcases he with rfl | rfl <;> decide) hj
      exact done_sld ⟨ownsRow_keep m1.done.row hb (n6 m1.done.row (.inl rfl)), fun p hp => ownsRow_keep (m1.done.arcs p hp) hb (n6 (m1.done.arcs p hp) (.inr rfl))⟩ (by omega) hbnd
    have HE : Hid (SlD (Z.map Prod.fst) (.slice da Z.length dc) V ∧ MI l c q0 L'.length L' (Z.map Prod.fst) ∧ Below w.heap.size w V ∧ V.heap[w.heap.size + 1 + 1]? = some (Obj.cells #[.slice none 0 0] 24) ∧ V.heap[w.heap.size + 1 + 1 + 1]? = some (Obj.cells #[.int .i64 0] 90)) := ⟨hsld, m2, m1.bel, f6, f7⟩
    clear m1 m2 m3 m4 hO' hL' hxl hsm hsld hbnd f6 f7 HAC HAR HGV HST HRL HSL HM HQ0
    gi_wp2
    have HV : Hid (SlD (Z.map Prod.fst) (.slice da Z.length dc) ((V.setCell ⟨w.heap.size + 1 + 1, 0, none⟩ (.slice da Z.length dc)).setCell ⟨w.heap.size + 1 + 1 + 1, 0, none⟩ (.int .i64 0)) ∧ Below w.heap.size w ((V.setCell ⟨w.heap.size + 1 + 1, 0, none⟩ (.slice da Z.length dc)).setCell ⟨w.heap.size + 1 + 1 + 1, 0, none⟩ (.int .i64 0)) ∧ ((V.setCell ⟨w.heap.size + 1 + 1, 0, none⟩ (.slice da Z.length dc)).setCell ⟨w.heap.size + 1 + 1 + 1, 0, none⟩ (.int .i64 0)).heap[w.heap.size + 1 + 1]? = some (Obj.cells #[.slice da Z.length dc] 24) ∧ ((V.setCell ⟨w.heap.size + 1 + 1, 0, none⟩ (.slice da Z.length dc)).setCell ⟨w.heap.size + 1 + 1 + 1, 0, none⟩ (.int .i64 0)).heap[w.heap.size + 1 + 1 + 1]? = some (Obj.cells #[.int .i64 0] 90) ∧ ((V.setCell ⟨w.heap.size + 1 + 1, 0, none⟩ (.slice da Z.length dc)).setCell ⟨w.heap.size + 1 + 1 + 1, 0, none⟩ (.int .i64 0)).heap[w8.heap.size]? = some (.deferred (some []))) := by
      obtain ⟨e1, e2, e3, e4, e5⟩ := HE.out
      have h8 := HS8.out
      have g1 : (V.setCell ⟨w.heap.size + 1 + 1, 0, none⟩ (.slice da Z.length dc)).heap[w.heap.size + 1 + 1]? = some (Obj.cells #[.slice da Z.length dc] 24) := by simpa using blk_set (o := 0) e4 (.slice da Z.length dc)
      have g2 : (V.setCell ⟨w.heap.size + 1 + 1, 0, none⟩ (.slice da Z.length dc)).heap[w.heap.size + 1 + 1 + 1]? = some (Obj.cells #[.int .i64 0] 90) := set_blk e5 (by omega)
      have bB : But (fun k => k = w.heap.size + 1 + 1 ∨ k = w.heap.size + 1 + 1 + 1) V ((V.setCell ⟨w.heap.size + 1 + 1, 0, none⟩ (.slice da Z.length dc)).setCell ⟨w.heap.size + 1 + 1 + 1, 0, none⟩ (.int .i64 0)) := ((But.refl _ _).setCell _ _ (.inr (.inl rfl))).setCell _ _ (.inr (.inr rfl))
      refine ⟨HNB.out [] (da, Z.length, dc) _ e1 bB, below_but e3 bB (Nat.le_refl _) (fun k hk => by omega), set_blk g1 (by omega), by simpa using blk_set (o := 0) g2 (.int .i64 0), but_blk bB hd (by omega)⟩
    generalize ((V.setCell ⟨w.heap.size + 1 + 1, 0, none⟩ (.slice da Z.length dc)).setCell ⟨w.heap.size + 1 + 1 + 1, 0, none⟩ (.int .i64 0)) = V9 at *
    refine leaves_marksC (Rw := fun W => SlD (Z.map Prod.fst) (.slice da Z.length dc) W ∧ Below w.heap.size w W ∧ W.heap[w.heap.size + 1 + 1]? = some (Obj.cells #[.slice da Z.length dc] 24) ∧ W.heap[w.heap.size + 1 + 1 + 1]? = some (Obj.cells #[.int .i64 0] 90)) (v := .tuple #[.agg #[.slice da Z.length dc], .int .i64 0]) (fun W h => results_cell2 rfl _ _ _ rfl rfl (run_loadVar_row _ _ _ _ _ _ _ h.2.2.1 Try.underlying24 rfl (by kernel_rfl)) (load_err (by rw [Lib.cell_of_heap h.2.2.2]; rfl))) (fun q => w.heap.size ≤ q) (fun W q h1 h2 h3 => ?_) (fun W h => ⟨_, _, L', rfl, h.1, HE.out.2.1, h.2.1⟩) [w8.heap.size] V9 ⟨by simp, fun q hq => by simp at hq; subst hq; exact HV.out.2.2.2.2⟩ (fun q hq => by simp at hq; subst hq; have := HS8.out; omega) ⟨HV.out.1, HV.out.2.1, HV.out.2.2.1, HV.out.2.2.2.1⟩
    have hb := But.putObj W q (.deferred none)
    refine ⟨h3.1.cells (cells_put h2).1 (cells_put h2).2, h3.2.1.trans (hb.below h3.2.1.size (fun k hk => by omega)), but_blk hb h3.2.2.1 (fun e => ?_), but_blk hb h3.2.2.2 (fun e => ?_)⟩
    · have h9 := h3.2.2.1
      rw [e, h2] at h9; cases h9
    · have h9 := h3.2.2.2
      rw [e, h2] at h9; cases h9
end Go.Proofs.Ytdalomibilicfaa
