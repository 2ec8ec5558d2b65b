/- The document's Parse. -/
import Derived.Test.YtggehnnbgeffpaaDoorRefWords
namespace Go.Proofs.YtggehnnbgeffpaaDoor
open Go.Shelf Go.RowKit Go.Lib Go.Proofs

theorem flat_get2 : ∀ (rs : List (Nat × List UInt8)) (i c : Nat), c < 2 → (rs.flatMap encWd)[i * 2 + c]? = rs[i]?.bind fun r => (encWd r)[c]?
  | [], i, c, _ => by simp
  | r :: t, 0, c, hc => by
    rw [List.flatMap_cons, List.getElem?_append_left (by simp [encWd]; omega)]
    simp
  | r :: t, i + 1, c, hc => by
    rw [List.flatMap_cons, List.getElem?_append_right (by simp [encWd]; omega)]
    have : (i + 1) * 2 + c - (encWd r).length = i * 2 + c := by simp [encWd]; omega
    rw [this, flat_get2 t i c hc]
    simp
/-- Words as they lie. -/
def WdAt (ws : List (Nat × List UInt8)) (ao : Option Addr) (W : World) : Prop :=
  ∀ (i : Nat) (x : Nat × List UInt8), ws[i]? = some x → ∃ b, ao = some ⟨b, 0, none⟩ ∧ b < W.heap.size ∧ W.cell? ⟨b, i * 2, none⟩ = some (.string ⟨x.2.toArray⟩) ∧ W.cell? ⟨b, i * 2 + 1, none⟩ = some (.int .i64 x.1)
theorem OW.wdAt {n0 : Nat} {w : World} {ws : List (Nat × List UInt8)} {v : Value} {W : World} (h : OW n0 w ws v W) : ∃ ao cap, v = .slice ao ws.length cap ∧ WdAt ws ao W := by
  rcases h.own.2 with ⟨rfl, h0⟩ | ⟨g, cap, cur, rfl, hg0, hg1, hg2, _⟩
  · refine ⟨none, 0, by rw [h0], fun i x hx => ?_⟩
    rw [List.length_eq_zero_iff.1 h0] at hx
    simp at hx
  · refine ⟨some ⟨g, 0, none⟩, cap, rfl, fun i r hr => ⟨g, rfl, (Array.getElem?_eq_some_iff.1 hg1).1, ?_⟩⟩
    have key : ∀ c u, c < 2 → (encWd r)[c]? = some u → W.cell? ⟨g, i * 2 + c, none⟩ = some u := fun c u hc hu => by
      have := h.own.cells (g := g) rfl (i * 2 + c) u (by rw [flat_get2 ws i c hc, hr]; exact hu)
      have hadd : (⟨g, 0, none⟩ : Addr).add (i * 2 + c) = ⟨g, i * 2 + c, none⟩ := by unfold Addr.add; split <;> simp_all
      rw [hadd] at this
      exact this
    exact ⟨key 0 _ (by decide) rfl, key 1 _ (by decide) rfl⟩
/-- What Parse has made: all that was there lies as it lay; the operations and their ends are rows of its own. -/
structure PS (n1 : Nat) (w1 : World) (p : List Ins) (ends : List Int) (vp vl : Value) (W : World) : Prop where
  bel : Below n1 w1 W
  hp : W.ownsRow n1 39 4 vp p.length (p.flatMap encI)
  hl : W.ownsRow n1 3 1 vl ends.length (ends.map (.int .i64))
  le : n1 ≤ W.heap.size
theorem PS.next {n1 : Nat} {w1 : World} {p : List Ins} {ends : List Int} {vp vl : Value} {W W' : World} (h : PS n1 w1 p ends vp vl W) (hb : Below W.heap.size W W') : PS n1 w1 p ends vp vl W' :=
  ⟨h.bel.trans (hb.mono h.le), own_next h.hp hb, own_next h.hl hb, Nat.le_trans h.le hb.size⟩
theorem PS.sliceP {n1 : Nat} {w1 : World} {p : List Ins} {ends : List Int} {vp vl : Value} {W : World} (h : PS n1 w1 p ends vp vl W) : ∃ ao c, vp = .slice ao p.length c := by
  rcases h.hp.2 with ⟨rfl, h0⟩ | ⟨g, cap, cur, rfl, _⟩
  · exact ⟨_, _, by rw [h0]⟩
  · exact ⟨_, _, rfl⟩
theorem PS.sliceL {n1 : Nat} {w1 : World} {p : List Ins} {ends : List Int} {vp vl : Value} {W : World} (h : PS n1 w1 p ends vp vl W) : ∃ ao c, vl = .slice ao ends.length c := by
  rcases h.hl.2 with ⟨rfl, h0⟩ | ⟨g, cap, cur, rfl, _⟩
  · exact ⟨_, _, by rw [h0]⟩
  · exact ⟨_, _, rfl⟩
theorem PS.snocP {n1 : Nat} {w1 : World} {p : List Ins} {ends : List Int} {vp vl v1 : Value} {W W1 : World} {o : Obj} (i : Ins) (h : PS n1 w1 p ends vp vl W) (hO : W1.ownsRow n1 39 4 v1 (p.length + 1) (p.flatMap encI ++ encI i)) (hg : (W.alloc o).grownBy W1 vp.ownBlock) : PS n1 w1 (p ++ [i]) ends v1 vl W1 := by
  have hb1 : Below n1 W W1 := ((Below.refl n1 W).alloc h.le o).grown hg (by have := h.le; simp; omega) (fun k e => (h.hp.lt k e).1)
  refine ⟨h.bel.trans hb1, ?_, ?_, Nat.le_trans h.le hb1.size⟩
  · rw [List.length_append, List.flatMap_append]
    simpa using hO
  · have hla := World.ownsRow.alloc h.hl o
    have hpa := World.ownsRow.alloc h.hp o
    cases hv : vp.ownBlock with
    | none => rw [hv] at hg; exact hla.kept hg (by cases vl.ownBlock <;> simp)
    | some g =>
      rw [hv] at hg
      obtain ⟨cur, h1, _⟩ := owns_type hpa hv
      exact owns_other hla hg h1 (by decide)
theorem PS.snocL {n1 : Nat} {w1 : World} {p : List Ins} {ends : List Int} {vp vl v1 : Value} {W W1 : World} {o : Obj} (x : Int) (h : PS n1 w1 p ends vp vl W) (hO : W1.ownsRow n1 3 1 v1 (ends.length + 1) (ends.map (.int .i64) ++ [.int .i64 x])) (hg : (W.alloc o).grownBy W1 vl.ownBlock) : PS n1 w1 p (ends ++ [x]) vp v1 W1 := by
  have hb1 : Below n1 W W1 := ((Below.refl n1 W).alloc h.le o).grown hg (by have := h.le; simp; omega) (fun k e => (h.hl.lt k e).1)
  refine ⟨h.bel.trans hb1, ?_, ?_, Nat.le_trans h.le hb1.size⟩
  · have hla := World.ownsRow.alloc h.hl o
    have hpa := World.ownsRow.alloc h.hp o
    cases hv : vl.ownBlock with
    | none => rw [hv] at hg; exact hpa.kept hg (by cases vp.ownBlock <;> simp)
    | some g =>
      rw [hv] at hg
      obtain ⟨cur, h1, _⟩ := owns_type hla hv
      exact owns_other hpa hg h1 (by decide)
  · rw [List.length_append, List.map_append]
    simpa using hO
theorem own_ints {W : World} {n0 : Nat} {v : Value} {l : List Int} (h : W.ownsRow n0 3 1 v l.length (l.map (.int .i64))) : ∃ ao cap, v = .slice ao l.length cap ∧ IntsAt l ao W := by
  rcases h.2 with ⟨rfl, h0⟩ | ⟨g, cap, cur, rfl, hg0, hg1, hg2, _⟩
  · refine ⟨none, 0, by rw [h0], fun i x hx => ?_⟩
    rw [List.length_eq_zero_iff.1 h0] at hx
    simp at hx
  · refine ⟨some ⟨g, 0, none⟩, cap, rfl, fun i r hr => ⟨g, rfl, (Array.getElem?_eq_some_iff.1 hg1).1, ?_⟩⟩
    have := h.cells (g := g) rfl i (.int .i64 r) (by simp [hr])
    have hadd : (⟨g, 0, none⟩ : Addr).add i = ⟨g, i, none⟩ := by unfold Addr.add; split <;> simp_all
    rw [hadd] at this
    exact this
/-- Where the words stand. -/
def atW (ws : List (Nat × List UInt8)) (k : Nat) : Int := ((ws[k]?.map (·.1)).getD 0 : Nat)
theorem parse_of {s : List UInt8} {f : Int × Int} (h : parseF r0 (wordsN s) = .inl f) : parseN s = .inl f := by
  unfold parseN
  rw [h]
theorem drop_at {ws : List (Nat × List UInt8)} {k : Nat} (h : k < ws.length) : ws.drop k = ws[k] :: ws.drop (k + 1) := List.drop_eq_getElem_cons h
theorem atW_is {ws : List (Nat × List UInt8)} {k : Nat} (h : k < ws.length) : atW ws k = (ws[k].1 : Nat) := by simp [atW, h]
theorem parseF_bad {r : Rd} {ws : List (Nat × List UInt8)} {k : Nat} {e : Int} (h : k < ws.length) (he : (takeN r ws[k].1 ws[k].2).1 = e) (hne : e ≠ 0) : parseF r (ws.drop k) = .inl (e, atW ws k) := by
  rw [drop_at h, parseF, if_neg (by rw [he]; exact hne), he, atW_is h]
theorem parseF_ok {r r' : Rd} {ws : List (Nat × List UInt8)} {k : Nat} (h : k < ws.length) (he : takeN r ws[k].1 ws[k].2 = (0, r')) : parseF r (ws.drop k) = parseF r' (ws.drop (k + 1)) := by
  rw [drop_at h, parseF, he]
  simp

theorem InsAt.set {es : List Ins} {ao : Option Addr} {W : World} (h : InsAt es ao W) (N j : Nat) (v : Value) (hne : ∀ b off, ao = some ⟨b, off, none⟩ → b ≠ N) : InsAt es ao (W.setCell ⟨N, j, none⟩ v) := fun i r hr => by
  obtain ⟨b, off, h0, h1, h2, h3, h4, h5⟩ := h i r hr
  have hb := hne b off h0
  have hk : ∀ o, (W.setCell ⟨N, j, none⟩ v).cell? ⟨b, o, none⟩ = W.cell? ⟨b, o, none⟩ := fun o => World.cell?_of_block (a := ⟨b, o, none⟩) (Below.heap_setCell _ _ _ _ hb)
  exact ⟨b, off, h0, by simpa [World.setCell] using h1, (hk _).trans h2, (hk _).trans h3, (hk _).trans h4, (hk _).trans h5⟩
/-- The place of Parse's fault. -/
def Res (N : Nat) (W : World) : Prop := W.heap[N]? = some (.cells #[.int .i64 0, .int .i64 0] 25 (0, 0))
theorem Res.cells {N : Nat} {W : World} (h : Res N W) : W.cell? ⟨N, 0, none⟩ = some (.int .i64 0) ∧ W.cell? ⟨N, 1, none⟩ = some (.int .i64 0) ∧ W.frozen? ⟨N, 0, none⟩ = false ∧ W.frozen? ⟨N, 1, none⟩ = false := by
  unfold Res at h
  exact ⟨by rw [cell_of_obj h]; rfl, by rw [cell_of_obj h]; rfl, by simp [World.frozen?, h], by simp [World.frozen?, h]⟩
theorem Res.set {N : Nat} {W : World} (h : Res N W) (e a : Value) : ((W.setCell ⟨N, 0, none⟩ e).setCell ⟨N, 1, none⟩ a).cell? ⟨N, 0, none⟩ = some e ∧ ((W.setCell ⟨N, 0, none⟩ e).setCell ⟨N, 1, none⟩ a).cell? ⟨N, 1, none⟩ = some a := by
  have u0 := heap_set W N 0 _ _ _ h e
  have u1 := heap_set _ N 1 _ _ _ u0 a
  exact ⟨by rw [cell_of_obj u1]; rfl, by rw [cell_of_obj u1]; rfl⟩
theorem fault_post {s : List UInt8} {w W : World} {N : Nat} {er a : Int} (hN : N = w.heap.size) (hp : parseN s = .inl (er, a)) (hb : Below w.heap.size w W) : Parsed s w (.returned (.tuple #[.slice none 0 0, .agg #[.int .i64 er, .int .i64 a]])) ((W.setCell ⟨N, 0, none⟩ (.int .i64 er)).setCell ⟨N, 1, none⟩ (.int .i64 a)) := by
  subst hN
  exact ⟨.inl ⟨_, _, hp, rfl⟩, (hb.setCell (by simp) _).setCell (by simp) _⟩
set_option maxRecDepth 100000 in
set_option maxHeartbeats 16000000 in
theorem refParse_any (s : ByteArray) (w : World) (hs : s.size ≤ 1048576) : Calls Tryd.prog 9 #[.string s] w (Parsed s.data.toList w) := by
  obtain ⟨i0, hi, hz0, hz1, hz2⟩ := info_parts info39
  obtain ⟨j0, hj, hy0, hy1, hy2⟩ := info_parts info3
  have hwf := @words_facts s.data.toList
  have hwn := rw_len s.data.toList 0 []
  rw [← words_is, toL_len] at hwn
  have hpo := @parse_of s.data.toList
  have hrw := rwords_any s (w.alloc (.cells #[.int .i64 0, .int .i64 0] 25)) hs
  go_enter Tryd.func9, Tryd.ntmps9
  go_wp2_with fail
  refine hrw.mono ?_
  rintro e w1 ⟨v, rfl, hOW⟩
  obtain ⟨ao, cap, rfl, hwd⟩ := hOW.wdAt
  have hres : w1.heap[w.heap.size]? = some (.cells #[.int .i64 0, .int .i64 0] 25 (0, 0)) := (hOW.bel.block _ (by simp)).trans (World.alloc_heap_new _ _)
  have hN : w.heap.size < w1.heap.size := (Array.getElem?_eq_some_iff.1 hres).1
  have hb0 : Below w.heap.size w w1 := ((Below.refl _ w).alloc (Nat.le_refl _) _).trans (hOW.bel.mono (by simp))
  have HRS : Hid (∀ W, Below w1.heap.size w1 W → Res w.heap.size W ∧ Below w.heap.size w W) := fun W hW => ⟨(hW.block _ hN).trans hres, hb0.trans (hW.mono (by omega))⟩
  clear hrw hOW hres hb0
  have HPN : Hid (∀ {f : Int × Int}, parseF r0 (wordsN s.data.toList) = .inl f → parseN s.data.toList = .inl f) := hpo
  have HPD : Hid (parseN s.data.toList = match parseF r0 (wordsN s.data.toList) with
    | .inl f => .inl f
    | .inr r => if r.want ≠ [] then .inl (11, s.data.toList.length) else match farN r.prog r.prog.length with
      | some i => .inl (10, r.last.getD i 0)
      | none => .inr r.prog) := rfl
  have HWF : Hid (∀ x ∈ wordsN s.data.toList, x.2 ≠ [] ∧ x.1 + x.2.length ≤ s.size) := fun x hx => by have := hwf hx; rwa [toL_len] at this
  clear hpo hwf
  generalize wordsN s.data.toList = ws at *
  go_wp2_with fail
  go_loopw [5, 6, 7] (fun v5 v6 v7 wr => ∃ (k : Nat) (p : List Ins) (ends : List Int), v7 = .int .i64 k ∧ k ≤ ws.length ∧ PS w1.heap.size w1 p ends v5 v6 wr ∧ p.length ≤ 64 ∧ ends.length = p.length ∧ Hid (parseF r0 ws = parseF ⟨p, ends, [.op]⟩ (ws.drop k))) (fun _ _ v7 _ => ws.length - (intOf v7).toNat)
  case atStart => exact ⟨0, [], [], rfl, Nat.zero_le _, ⟨Below.refl _ _, World.ownsRow_nil _ _ _ _, World.ownsRow_nil _ _ _ _, Nat.le_refl _⟩, by simp, rfl, rfl⟩
  case round =>
    obtain ⟨k, p, ends, rfl, hk, hPS, hp64, hel, HF⟩ := hrel
    obtain ⟨pa, pc, rfl⟩ := hPS.sliceP
    obtain ⟨la, lc, e6⟩ := hPS.sliceL
    rw [hel] at e6
    subst e6
    have hle := hPS.le
    by_cases hkl : k < ws.length
    · obtain ⟨g, rfl, hg, -⟩ := hwd k ws[k] (by simp [hkl])
      have HWD : Hid (∀ W, Below w1.heap.size w1 W → ∀ (i : Nat) (h : i < ws.length), W.cell? ⟨g, i * 2, none⟩ = some (.string ⟨ws[i].2.toArray⟩) ∧ W.cell? ⟨g, i * 2 + 1, none⟩ = some (.int .i64 (atW ws i))) := fun W hW i h => by
        obtain ⟨_, e, _, h1, h2⟩ := hwd i ws[i] (by simp [h])
        cases e
        exact ⟨(hW.cell (p := ⟨g, i * 2, none⟩) hg).trans h1, by rw [atW_is h]; exact (hW.cell (p := ⟨g, i * 2 + 1, none⟩) hg).trans h2⟩
      clear hwd
      obtain ⟨a0, a1⟩ := HWD.out wr hPS.bel k hkl
      have hne := (HWF.out ws[k] (List.getElem_mem hkl)).1
      have q1 : ¬ (ws.length : Int) ≤ k := by omega
      have q2 : (k : Int) < ws.length := by omega
      have hgr : g < wr.heap.size := by omega
      have hkd := kindR_any ⟨ws[k].2.toArray⟩ wr
      have HBD : Hid (∀ e, (takeN ⟨p, ends, [.op]⟩ ws[k].1 ws[k].2).1 = e → e ≠ 0 → parseN s.data.toList = .inl (e, atW ws k)) := fun e he hne => HPN.out (by rw [HF.out, parseF_bad hkl he hne])
      have HOK : Hid (∀ r', takeN ⟨p, ends, [.op]⟩ ws[k].1 ws[k].2 = (0, r') → parseF r0 ws = parseF r' (ws.drop (k + 1))) := fun r' he => by rw [HF.out, parseF_ok hkl he]
      clear HF
      cases hkn : kindN ws[k].2 with
      | none =>
        have hkv : kindR (⟨ws[k].2.toArray⟩ : ByteArray).data.toList = .tuple #[.int .i64 0, .int .i64 0] := by
          show kindR ws[k].2 = _
          unfold kindR
          rw [hkn]
        rw [hkv] at hkd
        have HE : Hid (parseN s.data.toList = .inl (10, atW ws k)) := HBD.out 10 (take_op_none hkn) (by decide)
        generalize (⟨ws[k].2.toArray⟩ : ByteArray) = wd at *
        clear HBD HOK HWF hne hkn HPN HPD hkv
        go_wp2_with fail
        refine hkd.mono ?_
        rintro e w2 ⟨rfl, hb2⟩
        have hPS2 := hPS.next hb2
        have hle2 := hPS2.le
        obtain ⟨-, a2⟩ := HWD.out w2 hPS2.bel k hkl
        have hgr2 : g < w2.heap.size := by omega
        clear hkd hPS a0 a1 hgr
        generalize atW ws k = av at *
        go_wp2_with (go_at_call 23; refine (fault_any _ _ _).mono ?_; rintro e w3 ⟨rfl, hb3⟩; have hR2 := HRS.out w3 (hPS2.bel.trans (hb3.mono hle2)); obtain ⟨c0, c1, f0, f1⟩ := hR2.1.cells)
        obtain ⟨d0, d1⟩ := hR2.1.set (.int .i64 10) (.int .i64 av)
        refine bodyPost_ret (v := .tuple #[.slice none 0 0, .agg #[.int .i64 10, .int .i64 av]]) (by simp [results, Tryd.f9, go_sem, d0, d1]) rfl (fault_post rfl HE.out hR2.2)
      | some o =>
        have ho8 : o < 8 := by
          unfold kindN at hkn
          have := List.mem_of_find?_eq_some hkn
          simpa using this
        have hwo : wordL o = ws[k].2 := by
          unfold kindN at hkn
          have := List.find?_some hkn
          simpa using this
        have ho1 : 1 ≤ o := by
          cases o with
          | zero => exact absurd hwo.symm hne
          | succ _ => omega
        have hkv : kindR (⟨ws[k].2.toArray⟩ : ByteArray).data.toList = .tuple #[.int .i64 o, .int .i64 (takersN o).length] := by
          show kindR ws[k].2 = _
          unfold kindR
          rw [hkn]
          simp only
          rw [if_neg (by omega)]
        rw [hkv] at hkd
        have hob : ((o : Int) == 0) = false := beq_eq_false_iff_ne.2 (by omega)
        by_cases h64 : p.length = 64
        · have HE : Hid (parseN s.data.toList = .inl (15, atW ws k)) := HBD.out 15 (take_op_many hkn h64) (by decide)
          generalize (⟨ws[k].2.toArray⟩ : ByteArray) = wd at *
          clear HBD HOK HWF hne hkn HPN HPD hkv hwo
          have k64 : ((p.length : Int) == 64) = true := by simp [h64]
          go_wp2_with fail
          refine hkd.mono ?_
          rintro e w2 ⟨rfl, hb2⟩
          have hPS2 := hPS.next hb2
          have hle2 := hPS2.le
          obtain ⟨-, a2⟩ := HWD.out w2 hPS2.bel k hkl
          have hgr2 : g < w2.heap.size := by omega
          clear hkd hPS a0 a1 hgr
          generalize atW ws k = av at *
          go_wp2_with (go_at_call 23; refine (fault_any _ _ _).mono ?_; rintro e w3 ⟨rfl, hb3⟩; have hR2 := HRS.out w3 (hPS2.bel.trans (hb3.mono hle2)); obtain ⟨c0, c1, f0, f1⟩ := hR2.1.cells)
          obtain ⟨d0, d1⟩ := hR2.1.set (.int .i64 15) (.int .i64 av)
          refine bodyPost_ret (v := .tuple #[.slice none 0 0, .agg #[.int .i64 15, .int .i64 av]]) (by simp [results, Tryd.f9, go_sem, d0, d1]) rfl (fault_post rfl HE.out hR2.2)
        · have k64 : ((p.length : Int) == 64) = false := beq_eq_false_iff_ne.2 (by omega)
          have HF1 : Hid (parseF r0 ws = parseF ⟨p ++ [insN o []], ends ++ [atW ws k], (takersN o).drop 0⟩ (ws.drop (k + 1))) := by
            show _ = _
            rw [insN_nil ho1 (by omega), atW_is hkl]
            exact HOK.out _ (take_op_ok hkn h64)
          generalize (⟨ws[k].2.toArray⟩ : ByteArray) = wd at *
          clear HBD HOK hne hkn hkv hwo
          go_wp2_with fail
          refine hkd.mono ?_
          rintro e w2 ⟨rfl, hb2⟩
          have hPS2 := hPS.next hb2
          have hle2 := hPS2.le
          have hgr2 : g < w2.heap.size := by omega
          clear hkd hPS a0 a1 hgr hb2
          obtain ⟨n, hn⟩ : ∃ n, (takersN o).length = n := ⟨_, rfl⟩
          have hn3 : n ≤ 3 := by rw [← hn]; exact takers_len o
          have HTN : Hid ((takersN o).length = n) := hn
          rw [hn]
          clear hn
          go_wp2_with fail
          go_loopw [10, 11] (fun v10 v11 wx => ∃ (m : Nat) (nums : List Int), v11 = .int .i64 m ∧ m = nums.length + 1 ∧ nums.length ≤ n ∧ k + nums.length < ws.length ∧ wx.ownsRow w2.heap.size 3 1 v10 nums.length (nums.map (.int .i64)) ∧ Below w2.heap.size w2 wx ∧ 0 ≤ nums.getD 0 0 ∧ Hid (parseF r0 ws = parseF ⟨p ++ [insN o nums], ends ++ [atW ws (k + nums.length)], (takersN o).drop nums.length⟩ (ws.drop (k + nums.length + 1)))) (fun _ v11 _ => n + 1 - (intOf v11).toNat)
          case atStart => exact ⟨1, [], rfl, rfl, Nat.zero_le _, by simpa using hkl, World.ownsRow_nil _ _ _ _, Below.refl _ _, Int.le_refl _, HF1.out⟩
          case round =>
            obtain ⟨m, nums, rfl, hm, hnl, hkn, hOn, hBn, hge, HF2⟩ := hrel
            have hPSx := hPS2.next hBn
            have hlex := hPSx.le
            have hgx : g < wr.heap.size := by omega
            obtain ⟨na, nc, rfl, hints⟩ := own_ints hOn
            clear HF1
            by_cases hmn : m ≤ n
            · have r1 : (m : Int) ≤ n := by omega
              by_cases hkm : k + m < ws.length
              · have r2 : ¬ (ws.length : Int) ≤ (k : Int) + m := by omega
                have r3 : (k : Int) + m < ws.length := by omega
                obtain ⟨b0, b1⟩ := HWD.out wr hPSx.bel (k + m) hkm
                have hnum := num_any ⟨ws[k + m].2.toArray⟩ wr
                have hTN := take_num (p := p) (ends := ends) (a := ws[k + m].1) (a0 := atW ws (k + nums.length)) (w := ws[k + m].2) (k := o) (l := nums) ho1 (by omega) (by rw [HTN.out]; omega) hge
                have hkm2 : k + nums.length + 1 = k + m := by omega
                rw [hkm2] at HF2
                have HBD : Hid (badNum o nums ws[k + m].2 → parseN s.data.toList = .inl (10, atW ws (k + m))) := fun hb => HPN.out (by rw [HF2.out, parseF_bad hkm (hTN.1 hb) (by decide)])
                have HOK : Hid (∀ v, ¬ badNum o nums ws[k + m].2 → rnumN ws[k + m].2 = some v → parseF r0 ws = parseF ⟨p ++ [insN o (nums ++ [v])], ends ++ [atW ws (k + m)], (takersN o).drop m⟩ (ws.drop (k + m + 1))) := fun v hb hv => by
                  rw [HF2.out, parseF_ok hkm (hTN.2 v hb hv), atW_is hkm, ← hm]
                have e2 : (⟨ws[k + m].2.toArray⟩ : ByteArray).data.toList = ws[k + m].2 := by simp
                rw [e2] at hnum
                clear HF2 hTN e2
                generalize (⟨ws[k + m].2.toArray⟩ : ByteArray) = wx at *
                generalize ws[k + m].2 = wl at *
                have HM : Hid (m = nums.length + 1) := hm
                have hml : nums.length ≤ 2 := by omega
                have hm1 : 1 ≤ m := by omega
                have hmb : m < 4 := by omega
                have HGE : Hid (0 ≤ nums.getD 0 0) := hge
                clear HWF HPN HPD HTN HWD hm hkm2 hnl hkn hge
                go_wp2_with fail
                refine hnum.mono ?_
                rintro e w3 ⟨⟨v, ok, rfl, hv⟩, rfl⟩
                clear hnum b0
                rcases hv with ⟨rfl, hv⟩ | ⟨rfl, hv⟩
                · by_cases hbad : o = 1 ∧ m = 2 ∧ v < nums.getD 0 0
                  · obtain ⟨rfl, rfl, hvb⟩ := hbad
                    obtain ⟨b, rfl⟩ : ∃ b, nums = [b] := by
                      match nums, HM.out with
                      | [b], _ => exact ⟨b, rfl⟩
                    have HE : Hid (parseN s.data.toList = .inl (10, atW ws (k + 2))) := HBD.out (.inr ⟨v, hv, rfl, rfl, hvb⟩)
                    obtain ⟨g2, rfl, hg2, e0⟩ := hints 0 b rfl
                    have hvb2 : v < b := hvb
                    have hvd : decide (v < b) = true := decide_eq_true hvb2
                    clear HBD HOK hints hOn hBn hvb HM HGE
                    generalize atW ws (k + 2) = av at *
                    go_wp2_with (go_at_call 23; refine (fault_any _ _ _).mono ?_; rintro e w3 ⟨rfl, hb3⟩; have hR2 := HRS.out w3 (hPSx.bel.trans (hb3.mono hlex)); obtain ⟨c0, c1, f0, f1⟩ := hR2.1.cells)
                    obtain ⟨d0, d1⟩ := hR2.1.set (.int .i64 10) (.int .i64 av)
                    refine bodyPost_ret (v := .tuple #[.slice none 0 0, .agg #[.int .i64 10, .int .i64 av]]) (by simp [results, Tryd.f9, go_sem, d0, d1]) rfl (fault_post rfl HE.out hR2.2)
                  · have hnb : ¬ badNum o nums wl := by
                      rintro (h | ⟨v', h, h1, h2, h3⟩)
                      · rw [hv] at h; cases h
                      · rw [hv] at h
                        cases h
                        exact hbad ⟨h1, by rw [HM.out, h2], h3⟩
                    have hl : (nums ++ [v]).length = m := by simp [HM.out]
                    have HL : Hid ((nums ++ [v]).length = m) := hl
                    have HF4 : Hid (parseF r0 ws = parseF ⟨p ++ [insN o (nums ++ [v])], ends ++ [atW ws (k + (nums ++ [v]).length)], (takersN o).drop (nums ++ [v]).length⟩ (ws.drop (k + (nums ++ [v]).length + 1))) := by
                      show _ = _
                      rw [hl]
                      exact HOK.out v hnb hv
                    have HG2 : Hid (0 ≤ (nums ++ [v]).getD 0 0) := by
                      have hv0 := (rnum_back hv).2.1
                      cases nums with
                      | nil => exact hv0
                      | cons b t => exact HGE.out
                    have hcase : ¬ o = 1 ∨ (o = 1 ∧ ¬ m = 2) ∨ (o = 1 ∧ m = 2 ∧ ¬ v < nums.getD 0 0) := by omega
                    clear HBD HOK hl hnb hbad HGE hv
                    rcases hcase with ho | ⟨ho, hm2⟩ | ⟨ho, hm2, hvb⟩
                    · have ho' : ((o : Int) == 1) = false := beq_eq_false_iff_ne.2 (by omega)
                      clear hints
                      go_wp2_with (at_builtin; refine wpList_append_own _ rfl _ _ 44 rfl w2.heap.size 3 j0 _ 1 8 Tryd.underlying44 hj hy0 hy1 hy2 rfl (by decide) _ _ _ rfl (World.ownsRow.alloc hOn _) ⟨_, 0, none⟩ 1 1 [.int .i64 v] rfl rfl (cells1' _ _ _ _ (by simp)) (fun u hu => by simp at hu; subst hu; rfl) (by unfold maxLen; omega) (by omega) (by have := hBn.size; simp; omega) ?_)
                      intro v1 w3 hO3 hg3 _
                      have hB3 : Below w2.heap.size w2 w3 := (hBn.alloc hBn.size _).grown hg3 (by have := hBn.size; simp; omega) (fun k e => (hOn.lt k e).1)
                      clear hg3 hOn hBn hPSx
                      go_wp2_with fail
                      exact ⟨⟨m + 1, nums ++ [v], by go_num, by rw [HL.out], by rw [HL.out]; omega, by rw [HL.out]; omega, by rw [HL.out]; simpa [HM.out] using hO3, hB3, HG2.out, HF4.out⟩, by simp [intOf]; omega⟩
                    · have hm' : ((m : Int) == 2) = false := beq_eq_false_iff_ne.2 (by omega)
                      have ho' : ((o : Int) == 1) = true := by rw [ho]; rfl
                      clear hints ho hm2
                      go_wp2_with (at_builtin; refine wpList_append_own _ rfl _ _ 44 rfl w2.heap.size 3 j0 _ 1 8 Tryd.underlying44 hj hy0 hy1 hy2 rfl (by decide) _ _ _ rfl (World.ownsRow.alloc hOn _) ⟨_, 0, none⟩ 1 1 [.int .i64 v] rfl rfl (cells1' _ _ _ _ (by simp)) (fun u hu => by simp at hu; subst hu; rfl) (by unfold maxLen; omega) (by omega) (by have := hBn.size; simp; omega) ?_)
                      intro v1 w3 hO3 hg3 _
                      have hB3 : Below w2.heap.size w2 w3 := (hBn.alloc hBn.size _).grown hg3 (by have := hBn.size; simp; omega) (fun k e => (hOn.lt k e).1)
                      clear hg3 hOn hBn hPSx
                      go_wp2_with fail
                      exact ⟨⟨m + 1, nums ++ [v], by go_num, by rw [HL.out], by rw [HL.out]; omega, by rw [HL.out]; omega, by rw [HL.out]; simpa [HM.out] using hO3, hB3, HG2.out, HF4.out⟩, by simp [intOf]; omega⟩
                    · obtain ⟨b, rfl⟩ : ∃ b, nums = [b] := by
                        have := HM.out
                        match nums, (show nums.length = 1 by omega) with
                        | [b], _ => exact ⟨b, rfl⟩
                      obtain ⟨g2, rfl, hg2, e0⟩ := hints 0 b rfl
                      have hvb2 : ¬ v < b := hvb
                      have hvd : decide (v < b) = false := decide_eq_false hvb2
                      have hm' : ((m : Int) == 2) = true := by rw [hm2]; rfl
                      have ho' : ((o : Int) == 1) = true := by rw [ho]; rfl
                      clear hints hvb ho hm2
                      go_wp2_with (at_builtin; refine wpList_append_own _ rfl _ _ 44 rfl w2.heap.size 3 j0 _ 1 8 Tryd.underlying44 hj hy0 hy1 hy2 rfl (by decide) _ _ _ rfl (World.ownsRow.alloc hOn _) ⟨_, 0, none⟩ 1 1 [.int .i64 v] rfl rfl (cells1' _ _ _ _ (by simp)) (fun u hu => by simp at hu; subst hu; rfl) (by unfold maxLen; omega) (by omega) (by have := hBn.size; simp; omega) ?_)
                      intro v1 w3 hO3 hg3 _
                      have hB3 : Below w2.heap.size w2 w3 := (hBn.alloc hBn.size _).grown hg3 (by have := hBn.size; simp; omega) (fun k e => (hOn.lt k e).1)
                      clear hg3 hOn hBn hPSx
                      go_wp2_with fail
                      exact ⟨⟨m + 1, [b] ++ [v], by go_num, by rw [HL.out], by rw [HL.out]; omega, by rw [HL.out]; omega, by rw [HL.out]; simpa [HM.out] using hO3, hB3, HG2.out, HF4.out⟩, by simp [intOf]; omega⟩
                · have HE : Hid (parseN s.data.toList = .inl (10, atW ws (k + m))) := HBD.out (.inl hv)
                  clear HBD HOK hints hOn hBn HM HGE
                  generalize atW ws (k + m) = av at *
                  go_wp2_with (go_at_call 23; refine (fault_any _ _ _).mono ?_; rintro e w3 ⟨rfl, hb3⟩; have hR2 := HRS.out w3 (hPSx.bel.trans (hb3.mono hlex)); obtain ⟨c0, c1, f0, f1⟩ := hR2.1.cells)
                  obtain ⟨d0, d1⟩ := hR2.1.set (.int .i64 10) (.int .i64 av)
                  refine bodyPost_ret (v := .tuple #[.slice none 0 0, .agg #[.int .i64 10, .int .i64 av]]) (by simp [results, Tryd.f9, go_sem, d0, d1]) rfl (fault_post rfl HE.out hR2.2)
              · have r2 : (ws.length : Int) ≤ (k : Int) + m := by omega
                have HE : Hid (parseN s.data.toList = .inl (11, s.size)) := by
                  show _ = _
                  have hdr : ws.drop (k + nums.length + 1) = [] := List.drop_of_length_le (by omega)
                  rw [HPD.out, HF2.out, hdr]
                  have hdn : (takersN o).drop nums.length ≠ [] := by
                    intro h
                    have := congrArg List.length h
                    rw [List.length_drop, HTN.out] at this
                    simp at this
                    omega
                  simp [parseF, hdn]
                clear HF2 HWF HPN HPD HTN HWD hm
                go_wp2_with (go_at_call 23; refine (fault_any _ _ _).mono ?_; rintro e w3 ⟨rfl, hb3⟩; have hR2 := HRS.out w3 (hPSx.bel.trans (hb3.mono hlex)); obtain ⟨c0, c1, f0, f1⟩ := hR2.1.cells)
                obtain ⟨d0, d1⟩ := hR2.1.set (.int .i64 11) (.int .i64 s.size)
                refine bodyPost_ret (v := .tuple #[.slice none 0 0, .agg #[.int .i64 11, .int .i64 s.size]]) (by simp [results, Tryd.f9, go_sem, d0, d1]) rfl (fault_post rfl HE.out hR2.2)
            · obtain rfl : nums.length = n := by omega
              have r1 : ¬ (m : Int) ≤ nums.length := by omega
              have HF5 : Hid (parseF r0 ws = parseF ⟨p ++ [insN o nums], ends ++ [atW ws (k + nums.length)], []⟩ (ws.drop (k + nums.length + 1))) := by
                show _ = _
                rw [HF2.out, List.drop_of_length_le (l := takersN o) (by rw [HTN.out]; omega)]
              have hmade := made_any o ho1 (by omega) nums HTN.out.symm na nums.length nc rfl wr hints
              have hkl2 : (k : Int) + nums.length < ws.length := by omega
              generalize insN o nums = ii at *
              have hnb : nums.length ≤ 3 := hn3
              generalize nums.length = n at *
              obtain ⟨io, ix, iy, iz⟩ := ii
              clear HF2 HTN hge hOn hBn hints hPS2 hn3 hnl
              go_wp2_with fail
              refine hmade.mono ?_
              rintro e w4 ⟨rfl, hb4⟩
              have hPS4 := hPSx.next hb4
              have hle4 := hPS4.le
              clear hmade hPSx hb4
              go_wp2_with (at_builtin; refine wpList_append_own _ rfl _ _ 22 rfl w1.heap.size 39 i0 _ 4 32 Tryd.underlying22 hi hz0 hz1 hz2 rfl (by decide) _ _ _ rfl (World.ownsRow.alloc hPS4.hp _) ⟨w4.heap.size, 0, none⟩ 1 1 (encI ⟨io, ix, iy, iz⟩) rfl rfl (cells4 ⟨io, ix, iy, iz⟩ _ _ _ rfl) (fun u hu => by simp [encI] at hu; rcases hu with rfl | rfl | rfl | rfl <;> rfl) (by unfold maxLen; omega) (by omega) (by simp; omega) ?_)
              intro v5 w5 hO5 hg5 _
              have hPS5 := hPS4.snocP ⟨io, ix, iy, iz⟩ hO5 hg5
              have hle5 := hPS5.le
              obtain ⟨g5, cp5, rfl⟩ := ownsRow_succ hO5
              have b5 := (HWD.out w5 hPS5.bel (k + n) hkn).2
              have hg5' : g < w5.heap.size := by omega
              clear hO5 hg5 hPS4
              generalize hav : atW ws (k + n) = av at *
              go_wp2_with (at_builtin; refine wpList_append_own _ rfl _ _ 44 rfl w1.heap.size 3 j0 _ 1 8 Tryd.underlying44 hj hy0 hy1 hy2 rfl (by decide) _ _ _ rfl (World.ownsRow.alloc hPS5.hl _) ⟨_, 0, none⟩ 1 1 [.int .i64 av] rfl rfl (cells1' _ _ _ _ (by simp)) (fun u hu => by simp at hu; subst hu; rfl) (by unfold maxLen; omega) (by omega) (by simp; omega) ?_)
              intro v6 w6 hO6 hg6 _
              have hPS6 := hPS5.snocL av (by first | exact hO6 | (rw [hel]; exact hO6)) hg6
              have hle6 := hPS6.le
              obtain ⟨g6, cp6, rfl⟩ := ownsRow_succ hO6
              have HHL : Hid ((ends ++ [av]).length = (p ++ [Ins.mk io ix iy iz]).length) := by show _ = _; simp [hel]
              clear hO6 hg6 hPS5 b5 hm hmn
              by_cases hend : k + n + 1 < ws.length
              · have r2 : ¬ (ws.length : Int) ≤ (k : Int) + n + 1 := by omega
                have r3 : (k : Int) + n + 1 < ws.length := by omega
                obtain ⟨b0, b1⟩ := HWD.out w6 hPS6.bel (k + n + 1) hend
                have hg6' : g < w6.heap.size := by omega
                have hsem := @take_semi (p ++ [⟨io, ix, iy, iz⟩]) (ends ++ [av]) ws[k + n + 1].1 ws[k + n + 1].2
                by_cases hs59 : ws[k + n + 1].2 = [59]
                · have HF6 : Hid (parseF r0 ws = parseF ⟨p ++ [⟨io, ix, iy, iz⟩], ends ++ [av], [.op]⟩ (ws.drop (k + n + 1 + 1))) := by
                    show _ = _
                    rw [HF5.out, parseF_ok hend (hsem.1 hs59)]
                  rw [hs59] at b0
                  clear HF5 hsem hs59 b1 HWF HPN HPD HWD HRS
                  go_wp2_with fail
                  exact ⟨⟨k + n + 1 + 1, p ++ [⟨io, ix, iy, iz⟩], ends ++ [av], by go_num, by omega, hPS6, by simp; omega, HHL.out, HF6⟩, by simp [intOf]; omega⟩
                · have HE : Hid (parseN s.data.toList = .inl (10, atW ws (k + n + 1))) := HPN.out (by rw [HF5.out, parseF_bad hend (hsem.2 hs59) (by decide)])
                  have hq : ¬ (⟨ws[k + n + 1].2.toArray⟩ : ByteArray).toList = [59] := by
                    rw [Lib.toList_data]
                    simpa using hs59
                  generalize (⟨ws[k + n + 1].2.toArray⟩ : ByteArray) = wd2 at *
                  have hq1 : (wd2.toList == [59]) = false := beq_eq_false_iff_ne.2 hq
                  have hq2 : (wd2.toList != [59]) = true := by rw [bne, hq1]; rfl
                  clear HF5 hsem hs59 HWF HPN HPD HWD
                  generalize atW ws (k + n + 1) = av2 at *
                  go_wp2_with (go_at_call 23; refine (fault_any _ _ _).mono ?_; rintro e w7 ⟨rfl, hb7⟩; have hR2 := HRS.out w7 (hPS6.bel.trans (hb7.mono hle6)); obtain ⟨c0, c1, f0, f1⟩ := hR2.1.cells)
                  obtain ⟨d0, d1⟩ := hR2.1.set (.int .i64 10) (.int .i64 av2)
                  refine bodyPost_ret (v := .tuple #[.slice none 0 0, .agg #[.int .i64 10, .int .i64 av2]]) (by simp [results, Tryd.f9, go_sem, d0, d1]) rfl (fault_post rfl HE.out hR2.2)
              · have r2 : (ws.length : Int) ≤ (k : Int) + n + 1 := by omega
                have HEV : Hid (parseN s.data.toList = match farN (p ++ [Ins.mk io ix iy iz]) (p ++ [Ins.mk io ix iy iz]).length with
                    | some i => .inl (10, (ends ++ [av]).getD i 0)
                    | none => .inr (p ++ [Ins.mk io ix iy iz])) := by
                  show _ = _
                  rw [HPD.out, HF5.out, List.drop_of_length_le (l := ws) (by omega)]
                  simp [parseF]
                obtain ⟨pao, pcap, e5, hins⟩ := own_insAt hPS6.hp
                have hnp : pao = some ⟨g5, 0, none⟩ := by injection e5 with h; exact h.symm
                obtain ⟨eao, ecap, e6, hends⟩ := own_ints hPS6.hl
                have hne2 : eao = some ⟨g6, 0, none⟩ := by injection e6 with h; exact h.symm
                subst hnp hne2
                have hg5n : g5 ≠ w.heap.size := by
                  have := (hPS6.hp.lt g5 rfl).1
                  omega
                have hPl : (p ++ [Ins.mk io ix iy iz]).length = p.length + 1 := by simp
                have HPL : Hid ((p ++ [Ins.mk io ix iy iz]).length = p.length + 1) := hPl
                clear HF5 HWF HPN HPD HWD e5 e6 hPl
                generalize p ++ [Ins.mk io ix iy iz] = P at *
                generalize ends ++ [av] = E at *
                go_wp2_with fail
                go_loop [14] (fun c => ∃ j : Nat, c = .int .i64 j ∧ j ≤ p.length + 1 ∧ Hid (∀ q, q < j → ∀ i, P[q]? = some i → ¬ (P.length : Int) < i.z)) (fun c => p.length + 1 - (intOf c).toNat)
                case atStart => exact ⟨0, rfl, Nat.zero_le _, fun q hq => absurd hq (Nat.not_lt_zero _)⟩
                case round =>
                  obtain ⟨j, rfl, hjl, HA⟩ := hrel
                  by_cases hlt : j < p.length + 1
                  · have hjP : j < P.length := by rw [HPL.out]; exact hlt
                    have hjE : j < E.length := by rw [HHL.out]; exact hjP
                    have t1 : (j : Int) < (p.length : Int) + 1 := by omega
                    obtain ⟨b, off, e, hb, -, -, -, z3⟩ := hins j P[j] (by simp [hjP])
                    cases e
                    obtain ⟨b', e, hb', z0⟩ := hends j (E.getD j 0) (by simp [hjE])
                    cases e
                    rw [Nat.zero_add] at z3
                    by_cases hz : (P.length : Int) < P[j].z
                    · have HE : Hid (parseN s.data.toList = .inl (10, E.getD j 0)) := by
                        show _ = _
                        have : farN P P.length = some j := by
                          unfold farN
                          rw [List.findIdx?_eq_some_iff_getElem]
                          refine ⟨hjP, by simpa using hz, fun q hq => ?_⟩
                          simpa using HA.out q hq P[q] (by simp [show q < P.length by omega])
                        rw [HEV.out, this]
                      rw [HPL.out] at hz
                      push_cast at hz
                      have hzd : decide ((p.length : Int) + 1 < P[j].z) = true := decide_eq_true hz
                      generalize E.getD j 0 = lv at *
                      generalize P[j].z = zz at *
                      clear HA HEV hins hends
                      go_wp2_with (go_at_call 23; refine (fault_any _ _ _).mono ?_; rintro e w7 ⟨rfl, hb7⟩; have hR2 := HRS.out w7 (hPS6.bel.trans (hb7.mono hle6)); obtain ⟨c0, c1, f0, f1⟩ := hR2.1.cells)
                      obtain ⟨d0, d1⟩ := hR2.1.set (.int .i64 10) (.int .i64 lv)
                      refine bodyPost_ret (v := .tuple #[.slice none 0 0, .agg #[.int .i64 10, .int .i64 lv]]) (by simp [results, Tryd.f9, go_sem, d0, d1]) rfl (fault_post rfl HE.out hR2.2)
                    · have HA2 : Hid (∀ q, q < j + 1 → ∀ i, P[q]? = some i → ¬ (P.length : Int) < i.z) := fun q hq i hi => by
                        by_cases e : q = j
                        · subst e
                          rw [List.getElem?_eq_getElem hjP] at hi
                          cases hi
                          exact hz
                        · exact HA.out q (by omega) i hi
                      rw [HPL.out] at hz
                      push_cast at hz
                      have hzd : decide ((p.length : Int) + 1 < P[j].z) = false := decide_eq_false hz
                      generalize P[j].z = zz at *
                      clear HA HEV hins hends z0
                      go_wp2_with fail
                      exact ⟨⟨j + 1, by go_num, by omega, HA2⟩, by simp [intOf]; omega⟩
                  · have t1 : ¬ (j : Int) < (p.length : Int) + 1 := by omega
                    have HE : Hid (parseN s.data.toList = .inr P) := by
                      show _ = _
                      have : farN P P.length = none := by
                        unfold farN
                        rw [List.findIdx?_eq_none_iff]
                        intro i hi
                        obtain ⟨q, hq, rfl⟩ := List.mem_iff_getElem.1 hi
                        simpa using HA.out q (by rw [HPL.out] at hq; omega) P[q] (by simp [hq])
                      rw [HEV.out, this]
                    have hR2 := HRS.out w6 hPS6.bel
                    obtain ⟨c0, c1, f0, f1⟩ := hR2.1.cells
                    obtain ⟨d0, d1⟩ := hR2.1.set (.int .i64 0) (.int .i64 0)
                    clear HA HEV hends
                    go_wp2_with fail
                    refine bodyPost_ret (v := .tuple #[.slice (some ⟨g5, 0, none⟩) (p.length + 1) cp5, .agg #[.int .i64 0, .int .i64 0]]) (by simp [results, Tryd.f9, go_sem, d0, d1]) rfl ⟨.inr ⟨P, some ⟨g5, 0, none⟩, cp5, HE.out, by rw [HPL.out]; omega, by rw [HPL.out], ?_⟩, (hR2.2.setCell (by simp) _).setCell (by simp) _⟩
                    exact (hins.set _ _ _ (fun b off e => by cases e; exact hg5n)).set _ _ _ (fun b off e => by cases e; exact hg5n)
    · have q1 : (ws.length : Int) ≤ k := by omega
      have HE : Hid (parseN s.data.toList = .inl (11, s.size)) := by
        show _ = _
        rw [HPD.out, HF.out, List.drop_of_length_le (by omega)]
        simp [parseF]
      go_wp2_with (go_at_call 23; refine (fault_any _ _ _).mono ?_; rintro e w2 ⟨rfl, hb2⟩; have hR2 := HRS.out w2 (hPS.bel.trans (hb2.mono hle)); obtain ⟨c0, c1, f0, f1⟩ := hR2.1.cells)
      obtain ⟨d0, d1⟩ := hR2.1.set (.int .i64 11) (.int .i64 s.size)
      refine bodyPost_ret (v := .tuple #[.slice none 0 0, .agg #[.int .i64 11, .int .i64 s.size]]) (by simp [results, Tryd.f9, go_sem, d0, d1]) rfl (fault_post rfl HE.out hR2.2)
end Go.Proofs.YtggehnnbgeffpaaDoor
