/- For every slice of ranges, every text, every number and every range the law SpanPlaces returns true: sizes, texts, and places within and without are the document's. Its conditions: none but the form's own reach (the text of at most 140737488351232 bytes). -/
import Derived.Test.YtdkgeeimhjffdaaOpen
import Derived.Test.YtdkgeeimhjffdaaPlacesWalk
namespace Go.Proofs.Ytdkgeeimhjffdaa
open Go.RowKit Go.Shelf

/-- A contract that keeps what is below the heap's end keeps the box of x. -/
theorem keepP {w W : World} {n : Nat} {args : Array Value} {N : Nat} {a b : Value} {E : Ending → World → Prop} (hS : W.cell? ⟨N, 0, none⟩ = some a ∧ W.cell? ⟨N, 1, none⟩ = some b ∧ Below w.heap.size w W)
    (h : Calls Try.prog n args W fun e w' => E e w' ∧ Below W.heap.size W w') : Calls Try.prog n args W fun e w' => E e w' ∧ w'.cell? ⟨N, 0, none⟩ = some a ∧ w'.cell? ⟨N, 1, none⟩ = some b ∧ Below w.heap.size w w' :=
  h.mono fun _ _ ⟨h1, h2⟩ => ⟨h1, (h2.cell (p := ⟨N, 0, none⟩) (World.block_lt_of_cell? _ _ hS.1)).trans hS.1, (h2.cell (p := ⟨N, 1, none⟩) (World.block_lt_of_cell? _ _ hS.2.1)).trans hS.2.1, below_then hS.2.2 h2 hS.2.2.size⟩

theorem places_fit (es : List Rg) (ao : Option Addr) (cap : Nat) (s : ByteArray) (a : Int) (x : Rg) (w : World) (hc : RgAt es ao w) (ho : ∀ r ∈ es, RgOk r) (hn : es.length ≤ 100) (hf : Fit es) (hss : s.size ≤ 140737488351232) (ha0 : -9223372036854775808 ≤ a) (ha1 : a ≤ 9223372036854775807) (hx : RgOk x) :
    Calls Try.prog 4 #[.slice ao es.length cap, .string s, .int .i64 a, .agg #[.int .i64 x.1, .int .i64 x.2]] w fun e w' => e = .returned (.bool true) ∧ Below w.heap.size w w' := by
  have hl : es.length ≤ 1000000 := by omega
  have hP : Fit (splitP x es) := split_fit hf
  have hPl : (splitP x es).length ≤ 1000000 := by
    rw [← flatW_eq hf ho hx]
    have := flatW_len x (partsL 0 es)
    rw [partsL_len] at this
    omega
  refine places_walk ao es.length cap s ⟨(textN s.data.toList es).toArray⟩ a (sizeN es) x.1 x.2 (outN a es).1 (innF a 0 es).1 (outN a es).2 (innF a 0 es).2 (splitP x es) w ?_ ?_ ⟨?_, ?_, ?_, ?_, ?_, ?_, ?_, ?_, ?_, ?_, ?_, ?_⟩
  · intro W
    have := small_any ao es.length cap W
    rwa [decide_eq_true hn] at this
  · intro W h
    have := rfit_any es ao cap W (hc.next h) ho hl
    rwa [(fitB_fit es).2 hf] at this
  · exact fun W h => keepP h (outer_any es ao cap a W (hc.next h.2.2) hf ho hl ha1)
  · exact fun W h => keepP h (router_any es ao cap a W (hc.next h.2.2) hf ho hl ha1)
  · exact fun W h => keepP h (inner_any es ao cap a W (hc.next h.2.2) hf ho hl)
  · exact fun W h => keepP h (rinner_any es ao cap a W (hc.next h.2.2) hf ho hl ha0 ha1)
  · exact fun W h => keepP h (size_any es ao cap W (hc.next h.2.2) hf ho hl)
  · exact fun W h => keepP h (rsize_any es ao cap W (hc.next h.2.2) hf ho hl)
  · exact fun W h => keepP h (text_any s es ao cap W hss (hc.next h.2.2) hf hl)
  · exact fun W h => keepP h (rtext_any s es ao cap W hss (hc.next h.2.2) hf hl)
  · intro W h
    refine (keepP (E := fun e w' => ∃ ro rc, e = .returned (.slice ro (splitP x es).length rc) ∧ RgAt (splitP x es) ro w') h ((split_any es ao cap x W (hc.next h.2.2) hf ho (by omega) hx).mono ?_)).mono ?_
    · rintro e w' ⟨ro, rc, h1, h2, h3⟩
      exact ⟨⟨ro, rc, h1, h2⟩, h3⟩
    · rintro e w' ⟨⟨ro, rc, h1, h2⟩, h3⟩
      exact ⟨ro, rc, h1, h2, h3⟩
  · intro W ro h hR
    refine (keepP (E := fun e w' => ∃ qo qc, e = .returned (.slice qo (splitP x es).length qc) ∧ (RgAt (splitP x es) ro w' ∧ RgAt (splitP x es) qo w')) h ((rsplit_any es ao cap x W (hc.next h.2.2) hf ho (by omega) hx).mono ?_)).mono ?_
    · rintro e w' ⟨_, qo, qc, rs, h1, h2, h3, h4, h5, h6, h7⟩
      have heq : rs = splitP x es := fit_unique h4 hP fun z => by rw [h6 z]; exact (split_has hf (Int.le_refl _) z).symm
      subst heq
      exact ⟨⟨qo, qc, h1, hR.out.next h3, h2⟩, h3⟩
    · rintro e w' ⟨⟨ro, rc, h1, h2⟩, h3⟩
      exact ⟨ro, rc, h1, h2, h3⟩
  · intro W ro rc qo qc h hR
    have := same_any (splitP x es) (splitP x es) ro qo rc qc W hR.out.1 hR.out.2 hPl hPl
    rw [decide_eq_true rfl] at this
    exact keepP h this
  · exact fun W h => keepP h (awake_any W)

theorem places_any (es : List Rg) (ao : Option Addr) (cap : Nat) (s : ByteArray) (a : Int) (x : Rg) (w : World) (hc : RgAt es ao w) (ho : ∀ r ∈ es, RgOk r) (hss : s.size ≤ 140737488351232) (ha0 : -9223372036854775808 ≤ a) (ha1 : a ≤ 9223372036854775807) (hx : RgOk x) :
    Calls Try.prog 4 #[.slice ao es.length cap, .string s, .int .i64 a, .agg #[.int .i64 x.1, .int .i64 x.2]] w fun e w' => e = .returned (.bool true) ∧ Below w.heap.size w w' := by
  by_cases hn : es.length ≤ 100
  · by_cases hf : Fit es
    · exact places_fit es ao cap s a x w hc ho hn hf hss ha0 ha1 hx
    · exact places_unfit es ao cap s a x.1 x.2 w hc ho hn (by rw [← Bool.not_eq_true, fitB_fit]; exact hf)
  · exact places_big ao _ cap s a x.1 x.2 w hn
end Go.Proofs.Ytdkgeeimhjffdaa
namespace Go.Proofs.Ytdkgeeimhjffdaa.spanPlaces
open Go.ChangeShapes Go.WideShapes Go.ChangeAt Go.RowKit Go.Joins
open Go.ChangeMaps (open_string shut_string)

set_option maxRecDepth 100000 in
theorem lifted (os : Os) (started : os.Started) (H : Type) (enc : TypeId × Value → H) :
    ReturnsInHanded {} Try.checked os 4 .any (Rows.spanPlacesSpec.pre6 enc Try.prog Try.f4 Rows.spanPlacesRow.domain false) (Rows.spanPlacesSpec.post enc Try.prog Try.f4 false true false false) := by
  refine returnsInHanded_of_change_sized (C := Try.checked) own started (by kernel_rfl) Try.func4
    (ChangeSpec.witness6 (enc := enc) (C := Try.checked) false ⟨#[], #[.slice none 0 0, .string ByteArray.empty, .int .i64 0, .agg #[.int .i64 0, .int .i64 0]], []⟩ 8 (by kernel_rfl) (by kernel_rfl) (by kernel_rfl) (by kernel_rfl)) ?_
  intro W base args ds gs before hval0 hW _ hsz0 _
  have hval : ∀ (j : Nat) t v, Try.f4.params[j]? = some t → args[j]? = some v → Value.okWide Try.prog W .any base t v := hval0
  have hsz : (DataW.weightsEach Try.prog (Try.f4.params.toList ++ Rows.spanPlacesSpec.plain.varTypes Try.prog) (ds ++ gs)).all (· ≤ reachBytes) = true := hsz0
  have hW' := hW
  obtain ⟨p, q, hA0, hV, rfl, hfz, hnd⟩ := hW
  have hA : DataW.TrodAll enc Try.prog W 0 (fun _ => true) true Try.f4.params.toList args.toList ds p := hA0
  rw [Try.params4] at hA hval hsz
  obtain ⟨v0, v1, v2, v3, d0, d1, d2, d3, p0, p1, p2, p3, rfl, rfl, rfl, h0, h1, h2, h3⟩ := trodAll_four hA
  obtain ⟨rfl, rfl⟩ := trodVars_none hV
  obtain ⟨ao, la, ca, rfl⟩ := okWide_slice Try.underlying22 (hval 0 22 v0 rfl rfl)
  obtain ⟨s, rfl, rfl, rfl, hs0⟩ := open_string Try.underlying9 (hval 1 9 v1 rfl rfl) h1
  obtain ⟨x, rfl, rfl, rfl, wx⟩ := open_int Try.underlying3 (hval 2 3 v2 rfl rfl) h2
  obtain ⟨c0, c1, y0, y1, m, rfl, rfl, rfl, hy0, hy1⟩ := open_agg2 Try.underlying29 (by kernel_rfl) cells29 (hval 3 29 v3 rfl rfl) h3
  obtain ⟨r, e0, rfl, wr⟩ := DataW.trod_int Try.underlying3 hy0
  obtain ⟨c, e1, rfl, wc⟩ := DataW.trod_int Try.underlying3 hy1
  simp at e0 e1
  subst e0 e1
  clear hA0 hval0 hsz0
  have hs := sized_text hsz (j := 1) (t := 9) rfl rfl
  obtain ⟨es, rfl, hoa, ha⟩ := open_ranges rfl h0
  have lt0 : ∀ x ∈ p0, x.block < W.heap.size := by obtain ⟨m, hm⟩ := h0; exact DataW.trod_lt m _ _ _ hm
  simp only [List.append_nil] at hW'
  refine (places_any es ao ca s x (r, c) W ha hoa hs (i64_of wx).1 (i64_of wx).2 ⟨(i64_of wr).1, (i64_of wr).2, (i64_of wc).1, (i64_of wc).2⟩).mono fun e W' ⟨he, bel⟩ => ?_
  subst he
  exact ⟨_, rfl, _, _, _, _, _, [], hW', trodAll_mk1 (shut_bool Try.underlying4 _), trodAll_cons_mk (Below.trod laidOut (by kernel_rfl) (of_decide_eq_true (by kernel_rfl)) h0 bel lt0) (trodAll_cons_mk (shut_string Try.underlying9 hs0) (trodAll_cons_mk (shut_int Try.underlying3 wx) (trodAll_cons_mk (range_reads W' _ wr wc) trodAll_mk0))), rfl, bel.frame _, fun h => by cases h⟩

theorem over : Rows.spanPlacesRow.holds Try.pinned (OpenSpec.ofChange Rows.spanPlacesSpec) :=
  OpenClaim.holds_of_wide 4 Try.f4 rfl rfl rfl rfl rfl rfl rfl ⟨rfl, rfl, rfl, rfl, rfl⟩ rfl rfl rfl rfl rfl (by kernel_rfl) Try.func4 (by kernel_rfl)
    (of_decide_eq_true (by kernel_rfl)) (by unfold Func.isWrapper; first | (rw [if_pos (by decide +kernel)]; kernel_rfl) | (rw [if_neg (by decide +kernel)]; exact ⟨rfl, rfl⟩))
    (fun os started H enc _ => lifted os started H enc)

end Go.Proofs.Ytdkgeeimhjffdaa.spanPlaces
namespace Go.Proofs.Ytdkgeeimhjffdaa
theorem spanPlaces_holds : Rows.SpanPlacesSaid := spanPlaces.over
#print axioms spanPlaces_holds
end Go.Proofs.Ytdkgeeimhjffdaa
