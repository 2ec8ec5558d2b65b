/- Text of the program and the document's own: the bytes of a text that lie in ranges of the normal form, in their order. -/
import Derived.Test.YtdkgeeimhjffdaaKeep
import Derived.Shelf.Strings.Builder1
import Derived.Ground.NamesProg
namespace Go.Proofs.Ytdkgeeimhjffdaa
open Go.RowKit Go.Shelf

theorem info50 : (Try.prog.info? 50).map (·.size) = some 2 := by kernel_rfl
theorem lies50 : liesAt Try.prog Try.prog.depth 50 (2 / Try.prog.cellsOf 50) 0 50 1 = true := by kernel_rfl
theorem info5 : (Try.prog.info? 5).map (fun i => (i.zero, i.size, i.bytes)) = some (some (.int .u8 0), 1, 1) := by kernel_rfl

set_option maxHeartbeats 1000000 in
set_option maxRecDepth 100000 in
theorem check_used (b : Nat) (w : World) (h0 : w.cell? ⟨b, 0, none⟩ = some (.pointer (some ⟨b, 0, none⟩))) :
    Calls Try.prog 42 #[.pointer (some ⟨b, 0, none⟩)] w fun e w' => e = .returned (.tuple #[]) ∧ w' = w := by
  obtain ⟨j, hj, _⟩ := Option.map_eq_some_iff.1 info50
  go_enter Try.func42, Try.ntmps42
  go_wp2
  rw [Lib.run_neq_ptr_same w _ Try.underlying47 hj]
  go_wp2
  go_end0
  exact ⟨rfl, rfl⟩

set_option maxHeartbeats 1000000 in
set_option maxRecDepth 100000 in
theorem check_fresh (b : Nat) (w : World) (h0 : w.cell? ⟨b, 0, none⟩ = some (.pointer none)) (hsh : w.shape? b = some (50, 2)) (hfz : w.frozen? ⟨b, 0, none⟩ = false) :
    Calls Try.prog 42 #[.pointer (some ⟨b, 0, none⟩)] w fun e w' => e = .returned (.tuple #[]) ∧ w' = w.setCell ⟨b, 0, none⟩ (.pointer (some ⟨b, 0, none⟩)) := by
  obtain ⟨j, hj, hjs⟩ := Option.map_eq_some_iff.1 info50
  go_enter Try.func42, Try.ntmps42
  go_wp2
  rw [Lib.run_to_unsafe w ⟨b, 0, none⟩ Try.underlying47 Try.underlying66 hj (by rw [hjs]; decide) hsh (Nat.zero_lt_succ 1)]
  simp only [Result.andThen]
  rw [Oper.upon_value]
  go_wp2
  rw [run_callFunc_extern Try.func45 (by kernel_rfl) (by kernel_rfl) (by kernel_rfl) (e := Extern.AbiNoEscape.same) (by kernel_rfl)]
  rw [Lib.run_noEscape]
  simp only [Result.andThen]
  rw [Oper.upon_value]
  go_wp2
  rw [Lib.run_from_unsafe w ⟨b, 0, none⟩ Try.underlying66 Try.underlying47 hj hsh lies50]
  simp only [Result.andThen]
  rw [Oper.upon_value]
  go_wp2
  go_end0
  exact ⟨rfl, rfl⟩

theorem check_any (B b : Nat) (bs : List Value) (w : World) (h : Lib.IsBuilder 50 5 B b bs w) :
    Calls Try.prog 42 #[.pointer (some ⟨b, 0, none⟩)] w fun e w' => e = .returned (.tuple #[]) ∧ (Lib.BuilderAt 50 5 B b (.pointer (some ⟨b, 0, none⟩)) bs w' ∧ Below B w w') := by
  rcases h with h | h
  · exact (check_fresh b w h.cell0 h.shape h.frozen0).mono fun _ _ ⟨he, hw⟩ => ⟨he, by rw [hw]; exact h.used _, by rw [hw]; exact (Below.refl B w).setCell (p := ⟨b, 0, none⟩) h.1 _⟩
  · exact (check_used b w h.cell0).mono fun _ _ ⟨he, hw⟩ => ⟨he, by rw [hw]; exact h, by rw [hw]; exact Below.refl B _⟩

set_option maxHeartbeats 2000000 in
set_option maxRecDepth 100000 in
theorem write_any (B b : Nat) (bs : List Value) (s : ByteArray) (w : World) (h : Lib.IsBuilder 50 5 B b bs w) (hlen : bs.length + s.size ≤ 140737488355328) (hBw : B ≤ w.heap.size) :
    Calls Try.prog 38 #[.pointer (some ⟨b, 0, none⟩), .string s] w fun e w' => e = .returned (.tuple #[.int .i64 s.size, .nilIface]) ∧ (Lib.BuilderAt 50 5 B b (.pointer (some ⟨b, 0, none⟩)) (bs ++ Lib.strCells s) w' ∧ Below B w w') := by
  obtain ⟨i0, hi, hz0, hz1, hz2⟩ := info_parts info5
  go_enter Try.func38, Try.ntmps38
  go_wp2_with (go_at_call 42; refine (check_any B b bs _ h).mono ?_)
  rintro e w1 ⟨rfl, ⟨hB, v, hbk, hown, hne⟩, hb1⟩
  have c0 : w1.cell? ⟨b, 0, none⟩ = some (.pointer (some ⟨b, 0, none⟩)) := by rw [Lib.cell_of_heap hbk]; rfl
  have c1 : w1.cell? ⟨b, 1, none⟩ = some v := by rw [Lib.cell_of_heap hbk]; rfl
  have hsz := hb1.size
  go_wp2_with (at_builtin; refine Lib.wpList_append_own_string _ rfl _ _ 48 9 rfl B 5 i0 Try.underlying48 Try.underlying9 hi hz0 hz1 hz2 _ _ _ rfl hown s rfl (by unfold maxLen; omega) (by omega) (by omega) ?_)
  intro v' w2 hown' hgrow _
  have hlt : b < w1.heap.size := (Array.getElem?_eq_some_iff.1 hbk).1
  have hb2 : w2.heap[b]? = some (.cells #[.pointer (some ⟨b, 0, none⟩), v] 50 (0, 0)) := (hgrow.block b hlt (fun e => hne e.symm)).trans hbk
  have d0 : w2.cell? ⟨b, 0, none⟩ = some (.pointer (some ⟨b, 0, none⟩)) := by rw [Lib.cell_of_heap hb2]; rfl
  have d1 : w2.cell? ⟨b, 1, none⟩ = some v := by rw [Lib.cell_of_heap hb2]; rfl
  have f1 : w2.frozen? ⟨b, 1, none⟩ = false := Lib.frozen_of_heap hb2 1
  obtain ⟨ao, n', cap, rfl⟩ : ∃ ao n' cap, v' = .slice ao n' cap := by
    rcases hown'.2 with ⟨hv, _⟩ | ⟨g, cap, cur, hv, _⟩
    · exact ⟨_, _, _, hv⟩
    · exact ⟨_, _, _, hv⟩
  go_wp2
  go_ret2
  refine ⟨rfl, ?_, ?_⟩
  · exact Lib.BuilderAt.put (T := 50) (e := 5) hB hb2 (bs' := bs ++ Lib.strCells s) (by simpa [Lib.strCells_length] using hown') (by decide)
  · exact (hb1.grown hgrow (by omega) (fun k hk => (hown.lt k hk).1)).setCell (p := ⟨b, 1, none⟩) hB _

shelf_lay Lays.n169 Nm 169 at Try as Try.lays169
theorem extra169 : Builder.Extra Try.prog Try.lays169_ren where
  sizeBuilder := by kernel_rfl
  liesBuilder := by kernel_rfl
  t5 := Try.underlying5
  a5 := Try.isAgg5
  z5 := Try.sizeOf5
  v5 := Try.zeroValue5
  infoByte := by kernel_rfl
  cellsByte := by kernel_rfl
  sizeByte := by kernel_rfl
  neB5 := by decide
theorem string_any (B b : Nat) (l : List UInt8) (w : World) (h : Lib.IsBuilder 50 5 B b (Lib.byteCells l) w) (hBw : B ≤ w.heap.size) :
    Calls Try.prog 39 #[.pointer (some ⟨b, 0, none⟩)] w fun e w' => e = .returned (.string ⟨l.toArray⟩) ∧ Below B w w' := Any.Builder_String_any Try.lays169 extra169 B b l w h hBw

def pieceN (l : List UInt8) (r : Rg) : List UInt8 := (l.drop r.1.toNat).take (r.2.toNat - r.1.toNat)
def textN (l : List UInt8) (rs : List Rg) : List UInt8 := rs.flatMap (pieceN l)

theorem textN_le {l : List UInt8} : ∀ {rs : List Rg} {m : Nat}, Fit rs → (∀ r ∈ rs, (m : Int) ≤ r.1) → (textN l rs).length ≤ l.length - m
  | [], m, _, _ => by simp [textN]
  | r :: t, m, hf, hm => by
    have h0 := hf.1 r (by simp)
    have h1 := hm r (by simp)
    have h2 := textN_le (l := l) (rs := t) (m := r.2.toNat) hf.tail (fun s hs => by have := hf.head s hs; omega)
    simp only [textN, List.flatMap_cons, List.length_append] at h2 ⊢
    simp only [pieceN, List.length_take, List.length_drop]
    omega
theorem Fit.take {l : List Rg} (h : Fit l) (j : Nat) : Fit (l.take j) := ⟨fun r hr => h.1 r (List.mem_of_mem_take hr), h.2.sublist (List.take_sublist _ _)⟩
theorem textN_len {l : List UInt8} {rs : List Rg} (h : Fit rs) : (textN l rs).length ≤ l.length := by
  have := textN_le (l := l) (m := 0) h (fun r hr => by have := h.1 r hr; omega)
  omega
theorem textN_step {l : List UInt8} {rs : List Rg} {j : Nat} (h : j < rs.length) : textN l (rs.take (j + 1)) = textN l (rs.take j) ++ pieceN l rs[j] := by
  unfold textN
  rw [List.take_succ_eq_append_getElem h]
  simp only [List.flatMap_append, List.flatMap_cons, List.flatMap_nil, List.append_nil]
theorem piece_extract (s : ByteArray) (a b f t : Nat) (hab : a < b) (hf : f = min a s.size) (ht : t = min (max b f) s.size) : (s.extract f t).data.toList = pieceN s.data.toList (a, b) := by
  have h1 : (s.extract f t).data.toList = (s.data.toList.drop f).take (t - f) := by
    rw [ByteArray.data_extract, Array.toList_extract, List.extract_eq_take_drop]
  rw [h1]
  have hl : s.data.toList.length = s.size := rfl
  unfold pieceN
  simp only [Int.toNat_natCast]
  rcases Nat.lt_or_ge a s.size with hlt | hge
  · obtain rfl : f = a := by omega
    rw [List.take_eq_take_iff]
    simp only [List.length_drop, hl]
    omega
  · rw [List.drop_of_length_le (by omega), List.drop_of_length_le (by omega)]
    simp

theorem at_alloc {B b : Nat} {p : Value} {bs : List Value} {w : World} (h : Lib.BuilderAt 50 5 B b p bs w) (o : Obj) : Lib.BuilderAt 50 5 B b p bs (w.alloc o) := by
  obtain ⟨hB, v, hbk, hown, hne⟩ := h
  exact ⟨hB, v, (Below.heap_alloc w o b (Array.getElem?_eq_some_iff.1 hbk).1).trans hbk, hown.alloc o, hne⟩
theorem builder_alloc {B b : Nat} {bs : List Value} {w : World} (h : Lib.IsBuilder 50 5 B b bs w) (o : Obj) : Lib.IsBuilder 50 5 B b bs (w.alloc o) := h.imp (at_alloc · o) (at_alloc · o)

set_option maxHeartbeats 1000000 in
theorem text_any (s : ByteArray) (es : List Rg) (ao : Option Addr) (cap : Nat) (w : World) (hs : s.size ≤ 140737488351232) (hc : RgAt es ao w) (hf : Fit es) (hl : es.length ≤ 1000000) :
    Calls Try.prog 27 #[.string s, .slice ao es.length cap] w fun e w' => e = .returned (.string ⟨(textN s.data.toList es).toArray⟩) ∧ Below w.heap.size w w' := by
  have hb0 : Lib.IsBuilder 50 5 w.heap.size w.heap.size [] (w.alloc (.cells #[.pointer none, .slice none 0 0] 50)) := Lib.fresh_isBuilder 50 5 w
  go_enter Try.func27, Try.ntmps27
  go_wp2
  go_loopw [12] (fun i wr => ∃ (j : Nat), i = .int .i64 j ∧ j ≤ es.length ∧ Lib.IsBuilder 50 5 w.heap.size w.heap.size (Lib.byteCells (textN s.data.toList (es.take j))) wr ∧ Below w.heap.size w wr) (fun i _ => es.length - (intOf i).toNat)
  case atStart => exact ⟨0, rfl, Nat.zero_le _, hb0, (Below.refl _ _).alloc (Nat.le_refl _) _⟩
  case round =>
    clear hb0
    obtain ⟨j, rfl, hj, hbu, B1⟩ := hrel
    by_cases hlt : j < es.length
    · obtain ⟨b, off, rfl, c0, c1⟩ := hc.at B1 hlt
      have h0 := hf.1 _ (List.getElem_mem hlt)
      have hST := textN_step (l := s.data.toList) hlt
      have hlen := textN_len (l := s.data.toList) (hf.take j)
      have hlen2 := textN_len (l := s.data.toList) (hf.take (j + 1))
      generalize es[j] = r at *
      obtain ⟨r0, r1⟩ := r
      simp only at c0 c1 h0
      obtain ⟨x, rfl⟩ := Int.eq_ofNat_of_zero_le h0.1
      obtain ⟨y, rfl⟩ := Int.eq_ofNat_of_zero_le (show 0 ≤ r1 by omega)
      have hxy : x < y := by omega
      obtain ⟨f, hfd⟩ : ∃ f, f = min x s.size := ⟨_, rfl⟩
      obtain ⟨t, htd⟩ : ∃ t, t = min (max y f) s.size := ⟨_, rfl⟩
      have hex := piece_extract s x y f t hxy hfd htd
      have e1 : max (x : Int) 0 = x := by omega
      have e2 : min (x : Int) (s.size : Int) = f := by omega
      have e3 : min (max (y : Int) (f : Int)) (s.size : Int) = t := by omega
      have hft : f ≤ t := by omega
      have hts : t ≤ s.size := by omega
      have hft' : (f : Int) ≤ t := by omega
      have hts' : (t : Int) ≤ s.size := by omega
      have HB : Hid (Lib.IsBuilder 50 5 w.heap.size w.heap.size (Lib.byteCells (textN s.data.toList (es.take j))) wr) := hbu
      have HST : Hid (textN s.data.toList (es.take (j + 1)) = textN s.data.toList (es.take j) ++ (s.extract f t).data.toList) := by show _ = _; rw [hST, hex]
      have HL : Hid ((textN s.data.toList (es.take (j + 1))).length ≤ s.data.toList.length) := hlen2
      clear hbu hc hf hST hex hlen hlen2 hfd htd h0
      have hlen3 := HL.out
      rw [HST.out, List.length_append] at hlen3
      have hl3 : (Lib.byteCells (textN s.data.toList (es.take j))).length + (s.extract f t).size ≤ 140737488355328 := by
        rw [Lib.byteCells_length]
        have : s.data.toList.length = s.size := rfl
        have : (s.extract f t).data.toList.length = (s.extract f t).size := rfl
        omega
      have hbl : Lib.IsBuilder 50 5 w.heap.size w.heap.size (Lib.byteCells (textN s.data.toList (es.take j))) (wr.alloc (Obj.cells #[Value.int IntKind.i64 x, Value.int IntKind.i64 y] 29)) := builder_alloc HB.out _
      have hw := write_any w.heap.size w.heap.size _ (s.extract f t) _ hbl hl3 (by have := B1.size; simp; omega)
      have HW : Hid (Lib.byteCells (textN s.data.toList (es.take (j + 1))) = Lib.byteCells (textN s.data.toList (es.take j)) ++ Lib.strCells (s.extract f t)) := by show _ = _; rw [HST.out, Lib.strCells_eq, Lib.byteCells_append]
      clear hlen3 hl3 hbl HL HST HB
      go_wp2_with fail
      refine hw.mono ?_
      rintro e w2 ⟨rfl, hbu2, hb2⟩
      have B2 := (B1.alloc B1.size (Obj.cells #[Value.int IntKind.i64 x, Value.int IntKind.i64 y] 29)).trans hb2
      have hbu3 : Lib.IsBuilder 50 5 w.heap.size w.heap.size (Lib.byteCells (textN s.data.toList (es.take (j + 1)))) w2 := by rw [HW.out]; exact .inr hbu2
      clear hbu2 hb2 hw
      go_wp2
      exact ⟨⟨j + 1, by go_num, by omega, hbu3, B2⟩, by simp [intOf]; omega⟩
    · have HT : Hid (es.take j = es) := List.take_of_length_le (by omega)
      rw [HT.out] at hbu
      have hs2 := string_any _ _ _ _ hbu B1.size
      clear hbu hc hf
      go_wp2_with fail
      refine hs2.mono ?_
      rintro e w2 ⟨rfl, hb2⟩
      have B2 := B1.trans hb2
      go_wp2
      go_ret
      exact ⟨rfl, B2⟩
end Go.Proofs.Ytdkgeeimhjffdaa
