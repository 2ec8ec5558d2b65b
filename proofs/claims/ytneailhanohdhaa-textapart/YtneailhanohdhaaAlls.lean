/- The contracts of All (edits, one after another), of the program and the document's own: both are one text and one error, for every text and every row of edits whose strings are of at most 140737488351232 bytes. -/
import Derived.Test.YtneailhanohdhaaBackWalk
namespace Go.Proofs.Ytneailhanohdhaa
open Go.RowKit

structure Ed where
  a : Int
  o : Int
  t : ByteArray

structure Ed.Ok (e : Ed) : Prop where
  a : I64 e.a
  o : I64 e.o
  t : e.t.size ≤ 140737488351232

/-- Edits, one after another: the text behind, and the error's number; where one can't be made, the text that was. -/
def allN (s : ByteArray) : ByteArray → List Ed → ByteArray × Int
  | t, [] => (t, 0)
  | t, e :: es => if fitN t.size e.a e.o e.t.size = 0 then allN s (appB t e.t e.a e.o) es else (s, fitN t.size e.a e.o e.t.size)

/-- The cells from offset 'off' of block b on hold the edits. -/
def EdCells (b off : Nat) (es : List Ed) (W : World) : Prop :=
  ∀ (i : Nat) (e : Ed), es[i]? = some e → b < W.heap.size ∧ W.cell? ⟨b, off + i * 3, none⟩ = some (.int .i64 e.a) ∧ W.cell? ⟨b, off + i * 3 + 1, none⟩ = some (.int .i64 e.o) ∧ W.cell? ⟨b, off + i * 3 + 1 + 1, none⟩ = some (.string e.t)

theorem app_small {s t : ByteArray} {a o : Int} (hf : fitN s.size a o t.size = 0) : (appB s t a o).size ≤ 140737488351232 := by
  have h1 := fit_zero hf
  have h2 := appB_size hf
  omega
theorem all_step {s T : ByteArray} {e : Ed} {es : List Ed} (h : fitN T.size e.a e.o e.t.size = 0) : allN s T (e :: es) = allN s (appB T e.t e.a e.o) es := by
  rw [allN, if_pos h]
theorem all_stop {s T : ByteArray} {e : Ed} {es : List Ed} (h : ¬ fitN T.size e.a e.o e.t.size = 0) : allN s T (e :: es) = (s, fitN T.size e.a e.o e.t.size) := by
  rw [allN, if_neg h]

set_option maxHeartbeats 1000000 in
theorem all_any (s : ByteArray) (es : List Ed) (b off cap : Nat) (w : World) (hs : s.size ≤ 140737488351232) (hes : ∀ e ∈ es, e.Ok) (hc : EdCells b off es w) (hl : es.length ≤ 140737488351232) :
    Calls Try.prog 22 #[.string s, .slice (some ⟨b, off, none⟩) es.length cap] w fun e w' => e = .returned (.tuple #[.string (allN s s es).1, .int .i64 (allN s s es).2]) ∧ Below w.heap.size w w' := by
  go_enter Try.func22, Try.ntmps22
  go_wp2
  go_loopw [6, 14] (fun t i wr => ∃ (T : ByteArray) (j : Nat), t = .string T ∧ i = .int .i64 j ∧ j ≤ es.length ∧ T.size ≤ 140737488351232 ∧ allN s s es = allN s T (es.drop j) ∧ Below w.heap.size w wr) (fun _ i _ => es.length - (intOf i).toNat)
  case atStart => exact ⟨s, 0, rfl, rfl, Nat.zero_le _, hs, by simp, Below.refl _ _⟩
  case round =>
    obtain ⟨T, j, rfl, rfl, hj, hT, hrel, B1⟩ := hrel
    have HR : Hid (allN s s es = allN s T (es.drop j)) := hrel
    clear hrel
    by_cases hlt : j < es.length
    · obtain ⟨e, he⟩ : ∃ e, es[j]? = some e := ⟨es[j], by simp [hlt]⟩
      have HD : Hid (es.drop j = e :: es.drop (j + 1)) := by
        show _ = _
        rw [List.drop_eq_getElem_cons hlt]
        congr 1
        rw [List.getElem?_eq_getElem hlt] at he
        exact Option.some.inj he
      obtain ⟨oa, oo, ot⟩ := hes e (List.mem_of_getElem? he)
      obtain ⟨hb, c0, c1, c2⟩ := hc j e he
      rw [← B1.cell (p := ⟨b, off + j * 3, none⟩) hb] at c0
      rw [← B1.cell (p := ⟨b, off + j * 3 + 1, none⟩) hb] at c1
      rw [← B1.cell (p := ⟨b, off + j * 3 + 1 + 1, none⟩) hb] at c2
      have HC : Hid (EdCells b off es w) := hc
      have HE : Hid (es[j]? = some e) := he
      clear hc he hes
      go_wp2_with fail
      refine (apply_any _ _ _ _ _ hT ot oa oo).mono ?_
      by_cases hf : fitN T.size e.a e.o e.t.size = 0
      · have HS : Hid (allN s s es = allN s (appB T e.t e.a e.o) (es.drop (j + 1))) := by
          show _ = _
          rw [HR.out, HD.out, all_step hf]
        have hT2 := app_small hf
        rw [hf]
        clear HR HD hf
        generalize appB T e.t e.a e.o = T2 at *
        rintro e2 w2 ⟨rfl, hb2⟩
        replace B1 := below_then (B1.alloc B1.size _) hb2 (by have := B1.size; simp; omega)
        clear hb2
        go_wp2
        exact ⟨⟨T2, j + 1, rfl, by go_num, by omega, hT2, HS.out, B1⟩, by simp [intOf]; omega⟩
      · have HS : Hid (allN s s es = (s, fitN T.size e.a e.o e.t.size)) := by
          show _ = _
          rw [HR.out, HD.out, all_stop hf]
        have hne : (fitN T.size e.a e.o e.t.size != 0) = true := by simpa using hf
        clear HR HD hf
        generalize fitN T.size e.a e.o e.t.size = f at *
        generalize appB T e.t e.a e.o = T2 at *
        rintro e2 w2 ⟨rfl, hb2⟩
        replace B1 := below_then (B1.alloc B1.size _) hb2 (by have := B1.size; simp; omega)
        clear hb2
        go_wp2
        go_ret2
        exact ⟨ret_si (by rw [HS.out]) (by rw [HS.out]), B1⟩
    · have HS : Hid (allN s s es = (T, 0)) := by
        show _ = _
        rw [HR.out, List.drop_of_length_le (by omega)]
        rfl
      clear HR hc hes
      go_wp2
      go_ret2
      exact ⟨ret_si (by rw [HS.out]) (by rw [HS.out]), B1⟩

set_option maxHeartbeats 400000 in
theorem all_nil (s : ByteArray) (ao : Option Addr) (cap : Nat) (w : World) :
    Calls Try.prog 22 #[.string s, .slice ao 0 cap] w fun e w' => e = .returned (.tuple #[.string s, .int .i64 0]) ∧ Below w.heap.size w w' := by
  go_enter Try.func22, Try.ntmps22
  go_wp2
  refine wp_loop_rounds 1 ?_
  rw [rounds_succ]
  go_wp2
  go_ret2
  exact ⟨rfl, Below.refl _ _⟩

set_option maxHeartbeats 1000000 in
theorem rall_any (s : ByteArray) (es : List Ed) (b off cap : Nat) (w : World) (hs : s.size ≤ 140737488351232) (hes : ∀ e ∈ es, e.Ok) (hc : EdCells b off es w) (hl : es.length ≤ 140737488351232) :
    Calls Try.prog 23 #[.string s, .slice (some ⟨b, off, none⟩) es.length cap] w fun e w' => e = .returned (.tuple #[.string (allN s s es).1, .int .i64 (allN s s es).2]) ∧ Below w.heap.size w w' := by
  go_enter Try.func23, Try.ntmps23
  go_wp2
  go_loopw [6, 7] (fun t i wr => ∃ (T : ByteArray) (j : Nat), t = .string T ∧ i = .int .i64 j ∧ j ≤ es.length ∧ T.size ≤ 140737488351232 ∧ allN s s es = allN s T (es.drop j) ∧ Below w.heap.size w wr) (fun _ i _ => es.length - (intOf i).toNat)
  case atStart => exact ⟨s, 0, rfl, rfl, Nat.zero_le _, hs, by simp, Below.refl _ _⟩
  case round =>
    obtain ⟨T, j, rfl, rfl, hj, hT, hrel, B1⟩ := hrel
    have HR : Hid (allN s s es = allN s T (es.drop j)) := hrel
    clear hrel
    by_cases hlt : j < es.length
    · obtain ⟨e, he⟩ : ∃ e, es[j]? = some e := ⟨es[j], by simp [hlt]⟩
      have HD : Hid (es.drop j = e :: es.drop (j + 1)) := by
        show _ = _
        rw [List.drop_eq_getElem_cons hlt]
        congr 1
        rw [List.getElem?_eq_getElem hlt] at he
        exact Option.some.inj he
      obtain ⟨oa, oo, ot⟩ := hes e (List.mem_of_getElem? he)
      obtain ⟨hb, c0, c1, c2⟩ := hc j e he
      rw [← B1.cell (p := ⟨b, off + j * 3, none⟩) hb] at c0
      rw [← B1.cell (p := ⟨b, off + j * 3 + 1, none⟩) hb] at c1
      rw [← B1.cell (p := ⟨b, off + j * 3 + 1 + 1, none⟩) hb] at c2
      have HC : Hid (EdCells b off es w) := hc
      have HE : Hid (es[j]? = some e) := he
      clear hc he hes
      go_wp2_with fail
      refine (rapply_any _ _ _ _ _ hT ot oa oo).mono ?_
      by_cases hf : fitN T.size e.a e.o e.t.size = 0
      · have HS : Hid (allN s s es = allN s (appB T e.t e.a e.o) (es.drop (j + 1))) := by
          show _ = _
          rw [HR.out, HD.out, all_step hf]
        have hT2 := app_small hf
        rw [hf]
        clear HR HD hf
        generalize appB T e.t e.a e.o = T2 at *
        rintro e2 w2 ⟨rfl, hb2⟩
        replace B1 := below_then B1 hb2 B1.size
        clear hb2
        go_wp2
        exact ⟨⟨T2, j + 1, rfl, by go_num, by omega, hT2, HS.out, B1⟩, by simp [intOf]; omega⟩
      · have HS : Hid (allN s s es = (s, fitN T.size e.a e.o e.t.size)) := by
          show _ = _
          rw [HR.out, HD.out, all_stop hf]
        have hne : (fitN T.size e.a e.o e.t.size != 0) = true := by simpa using hf
        clear HR HD hf
        generalize fitN T.size e.a e.o e.t.size = f at *
        generalize appB T e.t e.a e.o = T2 at *
        rintro e2 w2 ⟨rfl, hb2⟩
        replace B1 := below_then B1 hb2 B1.size
        clear hb2
        go_wp2
        go_ret2
        exact ⟨ret_si (by rw [HS.out]) (by rw [HS.out]), B1⟩
    · have HS : Hid (allN s s es = (T, 0)) := by
        show _ = _
        rw [HR.out, List.drop_of_length_le (by omega)]
        rfl
      clear HR hc hes
      go_wp2
      go_ret2
      exact ⟨ret_si (by rw [HS.out]) (by rw [HS.out]), B1⟩


set_option maxHeartbeats 400000 in
theorem rall_nil (s : ByteArray) (ao : Option Addr) (cap : Nat) (w : World) :
    Calls Try.prog 23 #[.string s, .slice ao 0 cap] w fun e w' => e = .returned (.tuple #[.string s, .int .i64 0]) ∧ Below w.heap.size w w' := by
  go_enter Try.func23, Try.ntmps23
  go_wp2
  refine wp_loop_rounds 1 ?_
  rw [rounds_succ]
  go_wp2
  go_ret2
  exact ⟨rfl, Below.refl _ _⟩
end Go.Proofs.Ytneailhanohdhaa
