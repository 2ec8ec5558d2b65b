/- The law VmReads, walked. -/
import Derived.Test.YtggehnnbgeffpaaDoorBack
import Derived.Test.YtggehnnbgeffpaaDoorAwake
import Derived.Test.YtggehnnbgeffpaaDoorRefPrint
import Derived.Test.YtggehnnbgeffpaaDoorRefParse
import Derived.Test.YtggehnnbgeffpaaDoorShort
import Derived.Test.YtggehnnbgeffpaaDoorFits
namespace Go.Proofs.YtggehnnbgeffpaaDoor
open Go.Shelf Go.RowKit Go.Lib Go.Proofs

theorem below_alloc {n : Nat} {w W : World} (h : Below n w W) (hn : n ≤ W.heap.size) (o : Obj) : Below n w (W.alloc o) := h.alloc hn o
set_option maxRecDepth 100000 in
set_option maxHeartbeats 8000000 in
theorem reads_any (s : ByteArray) (w : World) (hV : Vars w) (hs : s.size ≤ 1048576) :
    Calls Tryd.prog 3 #[.string s] w fun e w' => e = .returned (.bool true) ∧ Below w.heap.size w w' := by
  have hp1 := parse_any s w (by omega) (ixOk_all s (by omega)) hV
  have hp2 := fun W => refParse_any s W hs
  have haw := fun W (h : Below w.heap.size w W) => awake_any W (hV.next h)
  cases hp : parseN s.data.toList with
  | inl f =>
    obtain ⟨er, a⟩ := f
    have hne := parseN_ne hp
    have hsame := fun W => same_self [] none none 0 0 W (InsAt.nil _ _) (InsAt.nil _ _) (by simp)
    have q1 : (er == 0) = false := beq_eq_false_iff_ne.2 hne
    go_enter Tryd.func3, Tryd.ntmps3
    go_wp2_with fail
    refine hp1.mono ?_
    rintro e w1 ⟨⟨er', a', he, rfl⟩ | ⟨p, ao, cp, he, _⟩, hb1⟩
    · rw [hp] at he
      cases he
      have k1 : Below w.heap.size w (w1.alloc (.cells #[.int .i64 er, .int .i64 a] 25)) := hb1.alloc hb1.size _
      have hp2' := hp2 (w1.alloc (.cells #[.int .i64 er, .int .i64 a] 25))
      go_wp2_with fail
      refine hp2'.mono ?_
      rintro e w2 ⟨⟨er', a', he, rfl⟩ | ⟨p, ao, cp, he, _⟩, hb2⟩
      · rw [hp] at he
        cases he
        have k2 : Below w.heap.size w w2 := below_next k1 hb2
        have hsz1 : (w1.alloc (.cells #[.int .i64 er, .int .i64 a] 25)).heap.size = w1.heap.size + 1 := by simp
        have hc0 : w2.cell? ⟨w1.heap.size, 0, none⟩ = some (.int .i64 er) := by
          rw [hb2.cell (p := ⟨w1.heap.size, 0, none⟩) (by rw [hsz1]; exact Nat.lt_succ_self _), cell_of_obj (World.alloc_heap_new _ _)]
          rfl
        have hc1 : w2.cell? ⟨w1.heap.size, 1, none⟩ = some (.int .i64 a) := by
          rw [hb2.cell (p := ⟨w1.heap.size, 1, none⟩) (by rw [hsz1]; exact Nat.lt_succ_self _), cell_of_obj (World.alloc_heap_new _ _)]
          rfl
        have hlt2 : w1.heap.size < w2.heap.size := by have := hb2.size; rw [hsz1] at this; omega
        have k3 : Below w.heap.size w (w2.alloc (.cells #[.int .i64 er, .int .i64 a] 25)) := k2.alloc k2.size _
        clear hp hp1 hp2 hp2' hV hb1 hb2 hsz1
        go_wp2_with fail
        refine (hsame _).mono ?_
        rintro e w3 ⟨rfl, hb3⟩
        have hsz3 : (w2.alloc (.cells #[.int .i64 er, .int .i64 a] 25)).heap.size = w2.heap.size + 1 := by simp
        have k4 : Below w.heap.size w w3 := below_next k3 hb3
        have hd0 : w3.cell? ⟨w1.heap.size, 0, none⟩ = some (.int .i64 er) := (hb3.cell (p := ⟨w1.heap.size, 0, none⟩) (by rw [hsz3]; show w1.heap.size < _; omega)).trans ((Below.refl w2.heap.size w2 |>.alloc (Nat.le_refl _) _).cell (p := ⟨w1.heap.size, 0, none⟩) hlt2 |>.trans hc0)
        have hd1 : w3.cell? ⟨w1.heap.size, 1, none⟩ = some (.int .i64 a) := (hb3.cell (p := ⟨w1.heap.size, 1, none⟩) (by rw [hsz3]; show w1.heap.size < _; omega)).trans ((Below.refl w2.heap.size w2 |>.alloc (Nat.le_refl _) _).cell (p := ⟨w1.heap.size, 1, none⟩) hlt2 |>.trans hc1)
        have he0 : w3.cell? ⟨w2.heap.size, 0, none⟩ = some (.int .i64 er) := (hb3.cell (p := ⟨w2.heap.size, 0, none⟩) (by rw [hsz3]; exact Nat.lt_succ_self _)).trans (by rw [cell_of_obj (World.alloc_heap_new _ _)]; rfl)
        have he1 : w3.cell? ⟨w2.heap.size, 1, none⟩ = some (.int .i64 a) := (hb3.cell (p := ⟨w2.heap.size, 1, none⟩) (by rw [hsz3]; exact Nat.lt_succ_self _)).trans (by rw [cell_of_obj (World.alloc_heap_new _ _)]; rfl)
        clear hb3 hc0 hc1 k1 k2 k3 hsame
        go_wp2_with (go_at_call 13; refine (haw _ k4).mono ?_; rintro e w5 ⟨rfl, hb5⟩)
        go_ret
        exact ⟨rfl, below_next k4 hb5⟩
      · rw [hp] at he
        cases he
    · rw [hp] at he
      cases he
  | inr P =>
    obtain ⟨hfit, hok⟩ := parseN_fit hp
    have h64 := (fitP_len hfit).2
    go_enter Tryd.func3, Tryd.ntmps3
    go_wp2_with fail
    refine hp1.mono ?_
    rintro e w1 ⟨⟨er', a', he, rfl⟩ | ⟨p, ao, cp, he, hl, rfl, hi1⟩, hb1⟩
    · rw [hp] at he
      cases he
    · rw [hp] at he
      cases he
      have k1 : Below w.heap.size w (w1.alloc (.cells #[.int .i64 0, .int .i64 0] 25)) := hb1.alloc hb1.size _
      have hp2' := hp2 (w1.alloc (.cells #[.int .i64 0, .int .i64 0] 25))
      go_wp2_with fail
      refine hp2'.mono ?_
      rintro e w2 ⟨⟨er', a', he, rfl⟩ | ⟨p, bo, cq, he, hl2, rfl, hi2⟩, hb2⟩
      · rw [hp] at he
        cases he
      · rw [hp] at he
        cases he
        have k2 : Below w.heap.size w w2 := below_next k1 hb2
        have hsz1 : (w1.alloc (.cells #[.int .i64 0, .int .i64 0] 25)).heap.size = w1.heap.size + 1 := by simp
        have hc0 : w2.cell? ⟨w1.heap.size, 0, none⟩ = some (.int .i64 0) := by
          rw [hb2.cell (p := ⟨w1.heap.size, 0, none⟩) (by rw [hsz1]; exact Nat.lt_succ_self _), cell_of_obj (World.alloc_heap_new _ _)]
          rfl
        have hc1 : w2.cell? ⟨w1.heap.size, 1, none⟩ = some (.int .i64 0) := by
          rw [hb2.cell (p := ⟨w1.heap.size, 1, none⟩) (by rw [hsz1]; exact Nat.lt_succ_self _), cell_of_obj (World.alloc_heap_new _ _)]
          rfl
        have hlt2 : w1.heap.size < w2.heap.size := by have := hb2.size; rw [hsz1] at this; omega
        have k3 : Below w.heap.size w (w2.alloc (.cells #[.int .i64 0, .int .i64 0] 25)) := k2.alloc k2.size _
        have a1 : Below w1.heap.size w1 (w1.alloc (.cells #[.int .i64 0, .int .i64 0] 25)) := (Below.refl _ _).alloc (Nat.le_refl _) _
        have a2 : Below w2.heap.size w2 (w2.alloc (.cells #[.int .i64 0, .int .i64 0] 25)) := (Below.refl _ _).alloc (Nat.le_refl _) _
        have hi1' : InsAt P ao (w2.alloc (.cells #[.int .i64 0, .int .i64 0] 25)) := ((hi1.next a1).next hb2).next a2
        have hi2' : InsAt P bo (w2.alloc (.cells #[.int .i64 0, .int .i64 0] 25)) := hi2.next a2
        have hsame := same_self P ao bo cp cq _ hi1' hi2' h64
        have HV : Hid (Vars w) := hV
        clear hp hp1 hp2 hp2' hb1 hb2 hsz1 hi1 hi2 a1 hV
        go_wp2_with fail
        refine hsame.mono ?_
        rintro e w3 ⟨rfl, hb3⟩
        have hsz3 : (w2.alloc (.cells #[.int .i64 0, .int .i64 0] 25)).heap.size = w2.heap.size + 1 := by simp
        have k4 : Below w.heap.size w w3 := below_next k3 hb3
        have hi3 : InsAt P bo w3 := hi2'.next hb3
        have hd0 : w3.cell? ⟨w1.heap.size, 0, none⟩ = some (.int .i64 0) := (hb3.cell (p := ⟨w1.heap.size, 0, none⟩) (by rw [hsz3]; show w1.heap.size < _; omega)).trans (a2.cell (p := ⟨w1.heap.size, 0, none⟩) hlt2 |>.trans hc0)
        have hd1 : w3.cell? ⟨w1.heap.size, 1, none⟩ = some (.int .i64 0) := (hb3.cell (p := ⟨w1.heap.size, 1, none⟩) (by rw [hsz3]; show w1.heap.size < _; omega)).trans (a2.cell (p := ⟨w1.heap.size, 1, none⟩) hlt2 |>.trans hc1)
        have he0 : w3.cell? ⟨w2.heap.size, 0, none⟩ = some (.int .i64 0) := (hb3.cell (p := ⟨w2.heap.size, 0, none⟩) (by rw [hsz3]; exact Nat.lt_succ_self _)).trans (by rw [cell_of_obj (World.alloc_heap_new _ _)]; rfl)
        have he1 : w3.cell? ⟨w2.heap.size, 1, none⟩ = some (.int .i64 0) := (hb3.cell (p := ⟨w2.heap.size, 1, none⟩) (by rw [hsz3]; exact Nat.lt_succ_self _)).trans (by rw [cell_of_obj (World.alloc_heap_new _ _)]; rfl)
        have hpr := print_any P bo cq w3 (HV.out.next k4) hi3 hfit hok
        have hpr2 := fun W (hb : Below w3.heap.size w3 W) => refPrint_any P bo cq W (hi3.next hb) hfit hok
        generalize strB (printN P) = tx at *
        clear hb3 hc0 hc1 k1 k2 k3 hsame hi1' hi2' hi3 hfit hok a2
        go_wp2_with (first
          | (go_at_call 11; refine hpr.mono ?_; rintro e w5 ⟨rfl, hb5⟩; have k5 := below_next k4 hb5)
          | (go_at_call 12; refine (hpr2 _ hb5).mono ?_; rintro e w6 ⟨rfl, hb6⟩; have k6 := below_next k5 hb6)
          | (go_at_call 13; refine (haw _ k6).mono ?_; rintro e w7 ⟨rfl, hb7⟩))
        go_ret
        exact ⟨rfl, below_next k6 hb7⟩
end Go.Proofs.YtggehnnbgeffpaaDoor
