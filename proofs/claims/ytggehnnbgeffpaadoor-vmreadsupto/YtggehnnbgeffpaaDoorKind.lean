/- kindOf and numbersOf. -/
import Derived.Test.YtggehnnbgeffpaaDoorRead0
import Derived.Deep.Cut
namespace Go.Proofs.YtggehnnbgeffpaaDoor
open Go.Shelf Go.RowKit Go.Lib Go.Proofs

def kindV (l : List UInt8) : Value := match kindN l with
  | some k => .tuple #[.int .i64 k, .bool true]
  | none => .tuple #[.int .i64 0, .bool false]
theorem kind_some {l : List UInt8} {k : Nat} (hk : k < 8) (h : wordL k = l) (hb : ∀ j, j < k → wordL j ≠ l) : kindN l = some k := by
  unfold kindN
  rw [List.find?_range_eq_some]
  refine ⟨by simp [h], by simpa using hk, fun j hj => by simp; exact hb j hj⟩
theorem kind_none {l : List UInt8} (hb : ∀ j, j < 8 → wordL j ≠ l) : kindN l = none := by
  unfold kindN
  rw [List.find?_eq_none]
  intro j hj
  simp at hj
  simpa using hb j hj

def formArr : Array Value := #[Value.string ⟨#[]⟩, .bool false, .bool false, .bool false, Value.string ⟨#[99, 104, 97, 114]⟩, .bool true, .bool true, .bool true, Value.string ⟨#[105, 115]⟩, .bool true, .bool false, .bool true, Value.string ⟨#[115, 101, 116]⟩, .bool true, .bool false, .bool false, Value.string ⟨#[97, 100, 100]⟩, .bool true, .bool false, .bool false, Value.string ⟨#[103, 111, 116, 111]⟩, .bool false, .bool false, .bool true, Value.string ⟨#[121, 101, 115]⟩, .bool false, .bool false, .bool false, Value.string ⟨#[110, 111]⟩, .bool false, .bool false, .bool false]
theorem ix0 (w : World) : (Instr.index 74 (.agg formArr) (.int .i64 0)).run Tryd.prog w = .ok (.agg #[Value.string ⟨#[]⟩, .bool false, .bool false, .bool false]) w := by
  simp [formArr, Instr.index, run_underlying Tryd.underlying74, asIntOf, go_sem, Tryd.sizeOf73, Tryd.isAgg73]
theorem ix1 (w : World) : (Instr.index 74 (.agg formArr) (.int .i64 1)).run Tryd.prog w = .ok (.agg #[Value.string ⟨#[99, 104, 97, 114]⟩, .bool true, .bool true, .bool true]) w := by
  simp [formArr, Instr.index, run_underlying Tryd.underlying74, asIntOf, go_sem, Tryd.sizeOf73, Tryd.isAgg73]
theorem ix2 (w : World) : (Instr.index 74 (.agg formArr) (.int .i64 2)).run Tryd.prog w = .ok (.agg #[Value.string ⟨#[105, 115]⟩, .bool true, .bool false, .bool true]) w := by
  simp [formArr, Instr.index, run_underlying Tryd.underlying74, asIntOf, go_sem, Tryd.sizeOf73, Tryd.isAgg73]
theorem ix3 (w : World) : (Instr.index 74 (.agg formArr) (.int .i64 3)).run Tryd.prog w = .ok (.agg #[Value.string ⟨#[115, 101, 116]⟩, .bool true, .bool false, .bool false]) w := by
  simp [formArr, Instr.index, run_underlying Tryd.underlying74, asIntOf, go_sem, Tryd.sizeOf73, Tryd.isAgg73]
theorem ix4 (w : World) : (Instr.index 74 (.agg formArr) (.int .i64 4)).run Tryd.prog w = .ok (.agg #[Value.string ⟨#[97, 100, 100]⟩, .bool true, .bool false, .bool false]) w := by
  simp [formArr, Instr.index, run_underlying Tryd.underlying74, asIntOf, go_sem, Tryd.sizeOf73, Tryd.isAgg73]
theorem ix5 (w : World) : (Instr.index 74 (.agg formArr) (.int .i64 5)).run Tryd.prog w = .ok (.agg #[Value.string ⟨#[103, 111, 116, 111]⟩, .bool false, .bool false, .bool true]) w := by
  simp [formArr, Instr.index, run_underlying Tryd.underlying74, asIntOf, go_sem, Tryd.sizeOf73, Tryd.isAgg73]
theorem ix6 (w : World) : (Instr.index 74 (.agg formArr) (.int .i64 6)).run Tryd.prog w = .ok (.agg #[Value.string ⟨#[121, 101, 115]⟩, .bool false, .bool false, .bool false]) w := by
  simp [formArr, Instr.index, run_underlying Tryd.underlying74, asIntOf, go_sem, Tryd.sizeOf73, Tryd.isAgg73]
theorem ix7 (w : World) : (Instr.index 74 (.agg formArr) (.int .i64 7)).run Tryd.prog w = .ok (.agg #[Value.string ⟨#[110, 111]⟩, .bool false, .bool false, .bool false]) w := by
  simp [formArr, Instr.index, run_underlying Tryd.underlying74, asIntOf, go_sem, Tryd.sizeOf73, Tryd.isAgg73]

theorem form_cell {w : World} (h : FormsAt w) : ∀ (i : Nat) (v : Value), formArr.toList[i]? = some v → w.cell? ((⟨0, 0, none⟩ : Addr).add i) = some v := by
  intro i v hv
  have hadd : (⟨0, 0, none⟩ : Addr).add i = ⟨0, i, none⟩ := by unfold Addr.add; split <;> simp_all
  rw [hadd]
  have hi : i < 32 := by
    have := (List.getElem?_eq_some_iff.1 hv).1
    simpa [formArr] using this
  have hk := h.all (i / 4) (by omega)
  have key : ∀ q r, i = q * 4 + r → q < 8 → r < 4 → w.cell? ⟨0, i, none⟩ = formArr.toList[i]? := fun q r e hq hr => by
    have hq2 : q = 0 ∨ q = 1 ∨ q = 2 ∨ q = 3 ∨ q = 4 ∨ q = 5 ∨ q = 6 ∨ q = 7 := by omega
    have hr2 : r = 0 ∨ r = 1 ∨ r = 2 ∨ r = 3 := by omega
    have hF := h.all q hq
    subst e
    rcases hr2 with rfl | rfl | rfl | rfl
    · rw [show q * 4 + 0 = q * 4 by omega, hF.w0]
      rcases hq2 with rfl | rfl | rfl | rfl | rfl | rfl | rfl | rfl <;> rfl
    · rw [hF.x0]
      rcases hq2 with rfl | rfl | rfl | rfl | rfl | rfl | rfl | rfl <;> rfl
    · rw [hF.y0]
      rcases hq2 with rfl | rfl | rfl | rfl | rfl | rfl | rfl | rfl <;> rfl
    · rw [hF.z0]
      rcases hq2 with rfl | rfl | rfl | rfl | rfl | rfl | rfl | rfl <;> rfl
  rw [key (i / 4) (i % 4) (by omega) (by omega) (by omega)]
  exact hv
theorem run_forms (w : World) (h : FormsAt w) : (loadCells ⟨0, 0, none⟩ 32).run Tryd.prog w = .ok formArr w :=
  run_loadCells_list (P := Tryd.prog) w ⟨0, 0, none⟩ formArr.toList (form_cell h)
theorem run_load_forms (w : World) (h : FormsAt w) : (Instr.loadAt 74 (.pointer (some ⟨0, 0, none⟩))).run Tryd.prog w = .ok (.agg formArr) w := by
  simp only [Instr.loadAt, Instr.sureAddr, Sem.run_bind, Sem.run_pure, Result.andThen, loadVar, Tryd.isAgg74, Tryd.sizeOf74, ↓reduceIte, run_forms w h]

theorem wpList_load_at {P : Program} {ops : Array Oper} {rest : List Oper} {o : Oper} {a : Act} {Q : Exit → Act → World → Prop} {w : World} (hgd : o.guard = none) (t : TypeId) (p : Operand) (ho : o.op = .load t p) (v : Value)
    (hr : (Instr.loadAt t (a.eval p)).run P w = .ok v w) (h : wpList P ops Q rest (a.put o.dst v) w) : wpList P ops Q (o :: rest) a w :=
  wpList_plain hgd fun K hK => by
    unfold Oper.wp execOp
    simp only [ho, Sem.run_bind, Sem.run_pure, Result.andThen_ok, hr]
    exact hK _ _ h

set_option maxRecDepth 100000 in
set_option maxHeartbeats 8000000 in
theorem kindOf_any (s : ByteArray) (w : World) (hF : FormsAt w) :
    Calls Tryd.prog 35 #[.string s] w fun e w' => e = .returned (kindV s.data.toList) ∧ Below w.heap.size w w' := by
  have hload := run_load_forms w hF
  clear hF
  go_enter Tryd.func35, Tryd.ntmps35
  go_upto_region 1 with fail
  go_step
  refine wpList_load_at rfl _ _ rfl _ hload ?_
  clear hload
  go_wp2
  go_loopw [7] (fun c wr => ∃ j : Nat, c = .int .i64 j ∧ j ≤ 8 ∧ Below w.heap.size w wr ∧ Hid (∀ k, k < j → wordL k ≠ s.data.toList)) (fun c _ => 8 - (intOf c).toNat)
  case atStart => exact ⟨0, rfl, by omega, Below.refl _ _, fun k hk => absurd hk (Nat.not_lt_zero _)⟩
  case round =>
    obtain ⟨j, rfl, hj, B1, HA⟩ := hrel
    have step : ∀ k, k < 8 → wordL k ≠ s.data.toList → j = k → Hid (∀ i, i < k + 1 → wordL i ≠ s.data.toList) := fun k hk hne e i hi => by
      by_cases h : i = k
      · rw [h]; exact hne
      · exact HA.out i (by omega)
    have hc : j = 0 ∨ j = 1 ∨ j = 2 ∨ j = 3 ∨ j = 4 ∨ j = 5 ∨ j = 6 ∨ j = 7 ∨ j = 8 := by omega
    rcases hc with rfl | rfl | rfl | rfl | rfl | rfl | rfl | rfl | rfl
    case inr.inr.inr.inr.inr.inr.inr.inr =>
      have HK : Hid (kindV s.data.toList = .tuple #[.int .i64 0, .bool false]) := by
        show _ = _
        unfold kindV
        rw [kind_none HA.out]
      clear step HA
      go_wp2
      refine bodyPost_ret (v := .tuple #[.int .i64 0, .bool false]) (by simp [results, Tryd.f35, go_sem]) rfl ⟨?_, B1⟩
      rw [HK.out]
    case inl =>
      have hix := ix0 wr
      go_wp2
      · rename_i hw
        rw [Lib.toList_data] at hw
        replace hw : wordL 0 = s.data.toList := (List.isEmpty_iff.1 hw).symm
        refine bodyPost_ret (v := .tuple #[.int .i64 0, .bool true]) (by simp [results, Tryd.f35, go_sem]) rfl ⟨?_, B1.alloc B1.size _⟩
        rw [show kindV s.data.toList = _ from by unfold kindV; rw [kind_some (by decide) hw HA.out]]
        rfl
      · rename_i hw
        rw [Lib.toList_data] at hw
        replace hw : wordL 0 ≠ s.data.toList := fun h => by rw [← h] at hw; simp [wordL] at hw
        exact ⟨⟨1, by go_num, by decide, B1.alloc B1.size _, step 0 (by decide) hw rfl⟩, by simp [intOf]⟩
    case inr.inl =>
      have hix := ix1 wr
      go_wp2
      · rename_i hw
        rw [Lib.toList_data] at hw
        replace hw : wordL 1 = s.data.toList := eq_of_beq hw
        refine bodyPost_ret (v := .tuple #[.int .i64 1, .bool true]) (by simp [results, Tryd.f35, go_sem]) rfl ⟨?_, B1.alloc B1.size _⟩
        rw [show kindV s.data.toList = _ from by unfold kindV; rw [kind_some (by decide) hw HA.out]]
        rfl
      · rename_i hw
        rw [Lib.toList_data] at hw
        replace hw : wordL 1 ≠ s.data.toList := fun h => by rw [← h] at hw; simp [wordL] at hw
        exact ⟨⟨2, by go_num, by decide, B1.alloc B1.size _, step 1 (by decide) hw rfl⟩, by simp [intOf]⟩
    case inr.inr.inl =>
      have hix := ix2 wr
      go_wp2
      · rename_i hw
        rw [Lib.toList_data] at hw
        replace hw : wordL 2 = s.data.toList := eq_of_beq hw
        refine bodyPost_ret (v := .tuple #[.int .i64 2, .bool true]) (by simp [results, Tryd.f35, go_sem]) rfl ⟨?_, B1.alloc B1.size _⟩
        rw [show kindV s.data.toList = _ from by unfold kindV; rw [kind_some (by decide) hw HA.out]]
        rfl
      · rename_i hw
        rw [Lib.toList_data] at hw
        replace hw : wordL 2 ≠ s.data.toList := fun h => by rw [← h] at hw; simp [wordL] at hw
        exact ⟨⟨3, by go_num, by decide, B1.alloc B1.size _, step 2 (by decide) hw rfl⟩, by simp [intOf]⟩
    case inr.inr.inr.inl =>
      have hix := ix3 wr
      go_wp2
      · rename_i hw
        rw [Lib.toList_data] at hw
        replace hw : wordL 3 = s.data.toList := eq_of_beq hw
        refine bodyPost_ret (v := .tuple #[.int .i64 3, .bool true]) (by simp [results, Tryd.f35, go_sem]) rfl ⟨?_, B1.alloc B1.size _⟩
        rw [show kindV s.data.toList = _ from by unfold kindV; rw [kind_some (by decide) hw HA.out]]
        rfl
      · rename_i hw
        rw [Lib.toList_data] at hw
        replace hw : wordL 3 ≠ s.data.toList := fun h => by rw [← h] at hw; simp [wordL] at hw
        exact ⟨⟨4, by go_num, by decide, B1.alloc B1.size _, step 3 (by decide) hw rfl⟩, by simp [intOf]⟩
    case inr.inr.inr.inr.inl =>
      have hix := ix4 wr
      go_wp2
      · rename_i hw
        rw [Lib.toList_data] at hw
        replace hw : wordL 4 = s.data.toList := eq_of_beq hw
        refine bodyPost_ret (v := .tuple #[.int .i64 4, .bool true]) (by simp [results, Tryd.f35, go_sem]) rfl ⟨?_, B1.alloc B1.size _⟩
        rw [show kindV s.data.toList = _ from by unfold kindV; rw [kind_some (by decide) hw HA.out]]
        rfl
      · rename_i hw
        rw [Lib.toList_data] at hw
        replace hw : wordL 4 ≠ s.data.toList := fun h => by rw [← h] at hw; simp [wordL] at hw
        exact ⟨⟨5, by go_num, by decide, B1.alloc B1.size _, step 4 (by decide) hw rfl⟩, by simp [intOf]⟩
    case inr.inr.inr.inr.inr.inl =>
      have hix := ix5 wr
      go_wp2
      · rename_i hw
        rw [Lib.toList_data] at hw
        replace hw : wordL 5 = s.data.toList := eq_of_beq hw
        refine bodyPost_ret (v := .tuple #[.int .i64 5, .bool true]) (by simp [results, Tryd.f35, go_sem]) rfl ⟨?_, B1.alloc B1.size _⟩
        rw [show kindV s.data.toList = _ from by unfold kindV; rw [kind_some (by decide) hw HA.out]]
        rfl
      · rename_i hw
        rw [Lib.toList_data] at hw
        replace hw : wordL 5 ≠ s.data.toList := fun h => by rw [← h] at hw; simp [wordL] at hw
        exact ⟨⟨6, by go_num, by decide, B1.alloc B1.size _, step 5 (by decide) hw rfl⟩, by simp [intOf]⟩
    case inr.inr.inr.inr.inr.inr.inl =>
      have hix := ix6 wr
      go_wp2
      · rename_i hw
        rw [Lib.toList_data] at hw
        replace hw : wordL 6 = s.data.toList := eq_of_beq hw
        refine bodyPost_ret (v := .tuple #[.int .i64 6, .bool true]) (by simp [results, Tryd.f35, go_sem]) rfl ⟨?_, B1.alloc B1.size _⟩
        rw [show kindV s.data.toList = _ from by unfold kindV; rw [kind_some (by decide) hw HA.out]]
        rfl
      · rename_i hw
        rw [Lib.toList_data] at hw
        replace hw : wordL 6 ≠ s.data.toList := fun h => by rw [← h] at hw; simp [wordL] at hw
        exact ⟨⟨7, by go_num, by decide, B1.alloc B1.size _, step 6 (by decide) hw rfl⟩, by simp [intOf]⟩
    case inr.inr.inr.inr.inr.inr.inr.inl =>
      have hix := ix7 wr
      go_wp2
      · rename_i hw
        rw [Lib.toList_data] at hw
        replace hw : wordL 7 = s.data.toList := eq_of_beq hw
        refine bodyPost_ret (v := .tuple #[.int .i64 7, .bool true]) (by simp [results, Tryd.f35, go_sem]) rfl ⟨?_, B1.alloc B1.size _⟩
        rw [show kindV s.data.toList = _ from by unfold kindV; rw [kind_some (by decide) hw HA.out]]
        rfl
      · rename_i hw
        rw [Lib.toList_data] at hw
        replace hw : wordL 7 ≠ s.data.toList := fun h => by rw [← h] at hw; simp [wordL] at hw
        exact ⟨⟨8, by go_num, by decide, B1.alloc B1.size _, step 7 (by decide) hw rfl⟩, by simp [intOf]⟩
end Go.Proofs.YtggehnnbgeffpaaDoor
