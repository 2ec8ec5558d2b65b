/- A program written and read is the same: on lists. -/
import Derived.Test.YtggehnnbgeffpaaDoorParse
import Derived.Test.YtggehnnbgeffpaaDoorRunV
namespace Go.Proofs.YtggehnnbgeffpaaDoor
open Go.Shelf Go.RowKit Go.Lib Go.Proofs

/-- Takes no part: where a word stands, and where the last ones stood. -/
theorem tkN_indep (t : Tk) (p : List Ins) (l l' : List Int) (want : List Tk) (w : List UInt8) : (tkN t ⟨p, l, want⟩ w).1 = (tkN t ⟨p, l', want⟩ w).1 ∧ (tkN t ⟨p, l, want⟩ w).2.prog = (tkN t ⟨p, l', want⟩ w).2.prog ∧ (tkN t ⟨p, l, want⟩ w).2.want = (tkN t ⟨p, l', want⟩ w).2.want := by
  cases t with
  | op =>
    simp only [tkN]
    cases kindN w with
    | none => simp
    | some k => simp only; split <;> simp
  | x => simp only [tkN]; cases numV w 0 <;> simp
  | y => simp only [tkN]; cases numV w (lastX p) <;> simp
  | z => simp only [tkN]; cases numV w 0 <;> simp
theorem takeN_indep (p : List Ins) (l l' : List Int) (want : List Tk) (a a' : Int) (w : List UInt8) : (takeN ⟨p, l, want⟩ a w).1 = (takeN ⟨p, l', want⟩ a' w).1 ∧ (takeN ⟨p, l, want⟩ a w).2.prog = (takeN ⟨p, l', want⟩ a' w).2.prog ∧ (takeN ⟨p, l, want⟩ a w).2.want = (takeN ⟨p, l', want⟩ a' w).2.want := by
  cases want with
  | nil => simp only [takeN]; split <;> simp
  | cons t r =>
    have h := tkN_indep t p l l' r w
    simp only [takeN]
    rw [h.1]
    split
    · exact ⟨rfl, h.2.1, h.2.2⟩
    · exact ⟨rfl, h.2.1, h.2.2⟩
def runW (pt : List Ins × List Tk) : List (List UInt8) → Option (List Ins × List Tk)
  | [] => some pt
  | w :: ws => if (takeN ⟨pt.1, [], pt.2⟩ 0 w).1 = 0 then runW ((takeN ⟨pt.1, [], pt.2⟩ 0 w).2.prog, (takeN ⟨pt.1, [], pt.2⟩ 0 w).2.want) ws else none
theorem parseF_runW : ∀ (ws : List (Nat × List UInt8)) (r : Rd) (q : List Ins × List Tk), runW (r.prog, r.want) (ws.map (·.2)) = some q → ∃ r', parseF r ws = .inr r' ∧ r'.prog = q.1 ∧ r'.want = q.2
  | [], r, q, h => by
    simp only [List.map_nil, runW, Option.some.injEq] at h
    subst h
    exact ⟨r, rfl, rfl, rfl⟩
  | x :: ws, r, q, h => by
    obtain ⟨p, l, want⟩ := r
    have hi := takeN_indep p l [] want x.1 0 x.2
    simp only [List.map_cons, runW] at h
    split at h
    · rename_i h0
      rw [parseF, if_pos (hi.1.trans h0)]
      refine parseF_runW ws _ q ?_
      rw [hi.2.1, hi.2.2]
      exact h
    · cases h

def Sep (l : List UInt8) : Prop := l = [] ∨ ∃ r, l = 32 :: r ∨ l = 59 :: r
def Toks (l : List UInt8) (ws : List (List UInt8)) : Prop := ∀ f k, l.length ≤ f → (wordsF f l k).map (·.2) = ws
theorem Toks.nil : Toks [] [] := fun f k _ => by rw [wordsF_nil]; rfl
theorem ix_word : ∀ (w rest : List UInt8), (∀ b ∈ w, b ≠ 32 ∧ b ≠ 59) → Sep rest → Lib.indexAny (w ++ rest) [32, 59] = if rest = [] then -1 else (w.length : Int)
  | [], rest, _, hs => by
    rcases hs with rfl | ⟨r, rfl | rfl⟩ <;> simp [Lib.indexAny]
  | b :: w, rest, hw, hs => by
    have ih := ix_word w rest (fun c hc => hw c (by simp [hc])) hs
    have hb := hw b (by simp)
    simp only [List.cons_append, Lib.indexAny, ih]
    rw [if_neg (by simp [hb.1, hb.2])]
    split
    · simp
    · rw [if_neg (by first | (simp; done) | (simp; omega))]
      simp
theorem Toks.word {w rest : List UInt8} {ws : List (List UInt8)} (hne : w ≠ []) (hw : ∀ b ∈ w, b ≠ 32 ∧ b ≠ 59) (hs : Sep rest) (h : Toks rest ws) : Toks (w ++ rest) (w :: ws) := fun f k hf => by
  obtain ⟨c, w', rfl⟩ : ∃ c w', w = c :: w' := by cases w with | nil => exact absurd rfl hne | cons c w' => exact ⟨c, w', rfl⟩
  have hl : wlenN ((c :: w') ++ rest) = (c :: w').length := by
    unfold wlenN
    rw [ix_word _ _ hw hs]
    by_cases hr : rest = []
    · subst hr; simp
    · rw [if_neg hr, if_neg (by omega)]; simp
  obtain ⟨f, rfl⟩ : ∃ f', f = f' + 1 := ⟨f - 1, by simp at hf; omega⟩
  have hc := hw c (by simp)
  show (wordsF (f + 1) (c :: (w' ++ rest)) k).map (·.2) = _
  simp only [wordsF]
  rw [if_neg hc.1]
  have e : c :: (w' ++ rest) = (c :: w') ++ rest := rfl
  rw [e, hl]
  simp only [List.map_cons, List.take_left, List.drop_left]
  rw [h f _ (by simp at hf; omega)]
theorem Toks.blank {rest : List UInt8} {ws : List (List UInt8)} (h : Toks rest ws) : Toks (32 :: rest) ws := fun f k hf => by
  obtain ⟨f, rfl⟩ : ∃ f', f = f' + 1 := ⟨f - 1, by simp at hf; omega⟩
  simp only [wordsF, if_true]
  have e : wlenN (32 :: rest) = 1 := by simp [wlenN, Lib.indexAny]
  rw [e]
  exact h f _ (by simp at hf; exact hf)
theorem Toks.semi {rest : List UInt8} {ws : List (List UInt8)} (h : Toks rest ws) : Toks (59 :: rest) ([59] :: ws) := fun f k hf => by
  obtain ⟨f, rfl⟩ : ∃ f', f = f' + 1 := ⟨f - 1, by simp at hf; omega⟩
  have e : wlenN (59 :: rest) = 1 := by simp [wlenN, Lib.indexAny]
  simp only [wordsF]
  rw [if_neg (by decide), e]
  simp only [List.map_cons, List.drop_one, List.tail_cons]
  rw [h f _ (by simp at hf; exact hf)]
  rfl

/-- The numbers from 0 to 255 in decimal. -/
theorem num_all : ∀ n : Fin 256, Lib.atoiAll (Lib.itoa (n.1 : Int)) = .ok (n.1 : Int) ∧ Lib.itoa (n.1 : Int) ≠ [] ∧ (∀ b ∈ Lib.itoa (n.1 : Int), b ≠ 32 ∧ b ≠ 59 ∧ b.toNat < 128) := by decide +kernel
theorem num_of {n : Int} (h : 0 ≤ n ∧ n ≤ 255) : Lib.atoiAll (Lib.itoa n) = .ok n ∧ Lib.itoa n ≠ [] ∧ (∀ b ∈ Lib.itoa n, b ≠ 32 ∧ b ≠ 59 ∧ b.toNat < 128) := by
  have := num_all ⟨n.toNat, by omega⟩
  have e : ((n.toNat : Nat) : Int) = n := by omega
  simp only [e] at this
  exact this
theorem numV_of {n least : Int} (h : 0 ≤ n ∧ n ≤ 255) (hl : least ≤ n) : numV (Lib.itoa n) least = some n := by
  unfold numV
  rw [(num_of h).1]
  simp [hl, h.2]
theorem kind_all : ∀ k : Fin 8, k.1 ≠ 0 → kindN (wordL k.1) = some k.1 ∧ wordL k.1 ≠ [] ∧ (∀ b ∈ wordL k.1, b ≠ 32 ∧ b ≠ 59 ∧ b.toNat < 128) := by decide +kernel

def partT (u : Bool) (n : Int) : List (List UInt8) := if u then [Lib.itoa n] else []
theorem part_toks {u : Bool} {n : Int} {rest : List UInt8} {ws : List (List UInt8)} (hn : u = true → 0 ≤ n ∧ n ≤ 255) (hs : Sep rest) (h : Toks rest ws) : Toks (partN u n ++ rest) (partT u n ++ ws) ∧ Sep (partN u n ++ rest) := by
  cases u with
  | false => exact ⟨h, hs⟩
  | true =>
    have hh := num_of (hn rfl)
    refine ⟨?_, .inr ⟨_, .inl rfl⟩⟩
    show Toks (32 :: (Lib.itoa n ++ rest)) (Lib.itoa n :: ws)
    exact (Toks.word hh.2.1 (fun b hb => ⟨(hh.2.2 b hb).1, (hh.2.2 b hb).2.1⟩) hs h).blank
def insT (i : Ins) : List (List UInt8) := wordL i.op.toNat :: (partT (useX i.op.toNat) i.x ++ (partT (useY i.op.toNat) i.y ++ partT (useZ i.op.toNat) i.z))
theorem ins_toks {i : Ins} {rest : List UInt8} {ws : List (List UInt8)} {n : Nat} (hf : fitB n i = true) (hn : n ≤ 64) (hs : Sep rest) (h : Toks rest ws) : Toks (writtenN i ++ rest) (insT i ++ ws) := by
  obtain ⟨h1, h2, h3, h4⟩ := fitB_facts hf
  have hk := kind_all ⟨i.op.toNat, by omega⟩ (by show i.op.toNat ≠ 0; omega)
  simp only at hk
  obtain ⟨a1, a2⟩ := part_toks (u := useZ i.op.toNat) (n := i.z) (fun _ => ⟨h4.1, by omega⟩) hs h
  obtain ⟨b1, b2⟩ := part_toks (u := useY i.op.toNat) (n := i.y) (fun _ => h3) a2 a1
  obtain ⟨c1, c2⟩ := part_toks (u := useX i.op.toNat) (n := i.x) (fun _ => h2) b2 b1
  have d := Toks.word hk.2.1 (fun b hb => ⟨(hk.2.2 b hb).1, (hk.2.2 b hb).2.1⟩) c2 c1
  have e1 : writtenN i ++ rest = wordL i.op.toNat ++ (partN (useX i.op.toNat) i.x ++ (partN (useY i.op.toNat) i.y ++ (partN (useZ i.op.toNat) i.z ++ rest))) := by simp [writtenN]
  have e2 : insT i ++ ws = wordL i.op.toNat :: (partT (useX i.op.toNat) i.x ++ (partT (useY i.op.toNat) i.y ++ (partT (useZ i.op.toNat) i.z ++ ws))) := by simp [insT]
  rw [e1, e2]
  exact d
def progT : List Ins → List (List UInt8)
  | [] => []
  | [i] => insT i
  | i :: j :: r => insT i ++ ([59] :: progT (j :: r))
theorem print_cons (i j : Ins) (r : List Ins) : printN (i :: j :: r) = writtenN i ++ (59 :: 32 :: printN (j :: r)) := by
  simp [printN, Lib.join, List.intercalate]
theorem prog_toks {n : Nat} (hn : n ≤ 64) : ∀ (p : List Ins), (∀ i ∈ p, fitB n i = true) → Toks (printN p) (progT p)
  | [], _ => by
    have : printN [] = [] := by simp [printN, Lib.join, List.intercalate]
    rw [this]
    exact Toks.nil
  | [i], h => by
    have : printN [i] = writtenN i ++ [] := by simp [printN, Lib.join, List.intercalate]
    rw [this]
    have := ins_toks (h i (by simp)) hn (.inl rfl) Toks.nil
    simpa [progT] using this
  | i :: j :: r, h => by
    rw [print_cons]
    exact ins_toks (h i (by simp)) hn (.inr ⟨_, .inr rfl⟩) (prog_toks hn (j :: r) (fun k hk => h k (by simp [hk]))).blank.semi

theorem runW_append : ∀ (a b : List (List UInt8)) (pt : List Ins × List Tk), runW pt (a ++ b) = (runW pt a).bind fun q => runW q b
  | [], b, pt => rfl
  | w :: a, b, pt => by
    simp only [List.cons_append, runW]
    split
    · exact runW_append a b _
    · rfl
theorem runW_one {pt q : List Ins × List Tk} {w : List UInt8} (h : takeN ⟨pt.1, [], pt.2⟩ 0 w = (0, ⟨q.1, [0], q.2⟩)) (ws : List (List UInt8)) : runW pt (w :: ws) = runW q ws := by
  simp only [runW]
  rw [h]
  simp
theorem take_x {P : List Ins} {i : Ins} {r : List Tk} {n : Int} (h : 0 ≤ n ∧ n ≤ 255) : takeN ⟨P ++ [i], [], .x :: r⟩ 0 (Lib.itoa n) = (0, ⟨P ++ [{ i with x := n }], [0], r⟩) := by
  simp [takeN, tkN, numV_of h h.1, updL_snoc]
theorem take_y {P : List Ins} {i : Ins} {r : List Tk} {n : Int} (h : 0 ≤ n ∧ n ≤ 255) (hx : i.x ≤ n) : takeN ⟨P ++ [i], [], .y :: r⟩ 0 (Lib.itoa n) = (0, ⟨P ++ [{ i with y := n }], [0], r⟩) := by
  simp [takeN, tkN, lastX_snoc, numV_of h hx, updL_snoc]
theorem take_z {P : List Ins} {i : Ins} {r : List Tk} {n : Int} (h : 0 ≤ n ∧ n ≤ 255) : takeN ⟨P ++ [i], [], .z :: r⟩ 0 (Lib.itoa n) = (0, ⟨P ++ [{ i with z := n }], [0], r⟩) := by
  simp [takeN, tkN, numV_of h h.1, updL_snoc]
theorem take_op {P : List Ins} {k : Nat} (hk : kindN (wordL k) = some k) (hl : P.length < 64) : takeN ⟨P, [], [.op]⟩ 0 (wordL k) = (0, ⟨P ++ [⟨k, 0, 0, 0⟩], [0], takersN k⟩) := by
  simp [takeN, tkN, hk, show ¬ P.length = 64 by omega]
theorem ins_run {n : Nat} {i : Ins} {P : List Ins} (hf : fitB n i = true) (hn : n ≤ 64) (hl : P.length < 64) (ws : List (List UInt8)) : runW (P, [.op]) (insT i ++ ws) = runW (P ++ [i], []) ws := by
  obtain ⟨h1, h2, h3, h4⟩ := fitB_facts hf
  obtain ⟨o, x, y, z⟩ := i
  simp only at h1 h2 h3 h4
  obtain ⟨k, rfl⟩ : ∃ k : Nat, o = k := ⟨o.toNat, by omega⟩
  have hk := (kind_all ⟨k, by omega⟩ (by show k ≠ 0; omega)).1
  simp only at hk
  have hz : 0 ≤ z ∧ z ≤ 255 := ⟨h4.1, by omega⟩
  simp only [fitB, numB, Bool.and_eq_true, decide_eq_true_eq, Bool.not_eq_true', Int.toNat_natCast] at hf
  have e : insT ⟨k, x, y, z⟩ ++ ws = wordL k :: (partT (useX k) x ++ (partT (useY k) y ++ (partT (useZ k) z ++ ws))) := by simp [insT]
  rw [e, runW_one (q := (P ++ [⟨k, 0, 0, 0⟩], takersN k)) (take_op hk hl)]
  have hc : k = 1 ∨ k = 2 ∨ k = 3 ∨ k = 4 ∨ k = 5 ∨ k = 6 ∨ k = 7 := by omega
  rcases hc with rfl | rfl | rfl | rfl | rfl | rfl | rfl
  · have hxy : x ≤ y := by simp [useX, useY, useZ] at hf; omega
    simp only [takersN, partT, useX, useY, useZ, if_true, List.cons_append, List.nil_append]
    rw [runW_one (q := (P ++ [⟨1, x, 0, 0⟩], [.y, .z])) (take_x h2), runW_one (q := (P ++ [⟨1, x, y, 0⟩], [.z])) (take_y h3 hxy), runW_one (q := (P ++ [⟨1, x, y, z⟩], [])) (take_z hz)]
    rfl
  · obtain rfl : y = 0 := by simp [useX, useY, useZ] at hf; omega
    simp only [takersN, partT, useX, useY, useZ, if_true, List.cons_append, List.nil_append, Bool.false_eq_true, if_false]
    rw [runW_one (q := (P ++ [⟨2, x, 0, 0⟩], [.z])) (take_x h2), runW_one (q := (P ++ [⟨2, x, 0, z⟩], [])) (take_z hz)]
    rfl
  · obtain rfl : y = 0 := by simp [useX, useY, useZ] at hf; omega
    obtain rfl : z = 0 := by simp [useX, useY, useZ] at hf; omega
    simp only [takersN, partT, useX, useY, useZ, if_true, List.cons_append, List.nil_append, Bool.false_eq_true, if_false]
    rw [runW_one (q := (P ++ [⟨3, x, 0, 0⟩], [])) (take_x h2)]
    rfl
  · obtain rfl : y = 0 := by simp [useX, useY, useZ] at hf; omega
    obtain rfl : z = 0 := by simp [useX, useY, useZ] at hf; omega
    simp only [takersN, partT, useX, useY, useZ, if_true, List.cons_append, List.nil_append, Bool.false_eq_true, if_false]
    rw [runW_one (q := (P ++ [⟨4, x, 0, 0⟩], [])) (take_x h2)]
    rfl
  · obtain rfl : x = 0 := by simp [useX, useY, useZ] at hf; omega
    obtain rfl : y = 0 := by simp [useX, useY, useZ] at hf; omega
    simp only [takersN, partT, useX, useY, useZ, if_true, List.cons_append, List.nil_append, Bool.false_eq_true, if_false]
    rw [runW_one (q := (P ++ [⟨5, 0, 0, z⟩], [])) (take_z hz)]
    rfl
  · obtain rfl : x = 0 := by simp [useX, useY, useZ] at hf; omega
    obtain rfl : y = 0 := by simp [useX, useY, useZ] at hf; omega
    obtain rfl : z = 0 := by simp [useX, useY, useZ] at hf; omega
    rfl
  · obtain rfl : x = 0 := by simp [useX, useY, useZ] at hf; omega
    obtain rfl : y = 0 := by simp [useX, useY, useZ] at hf; omega
    obtain rfl : z = 0 := by simp [useX, useY, useZ] at hf; omega
    rfl
theorem prog_run {n : Nat} (hn : n ≤ 64) : ∀ (p P : List Ins), (∀ i ∈ p, fitB n i = true) → p ≠ [] → P.length + p.length ≤ 64 → runW (P, [.op]) (progT p) = some (P ++ p, [])
  | [], _, _, h, _ => absurd rfl h
  | [i], P, h, _, hl => by
    have := ins_run (ws := []) (h i (by simp)) hn (show P.length < 64 by simp at hl; omega)
    simp only [List.append_nil] at this
    simp only [progT]
    rw [this]
    rfl
  | i :: j :: r, P, h, _, hl => by
    simp only [progT]
    rw [ins_run (h i (by simp)) hn (show P.length < 64 by simp at hl; omega)]
    have hs : takeN ⟨P ++ [i], [], []⟩ 0 [59] = (0, ⟨P ++ [i], [], [.op]⟩) := by simp [takeN]
    have : runW (P ++ [i], []) ([59] :: progT (j :: r)) = runW (P ++ [i], [.op]) (progT (j :: r)) := by
      simp only [runW]
      rw [hs]
      simp
    rw [this, prog_run hn (j :: r) (P ++ [i]) (fun k hk => h k (by simp [hk])) (by simp) (by simp at hl ⊢; omega)]
    simp
/-- There and back. -/
theorem parse_print {p : List Ins} (hf : fitP p = true) : parseN (printN p) = .inr p := by
  have hlen := fitP_len hf
  have ht := prog_toks hlen.2 p (fun i hi => fitP_mem hf hi)
  have hr := prog_run hlen.2 p [] (fun i hi => fitP_mem hf hi) (by intro h; rw [h] at hlen; simp at hlen) (by simp; omega)
  have hw : (wordsN (printN p)).map (·.2) = progT p := ht _ _ (Nat.le_refl _)
  rw [← hw] at hr
  obtain ⟨r', h1, h2, h3⟩ := parseF_runW (wordsN (printN p)) r0 _ hr
  simp only [List.nil_append] at h2 h3
  unfold parseN
  rw [h1]
  have hfar : farN p p.length = none := by
    unfold farN
    rw [List.findIdx?_eq_none_iff]
    intro i hi
    have := (fitB_facts (fitP_mem hf hi)).2.2.2
    simp
    omega
  simp only
  rw [h3, h2, hfar]
  simp
theorem part_ascii {u : Bool} {n : Int} (hn : 0 ≤ n ∧ n ≤ 255) : ∀ b ∈ partN u n, b.toNat < 128 := by
  cases u with
  | false => simp [partN]
  | true =>
    intro b hb
    simp only [partN, if_true, List.mem_cons] at hb
    rcases hb with rfl | hb
    · decide
    · exact ((num_of hn).2.2 b hb).2.2
theorem ins_ascii {i : Ins} {n : Nat} (hf : fitB n i = true) (hn : n ≤ 64) : ∀ b ∈ writtenN i, b.toNat < 128 := by
  obtain ⟨h1, h2, h3, h4⟩ := fitB_facts hf
  have hk := kind_all ⟨i.op.toNat, by omega⟩ (by show i.op.toNat ≠ 0; omega)
  intro b hb
  simp only [writtenN, List.mem_append] at hb
  rcases hb with ((hb | hb) | hb) | hb
  · exact (hk.2.2 b hb).2.2
  · exact part_ascii h2 b hb
  · exact part_ascii h3 b hb
  · exact part_ascii ⟨h4.1, by omega⟩ b hb
theorem print_ascii {n : Nat} (hn : n ≤ 64) : ∀ (p : List Ins), (∀ i ∈ p, fitB n i = true) → ∀ b ∈ printN p, b.toNat < 128
  | [], _ => by simp [printN, Lib.join, List.intercalate]
  | [i], h => by
    have : printN [i] = writtenN i := by simp [printN, Lib.join, List.intercalate]
    rw [this]
    exact ins_ascii (h i (by simp)) hn
  | i :: j :: r, h => by
    rw [print_cons]
    intro b hb
    simp only [List.mem_append, List.mem_cons] at hb
    rcases hb with hb | rfl | rfl | hb
    · exact ins_ascii (h i (by simp)) hn b hb
    · decide
    · decide
    · exact print_ascii hn (j :: r) (fun k hk => h k (by simp [hk])) b hb
theorem print_len {p : List Ins} (hf : fitP p = true) (ho : ∀ i ∈ p, InsOk i) : (printN p).length ≤ 6528 := by
  have := join_le (p.map writtenN) (fun x hx => by
    obtain ⟨i, hi, rfl⟩ := List.mem_map.1 hx
    exact writtenN_le i (ho i hi))
  have hl := fitP_len hf
  simp only [List.length_map] at this
  unfold printN
  omega
end Go.Proofs.YtggehnnbgeffpaaDoor
