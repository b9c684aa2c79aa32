/- The program's within, hasBit, CheckRow, CheckFacts, isWrong, Check: in every world. -/
import Derived.Test.YtifihejogbcbgaaBit16
import Derived.Test.YtifihejogbcbgaaRefA18
import Derived.Test.YtifihejogbcbgaaRefC18
import Derived.Test.YtifihejogbcbgaaRefD18
import Derived.Test.YtifihejogbcbgaaRf16
import Derived.Deep.LoopGhost
namespace Go.Proofs.Ytifihejogbcbgaa
open Go.RowKit

theorem and_one18 (n : Int) : bits .and .i64 n 1 = n % 2 := by
  have e : (BitVec.ofInt 64 n &&& BitVec.ofInt 64 1).toNat = (n % 18446744073709551616).toNat % 2 := by
    rw [BitVec.toNat_and, BitVec.toNat_ofInt, show (BitVec.ofInt 64 1).toNat = 1 by decide, Nat.and_one_is_mod]
    rfl
  show IntKind.i64.wrap ((BitVec.ofInt 64 n &&& BitVec.ofInt 64 1).toNat : Nat) = n % 2
  rw [e, IntKind.wrap_i64]
  omega
def withinB (n a b : Int) : Bool := decide (a ≤ n) && decide (n ≤ b)
set_option maxHeartbeats 1000000 in
theorem pwithin18_any (n a b : Int) (w : World) : Calls Try.prog 37 #[.int .i64 n, .int .i64 a, .int .i64 b] w fun e w' => e = .returned (.bool (withinB n a b)) ∧ w = w' := by
  have hs : (decide (a ≤ n) = false ∧ withinB n a b = false) ∨ (decide (a ≤ n) = true ∧ decide (n ≤ b) = false ∧ withinB n a b = false) ∨ (decide (a ≤ n) = true ∧ decide (n ≤ b) = true ∧ withinB n a b = true) := by
    unfold withinB
    cases decide (a ≤ n) <;> cases decide (n ≤ b) <;> simp
  generalize withinB n a b = x at *
  rcases hs with ⟨d1, rfl⟩ | ⟨d1, d2, rfl⟩ | ⟨d1, d2, rfl⟩
  all_goals
    go_enter Try.func37, Try.ntmps37
    go_wp2
    go_ret
    exact ⟨rfl, rfl⟩
set_option maxRecDepth 100000 in
set_option maxHeartbeats 2000000 in
theorem phasbit18_any (n k : Nat) (hk : k < 4) (w : World) : Calls Try.prog 77 #[.int .i64 (n : Int), .int .i64 (k : Int)] w fun e w' => e = .returned (.bool (bitB n k)) ∧ w = w' := by
  obtain ⟨P, hP⟩ : ∃ P : Int, ((2 ^ k : Nat) : Int) = P := ⟨_, rfl⟩
  have hcs : (k = 0 ∧ P = 1) ∨ (k = 1 ∧ P = 2) ∨ (k = 2 ∧ P = 4) ∨ (k = 3 ∧ P = 8) := by
    rcases (by omega : k = 0 ∨ k = 1 ∨ k = 2 ∨ k = 3) with h | h | h | h
    all_goals (rw [h] at hP ⊢; simp at hP; omega)
  have hq : ((n / 2 ^ k % 2 : Nat) : Int) = (n : Int) / P % 2 := by rw [← hP]; rfl
  have hy := bit_nat n k
  have dB : (bits BinOp.and IntKind.i64 ((n : Int) / P) 1 == 1) = bitB n k := by
    rw [and_one18, ← hq, hy, Bool.eq_iff_iff, beq_iff_eq, decide_eq_true_iff]
    omega
  clear hq hy hP hk
  generalize bitB n k = y at *
  rcases hcs with ⟨rfl, rfl⟩ | ⟨rfl, rfl⟩ | ⟨rfl, rfl⟩ | ⟨rfl, rfl⟩
  all_goals
    try rw [Int.ediv_one] at dB
    cases y
    all_goals
      go_enter Try.func77, Try.ntmps77
      go_wp2
      go_ret
      exact ⟨by first | rfl | (rw [dB]; rfl) | simp [dB], rfl⟩
set_option maxHeartbeats 4000000 in
theorem prow18_any (r : Row18) (w : World) : Calls Try.prog 56 #[rowVal r] w fun e w' => e = .returned (.int .i64 (rowE r)) ∧ Below w.heap.size w w' := by
  obtain ⟨c0, c1, c2, c3, c4⟩ := box_row18 w r 52
  have HB := Lib.hid (lit16 w (.cells #[.int .i64 r.g, .int .i64 r.v, .int .i64 r.lo, .int .i64 r.hi, .int .i64 r.way] 52))
  have H1 : Hid (∀ W, Calls Try.prog 37 #[.int .i64 r.g, .int .i64 1, .int .i64 15] W fun e w' => e = .returned (.bool (withinB r.g 1 15)) ∧ W = w') := Lib.hid fun W => pwithin18_any _ _ _ W
  have H2 : Hid (∀ W, Calls Try.prog 37 #[.int .i64 r.v, .int .i64 1, .int .i64 3] W fun e w' => e = .returned (.bool (withinB r.v 1 3)) ∧ W = w') := Lib.hid fun W => pwithin18_any _ _ _ W
  have H3 : Hid (∀ W, Calls Try.prog 37 #[.int .i64 r.way, .int .i64 1, .int .i64 5] W fun e w' => e = .returned (.bool (withinB r.way 1 5)) ∧ W = w') := Lib.hid fun W => pwithin18_any _ _ _ W
  have hs : (withinB r.g 1 15 = true ∧ withinB r.v 1 3 = true ∧ withinB r.way 1 5 = true ∧ decide (r.lo < 0) = false ∧ decide (r.hi < r.lo) = false ∧ decide (1000000000000 < r.hi) = false ∧ rowE r = 0) ∨ (rowE r = 36 ∧ (withinB r.g 1 15 = false
      ∨ (withinB r.g 1 15 = true ∧ withinB r.v 1 3 = false)
      ∨ (withinB r.g 1 15 = true ∧ withinB r.v 1 3 = true ∧ withinB r.way 1 5 = false)
      ∨ (withinB r.g 1 15 = true ∧ withinB r.v 1 3 = true ∧ withinB r.way 1 5 = true ∧ decide (r.lo < 0) = true)
      ∨ (withinB r.g 1 15 = true ∧ withinB r.v 1 3 = true ∧ withinB r.way 1 5 = true ∧ decide (r.lo < 0) = false ∧ decide (r.hi < r.lo) = true)
      ∨ (withinB r.g 1 15 = true ∧ withinB r.v 1 3 = true ∧ withinB r.way 1 5 = true ∧ decide (r.lo < 0) = false ∧ decide (r.hi < r.lo) = false ∧ decide (1000000000000 < r.hi) = true))) := by
    by_cases hok : RowOk r
    · left
      have h := row_yes hok
      unfold RowOk at hok
      unfold withinB
      simp only [Bool.and_eq_true, decide_eq_true_eq, decide_eq_false_iff_not]
      omega
    · right
      refine ⟨row_no hok, ?_⟩
      unfold RowOk at hok
      unfold withinB
      simp only [Bool.and_eq_true, Bool.and_eq_false_iff, decide_eq_true_eq, decide_eq_false_iff_not]
      omega
  generalize rowE r = E at *
  generalize withinB r.g 1 15 = x1 at *
  generalize withinB r.v 1 3 = x2 at *
  generalize withinB r.way 1 5 = x3 at *
  obtain ⟨rg, rv, rl, rh, rw⟩ := r
  dsimp only at *
  rcases hs with ⟨rfl, rfl, rfl, d5, d6, d7, hE⟩ | ⟨hE, rfl | ⟨rfl, rfl⟩ | ⟨rfl, rfl, rfl⟩ | ⟨rfl, rfl, rfl, d5⟩ | ⟨rfl, rfl, rfl, d5, d6⟩ | ⟨rfl, rfl, rfl, d5, d6, d7⟩⟩
  all_goals
    have HE := Lib.hid hE
    clear hE
    go_enter Try.func56, Try.ntmps56
    go_wp2_with (first
      | (go_at_call 37; refine (H1.out _).mono ?_; rintro e w1 ⟨rfl, rfl⟩; clear H1)
      | (go_at_call 37; refine (H2.out _).mono ?_; rintro e w1 ⟨rfl, rfl⟩; clear H2)
      | (go_at_call 37; refine (H3.out _).mono ?_; rintro e w1 ⟨rfl, rfl⟩; clear H3))
    go_ret
    exact ⟨by rw [HE.out]; rfl, HB.out⟩
set_option maxHeartbeats 2000000 in
theorem pfact18_any (f : Fact18) (w : World) : Calls Try.prog 20 #[factVal f] w fun e w' => e = .returned (.int .i64 (factE f)) ∧ Below w.heap.size w w' := by
  obtain ⟨c0, c1, c2⟩ := box_fact18 w f 28
  have HB := Lib.hid (lit16 w (.cells #[.int .i64 f.g, .bool f.v, .int .i64 f.n] 28))
  have H1 : Hid (∀ W, Calls Try.prog 37 #[.int .i64 f.g, .int .i64 0, .int .i64 3] W fun e w' => e = .returned (.bool (withinB f.g 0 3)) ∧ W = w') := Lib.hid fun W => pwithin18_any _ _ _ W
  have H2 : Hid (∀ W, Calls Try.prog 37 #[.int .i64 f.n, .int .i64 0, .int .i64 1000000000000] W fun e w' => e = .returned (.bool (withinB f.n 0 1000000000000)) ∧ W = w') := Lib.hid fun W => pwithin18_any _ _ _ W
  have hs : (withinB f.g 0 3 = true ∧ withinB f.n 0 1000000000000 = true ∧ factE f = 0) ∨ (factE f = 2 ∧ (withinB f.g 0 3 = false ∨ (withinB f.g 0 3 = true ∧ withinB f.n 0 1000000000000 = false))) := by
    by_cases hok : FactOk f
    · left
      have h := fact_yes hok
      unfold FactOk at hok
      unfold withinB
      simp only [Bool.and_eq_true, decide_eq_true_eq]
      omega
    · right
      refine ⟨fact_no hok, ?_⟩
      unfold FactOk at hok
      unfold withinB
      simp only [Bool.and_eq_true, Bool.and_eq_false_iff, decide_eq_true_eq, decide_eq_false_iff_not]
      omega
  generalize factE f = E at *
  generalize withinB f.g 0 3 = x1 at *
  generalize withinB f.n 0 1000000000000 = x2 at *
  obtain ⟨fg, fv, fn⟩ := f
  dsimp only at *
  rcases hs with ⟨rfl, rfl, hE⟩ | ⟨hE, rfl | ⟨rfl, rfl⟩⟩
  all_goals
    have HE := Lib.hid hE
    clear hE
    go_enter Try.func20, Try.ntmps20
    go_wp2_with (first
      | (go_at_call 37; refine (H1.out _).mono ?_; rintro e w1 ⟨rfl, rfl⟩; clear H1)
      | (go_at_call 37; refine (H2.out _).mono ?_; rintro e w1 ⟨rfl, rfl⟩; clear H2))
    go_ret
    exact ⟨by rw [HE.out]; rfl, HB.out⟩
def wrongB18 (r : Row18) : Bool := !decide (RowOk r)
set_option maxHeartbeats 2000000 in
theorem pwrong18_any (r : Row18) (w : World) : Calls Try.prog 39 #[rowVal r] w fun e w' => e = .returned (.bool (wrongB18 r)) ∧ Below w.heap.size w w' := by
  obtain ⟨c0, c1, c2, c3, c4⟩ := box_row18 w r 52
  have HB := Lib.hid (lit16 w (.cells #[.int .i64 r.g, .int .i64 r.v, .int .i64 r.lo, .int .i64 r.hi, .int .i64 r.way] 52))
  have HR : Hid (∀ W, Calls Try.prog 56 #[rowVal r] W fun e w' => e = .returned (.int .i64 (rowE r)) ∧ Below W.heap.size W w') := Lib.hid fun W => prow18_any r W
  have hs : (rowE r = 0 ∧ wrongB18 r = false) ∨ (rowE r = 36 ∧ wrongB18 r = true) := by
    unfold wrongB18
    by_cases h : RowOk r
    · exact Or.inl ⟨row_yes h, by rw [decide_eq_true h]; rfl⟩
    · exact Or.inr ⟨row_no h, by rw [decide_eq_false h]; rfl⟩
  generalize rowE r = E at *
  generalize wrongB18 r = x at *
  obtain ⟨rg, rv, rl, rh, rw⟩ := r
  dsimp only at *
  rcases hs with ⟨rfl, rfl⟩ | ⟨rfl, rfl⟩
  all_goals
    go_enter Try.func39, Try.ntmps39
    go_wp2_with (go_at_call 56; refine (HR.out _).mono ?_; rintro e w1 ⟨rfl, hb⟩; have HB1 := Lib.hid (HB.out.trans (hb.mono HB.out.size)); clear hb)
    go_ret
    exact ⟨rfl, HB1.out⟩
abbrev fnWrong18 : Value := .func (.func 39) #[] #[]
set_option maxHeartbeats 4000000 in
theorem pindex18_any (a : Option Addr) (cap : Nat) (l : List Row18) (w : World) (hx : RowsIn w.heap.size w a l) (hn : l.length ≤ 1000000) :
    Calls Try.prog 55 #[.slice a l.length cap, fnWrong18] w fun e w' => ∃ n : Int, e = .returned (.int .i64 n) ∧ decide (0 ≤ n) = l.any wrongB18 ∧ Below w.heap.size w w' := by
  have HX := Lib.hid hx
  have HB0 := Lib.hid (Below.refl w.heap.size w)
  clear hx
  go_enter Try.func55, Try.ntmps55
  go_wp2
  go_loopw [8] (fun s8 wr => ∃ i : Nat, s8 = .int .i64 i ∧ i ≤ l.length ∧ Hid (Below w.heap.size w wr) ∧ Hid (∀ j, j < i → wrongB18 (rowAt18 l j) = false)) (fun i _ => l.length + 1 - (intOf i).toNat)
  case atStart => exact ⟨0, rfl, by omega, HB0, Lib.hid fun j hj => absurd hj (by omega)⟩
  case round =>
    clear HB0
    obtain ⟨i, rfl, hi, HB, HN⟩ := hrel
    by_cases hlt : i < l.length
    · have i1 : (i : Int) < (l.length : Int) := by omega
      have i3 : (0 : Int) ≤ (i : Int) := by omega
      obtain ⟨b, off, rfl, _, c0, c1, c2, c3, c4⟩ := rows_at18 (rowsIn_step HX.out HB.out) hlt
      have hc := pwrong18_any (rowAt18 l i) wr
      have hi1 : i + 1 ≤ l.length := hlt
      cases hq : wrongB18 (rowAt18 l i) with
      | true =>
        rw [hq] at hc
        have HC := Lib.hid hc
        have HL : Hid (l.any wrongB18 = true) := Lib.hid (by
          rw [List.any_eq_true]
          exact ⟨l[i], List.getElem_mem hlt, by rw [rowAt18_elem hlt]; exact hq⟩)
        have HD : Hid (decide (0 ≤ (i : Int)) = true) := Lib.hid (decide_eq_true i3)
        clear hc hq hlt
        generalize rowAt18 l i = r at *
        obtain ⟨rg, rv, rl, rh, rw⟩ := r
        dsimp only at *
        go_wp2_with (go_at_call 39; refine HC.out.mono ?_; rintro e w2 ⟨rfl, hb⟩; have HB2 := Lib.hid (HB.out.trans (hb.mono HB.out.size)); clear hb)
        go_ret
        exact ⟨i, rfl, by rw [HL.out, HD.out], HB2.out⟩
      | false =>
        rw [hq] at hc
        have HC := Lib.hid hc
        have HN2 : Hid (∀ j, j < i + 1 → wrongB18 (rowAt18 l j) = false) := Lib.hid fun j hj => by
          rcases (by omega : j < i ∨ j = i) with z | z
          · exact HN.out j z
          · rw [z]; exact hq
        clear hc hq hlt
        generalize rowAt18 l i = r at *
        obtain ⟨rg, rv, rl, rh, rw⟩ := r
        dsimp only at *
        go_wp2_with (go_at_call 39; refine HC.out.mono ?_; rintro e w2 ⟨rfl, hb⟩; have HB2 := Lib.hid (HB.out.trans (hb.mono HB.out.size)); clear hb)
        go_roundw
        case rel => exact ⟨i + 1, by first | rfl | go_num, hi1, HB2, HN2⟩
        case measure => first | (simp [intOf]; omega) | simp [intOf]
    · obtain rfl : i = l.length := by omega
      have HL : Hid (l.any wrongB18 = false) := Lib.hid (by
        rw [List.any_eq_false]
        intro r hr
        obtain ⟨j, hj, rfl⟩ := List.mem_iff_getElem.1 hr
        rw [rowAt18_elem hj, HN.out j hj]
        simp)
      go_wp2
      go_ret
      exact ⟨-1, rfl, by rw [HL.out]; rfl, HB.out⟩
theorem pcont18_any (a : Option Addr) (cap : Nat) (l : List Row18) (w : World) (hx : RowsIn w.heap.size w a l) (hn : l.length ≤ 1000000) :
    Calls Try.prog 38 #[.slice a l.length cap, fnWrong18] w fun e w' => e = .returned (.bool (l.any wrongB18)) ∧ Below w.heap.size w w' := by
  have HC := Lib.hid (pindex18_any a cap l w hx hn)
  clear hx
  go_enter Try.func38, Try.ntmps38
  go_wp2_with (go_at_call 55; refine HC.out.mono ?_; rintro e w2 ⟨n, rfl, hn2, hb⟩; have HB := Lib.hid hb; clear hb)
  go_ret
  exact ⟨by first | rfl | (rw [hn2]; rfl) | simp, HB.out⟩
set_option maxHeartbeats 2000000 in
theorem pcheck18_any (a : Option Addr) (cap : Nat) (l : List Row18) (w : World) (hx : RowsIn w.heap.size w a l) (hn : l.length ≤ 1000000) :
    Calls Try.prog 18 #[.slice a l.length cap] w fun e w' => e = .returned (.int .i64 (tabE l)) ∧ Below w.heap.size w w' := by
  have H1 : Hid (∀ W, Calls Try.prog 37 #[.int .i64 l.length, .int .i64 1, .int .i64 20] W fun e w' => e = .returned (.bool (withinB l.length 1 20)) ∧ W = w') := Lib.hid fun W => pwithin18_any _ _ _ W
  have HC := Lib.hid (pcont18_any a cap l w hx hn)
  have hs : (withinB l.length 1 20 = false ∧ tabE l = 36) ∨ (withinB l.length 1 20 = true ∧ l.any wrongB18 = true ∧ tabE l = 36) ∨ (withinB l.length 1 20 = true ∧ l.any wrongB18 = false ∧ tabE l = 0) := by
    cases h1 : withinB l.length 1 20 with
    | false =>
      refine Or.inl ⟨rfl, tab_no fun q => ?_⟩
      unfold withinB at h1
      rw [Bool.and_eq_false_iff, decide_eq_false_iff_not, decide_eq_false_iff_not] at h1
      have := q.1
      have := q.2.1
      omega
    | true =>
      unfold withinB at h1
      rw [Bool.and_eq_true, decide_eq_true_eq, decide_eq_true_eq] at h1
      cases h2 : l.any wrongB18 with
      | true =>
        refine Or.inr (Or.inl ⟨rfl, rfl, tab_no fun q => ?_⟩)
        rw [List.any_eq_true] at h2
        obtain ⟨r, hr, h3⟩ := h2
        have := tab_mem q hr
        unfold wrongB18 at h3
        rw [decide_eq_true this] at h3
        cases h3
      | false =>
        refine Or.inr (Or.inr ⟨rfl, rfl, tab_yes (tab_of (by omega) (by omega) fun r hr => ?_)⟩)
        rw [List.any_eq_false] at h2
        have h3 := h2 r hr
        unfold wrongB18 at h3
        simpa using h3
  have HB := Lib.hid (Below.refl w.heap.size w)
  generalize tabE l = E at *
  generalize withinB l.length 1 20 = x1 at *
  generalize l.any wrongB18 = x2 at *
  clear hx
  rcases hs with ⟨rfl, hE⟩ | ⟨rfl, rfl, hE⟩ | ⟨rfl, rfl, hE⟩
  · have HE := Lib.hid hE
    clear hE
    go_enter Try.func18, Try.ntmps18
    go_wp2_with (go_at_call 37; refine (H1.out _).mono ?_; rintro e w1 ⟨rfl, rfl⟩; clear H1)
    go_ret
    exact ⟨by rw [HE.out]; rfl, HB.out⟩
  all_goals
    have HE := Lib.hid hE
    clear hE
    go_enter Try.func18, Try.ntmps18
    go_wp2_with (first
      | (go_at_call 37; refine (H1.out _).mono ?_; rintro e w1 ⟨rfl, rfl⟩; clear H1)
      | (go_at_call 38; refine HC.out.mono ?_; rintro e w1 ⟨rfl, hb⟩; have HB1 := Lib.hid hb; clear hb))
    go_ret
    exact ⟨by rw [HE.out]; rfl, HB1.out⟩
end Go.Proofs.Ytifihejogbcbgaa
namespace Go.Proofs.Ytifihejogbcbgaa
open Go.RowKit

theorem boxes18 (w : World) (r : Row18) (f : Fact18) (t u : TypeId) :
    ((((w.alloc (.cells #[.int .i64 r.g, .int .i64 r.v, .int .i64 r.lo, .int .i64 r.hi, .int .i64 r.way] t)).alloc (.cells #[.int .i64 f.g, .bool f.v, .int .i64 f.n] u)).cell? ⟨w.heap.size, 0, none⟩ = some (.int .i64 r.g) ∧
      ((w.alloc (.cells #[.int .i64 r.g, .int .i64 r.v, .int .i64 r.lo, .int .i64 r.hi, .int .i64 r.way] t)).alloc (.cells #[.int .i64 f.g, .bool f.v, .int .i64 f.n] u)).cell? ⟨w.heap.size, 1, none⟩ = some (.int .i64 r.v) ∧
      ((w.alloc (.cells #[.int .i64 r.g, .int .i64 r.v, .int .i64 r.lo, .int .i64 r.hi, .int .i64 r.way] t)).alloc (.cells #[.int .i64 f.g, .bool f.v, .int .i64 f.n] u)).cell? ⟨w.heap.size, 2, none⟩ = some (.int .i64 r.lo) ∧
      ((w.alloc (.cells #[.int .i64 r.g, .int .i64 r.v, .int .i64 r.lo, .int .i64 r.hi, .int .i64 r.way] t)).alloc (.cells #[.int .i64 f.g, .bool f.v, .int .i64 f.n] u)).cell? ⟨w.heap.size, 3, none⟩ = some (.int .i64 r.hi)) ∧
    ((w.alloc (.cells #[.int .i64 r.g, .int .i64 r.v, .int .i64 r.lo, .int .i64 r.hi, .int .i64 r.way] t)).alloc (.cells #[.int .i64 f.g, .bool f.v, .int .i64 f.n] u)).cell? ⟨w.heap.size + 1, 0, none⟩ = some (.int .i64 f.g) ∧
    ((w.alloc (.cells #[.int .i64 r.g, .int .i64 r.v, .int .i64 r.lo, .int .i64 r.hi, .int .i64 r.way] t)).alloc (.cells #[.int .i64 f.g, .bool f.v, .int .i64 f.n] u)).cell? ⟨w.heap.size + 1, 1, none⟩ = some (.bool f.v) ∧
    ((w.alloc (.cells #[.int .i64 r.g, .int .i64 r.v, .int .i64 r.lo, .int .i64 r.hi, .int .i64 r.way] t)).alloc (.cells #[.int .i64 f.g, .bool f.v, .int .i64 f.n] u)).cell? ⟨w.heap.size + 1, 2, none⟩ = some (.int .i64 f.n)) ∧
    Below w.heap.size w ((w.alloc (.cells #[.int .i64 r.g, .int .i64 r.v, .int .i64 r.lo, .int .i64 r.hi, .int .i64 r.way] t)).alloc (.cells #[.int .i64 f.g, .bool f.v, .int .i64 f.n] u)) := by
  have h0 := heap_alloc2_old w (.cells #[.int .i64 r.g, .int .i64 r.v, .int .i64 r.lo, .int .i64 r.hi, .int .i64 r.way] t) (.cells #[.int .i64 f.g, .bool f.v, .int .i64 f.n] u)
  have h1 := heap_alloc2_new w (.cells #[.int .i64 r.g, .int .i64 r.v, .int .i64 r.lo, .int .i64 r.hi, .int .i64 r.way] t) (.cells #[.int .i64 f.g, .bool f.v, .int .i64 f.n] u)
  exact ⟨⟨⟨cell_of (j := 0) h0 rfl, cell_of (j := 1) h0 rfl, cell_of (j := 2) h0 rfl, cell_of (j := 3) h0 rfl⟩, cell_of (j := 0) h1 rfl, cell_of (j := 1) h1 rfl, cell_of (j := 2) h1 rfl⟩,
    ((Below.refl _ w).alloc (Nat.le_refl _) _).alloc ((Below.refl _ w).alloc (Nat.le_refl _) _).size _⟩
set_option maxHeartbeats 1000000 in
theorem pgrade18_any (r : Row18) (f : Fact18) (h1 : RowOk r) (h2 : FactOk f) (w : World) : Calls Try.prog 63 #[rowVal r, factVal f] w fun e w' => e = .returned (.bool (bitB r.g f.g)) ∧ Below w.heap.size w w' := by
  obtain ⟨⟨⟨c0, c1, c2, c3⟩, x0, x1, x2⟩, hb⟩ := boxes18 w r f 84 28
  have HB := Lib.hid hb
  have HC : Hid (∀ W, Calls Try.prog 77 #[.int .i64 r.g, .int .i64 f.g] W fun e w' => e = .returned (.bool (bitB r.g f.g)) ∧ W = w') := Lib.hid fun W => by
    obtain ⟨n, hn⟩ : ∃ n : Nat, r.g = n := ⟨r.g.toNat, by have := h1.1; omega⟩
    obtain ⟨k, hk⟩ : ∃ k : Nat, f.g = k := ⟨f.g.toNat, by have := h2.1; omega⟩
    rw [hn, hk]
    exact phasbit18_any n k (by have := h2.2.1; omega) W
  generalize bitB r.g f.g = y at *
  clear h1 h2 hb
  obtain ⟨rg, rv, rl, rh, rw⟩ := r
  obtain ⟨fg, fv, fn⟩ := f
  dsimp only at *
  go_enter Try.func63, Try.ntmps63
  go_wp2_with (go_at_call 77; refine (HC.out _).mono ?_; rintro e w1 ⟨rfl, rfl⟩)
  go_ret
  exact ⟨rfl, HB.out⟩
set_option maxHeartbeats 1000000 in
theorem pwarr18_any (r : Row18) (f : Fact18) (h1 : RowOk r) (w : World) : Calls Try.prog 64 #[rowVal r, factVal f] w fun e w' => e = .returned (.bool (bitB r.v (warN f))) ∧ Below w.heap.size w w' := by
  obtain ⟨⟨⟨c0, c1, c2, c3⟩, x0, x1, x2⟩, hb⟩ := boxes18 w r f 84 28
  have HB := Lib.hid hb
  have HC : Hid (∀ W, Calls Try.prog 77 #[.int .i64 r.v, .int .i64 (warN f)] W fun e w' => e = .returned (.bool (bitB r.v (warN f))) ∧ W = w') := Lib.hid fun W => by
    obtain ⟨n, hn⟩ : ∃ n : Nat, r.v = n := ⟨r.v.toNat, by have := h1.2.2.1; omega⟩
    obtain ⟨k, hk, hk1⟩ : ∃ k : Nat, warN f = k ∧ k ≤ 1 := by
      unfold warN
      split
      · exact ⟨1, rfl, Nat.le_refl _⟩
      · exact ⟨0, rfl, by omega⟩
    rw [hn, hk]
    exact phasbit18_any n k (by omega) W
  have hw : (f.v = true ∧ warN f = 1) ∨ (f.v = false ∧ warN f = 0) := by
    unfold warN
    cases f.v <;> simp
  generalize bitB r.v (warN f) = y at *
  generalize warN f = kk at *
  clear h1 hb
  obtain ⟨rg, rv, rl, rh, rw⟩ := r
  obtain ⟨fg, fv, fn⟩ := f
  dsimp only at *
  rcases hw with ⟨rfl, rfl⟩ | ⟨rfl, rfl⟩
  all_goals
    go_enter Try.func64, Try.ntmps64
    go_wp2_with (go_at_call 77; refine (HC.out _).mono ?_; rintro e w1 ⟨rfl, rfl⟩)
    go_ret
    exact ⟨rfl, HB.out⟩
set_option maxHeartbeats 1000000 in
theorem pamount18_any (r : Row18) (f : Fact18) (w : World) : Calls Try.prog 65 #[rowVal r, factVal f] w fun e w' => e = .returned (.bool (withinB f.n r.lo r.hi)) ∧ Below w.heap.size w w' := by
  obtain ⟨⟨⟨c0, c1, c2, c3⟩, x0, x1, x2⟩, hb⟩ := boxes18 w r f 84 28
  have HB := Lib.hid hb
  have HC : Hid (∀ W, Calls Try.prog 37 #[.int .i64 f.n, .int .i64 r.lo, .int .i64 r.hi] W fun e w' => e = .returned (.bool (withinB f.n r.lo r.hi)) ∧ W = w') := Lib.hid fun W => pwithin18_any _ _ _ W
  generalize withinB f.n r.lo r.hi = y at *
  clear hb
  obtain ⟨rg, rv, rl, rh, rw⟩ := r
  obtain ⟨fg, fv, fn⟩ := f
  dsimp only at *
  go_enter Try.func65, Try.ntmps65
  go_wp2_with (go_at_call 37; refine (HC.out _).mono ?_; rintro e w1 ⟨rfl, rfl⟩)
  go_ret
  exact ⟨rfl, HB.out⟩
abbrev fnGrade18 (r : Row18) : Value := .func (.func 63) #[rowVal r] #[]
abbrev fnWarr18 (r : Row18) : Value := .func (.func 64) #[rowVal r] #[]
abbrev fnAmount18 (r : Row18) : Value := .func (.func 65) #[rowVal r] #[]
/-- The three conditions lie in a row. -/
structure Conds18 (w W : World) (b : Nat) (r : Row18) : Prop where
  below : Below w.heap.size w W
  lt : b < W.heap.size
  c0 : W.cell? ⟨b, 0, none⟩ = some (fnGrade18 r)
  c1 : W.cell? ⟨b, 1, none⟩ = some (fnWarr18 r)
  c2 : W.cell? ⟨b, 2, none⟩ = some (fnAmount18 r)
theorem Conds18.step {w W V : World} {b : Nat} {r : Row18} (h : Conds18 w W b r) (hb : Below W.heap.size W V) : Conds18 w V b r :=
  ⟨h.below.trans (hb.mono h.below.size), Nat.lt_of_lt_of_le h.lt hb.size, (hb.cell (p := ⟨b, 0, none⟩) h.lt).trans h.c0, (hb.cell (p := ⟨b, 1, none⟩) h.lt).trans h.c1, (hb.cell (p := ⟨b, 2, none⟩) h.lt).trans h.c2⟩
set_option maxHeartbeats 1000000 in
theorem pall18_any (r : Row18) (w : World) : Calls Try.prog 57 #[rowVal r] w fun e w' => ∃ b, e = .returned (.slice (some ⟨b, 0, none⟩) 3 3) ∧ Conds18 w w' b r := by
  have hmf : ∀ (fn : Fn) (first cap : Array Value) (w : World), (Instr.makeFunc fn first cap).run Try.prog w = .ok (.func fn first cap) w := fun _ _ _ _ => rfl
  obtain ⟨c0, c1, c2, c3, c4⟩ := box_row18 w r 84
  have HB := Lib.hid (lit16 w (.cells #[.int .i64 r.g, .int .i64 r.v, .int .i64 r.lo, .int .i64 r.hi, .int .i64 r.way] 84))
  obtain ⟨rg, rv, rl, rh, rw⟩ := r
  dsimp only at *
  go_enter Try.func57, Try.ntmps57
  go_wp2
  go_ret
  have h1 := heap_alloc2_new w (.cells #[.int .i64 rg, .int .i64 rv, .int .i64 rl, .int .i64 rh, .int .i64 rw] 84) (.cells #[fnGrade18 ⟨rg, rv, rl, rh, rw⟩, fnWarr18 ⟨rg, rv, rl, rh, rw⟩, fnAmount18 ⟨rg, rv, rl, rh, rw⟩] 86)
  refine ⟨w.heap.size + 1, rfl, HB.out.alloc HB.out.size _, by simp, cell_of (j := 0) h1 rfl, cell_of (j := 1) h1 rfl, cell_of (j := 2) h1 rfl⟩
end Go.Proofs.Ytifihejogbcbgaa
namespace Go.Proofs.Ytifihejogbcbgaa
open Go.RowKit

def mE18 (l : List Row18) (f : Fact18) : Int := if TabOk l then factE f else 36
theorem fact_box18p (w : World) (f : Fact18) : (w.alloc (.cells #[.int .i64 f.g, .bool f.v, .int .i64 f.n] 28)).heap[w.heap.size]? = some (.cells #[.int .i64 f.g, .bool f.v, .int .i64 f.n] 28 (0, 0)) := heap_alloc_new w _
set_option maxHeartbeats 4000000 in
theorem pmatching18_any (a : Option Addr) (cap : Nat) (l : List Row18) (f : Fact18) (w : World) (hx : RowsIn w.heap.size w a l) (hn : l.length ≤ 1000000) :
    Calls Try.prog 40 #[.slice a l.length cap, factVal f] w fun e w' => ∃ b c, e = .returned (.tuple #[.slice b (fitsV l f).length c, .int .i64 (mE18 l f)]) ∧ (fitsV l f).length ≤ c ∧ Ints w'.heap.size w' b (fitsV l f) ∧ Below w.heap.size w w' := by
  obtain ⟨W0, hW0⟩ : ∃ W, W = w.alloc (.cells #[.int .i64 f.g, .bool f.v, .int .i64 f.n] 28) := ⟨_, rfl⟩
  have hb0 : Below w.heap.size w W0 := by rw [hW0]; exact lit16 w _
  have hf0 : W0.heap[w.heap.size]? = some (.cells #[.int .i64 f.g, .bool f.v, .int .i64 f.n] 28 (0, 0)) := by rw [hW0]; exact fact_box18p w f
  have HX := Lib.hid (rowsIn_step hx hb0)
  have HB0 := Lib.hid hb0
  have HF0 := Lib.hid hf0
  have HC : Hid (∀ W, Below W0.heap.size W0 W → Calls Try.prog 18 #[.slice a l.length cap] W fun e w' => e = .returned (.int .i64 (tabE l)) ∧ Below W.heap.size W w') := Lib.hid fun W h => pcheck18_any a cap l W (rowsIn_step HX.out h) hn
  have HG : Hid (∀ W, Calls Try.prog 20 #[factVal f] W fun e w' => e = .returned (.int .i64 (factE f)) ∧ Below W.heap.size W w') := Lib.hid fun W => pfact18_any f W
  have HFB : Hid (∀ W, Below W0.heap.size W0 W → W.cell? ⟨w.heap.size, 0, none⟩ = some (.int .i64 f.g) ∧ W.cell? ⟨w.heap.size, 1, none⟩ = some (.bool f.v) ∧ W.cell? ⟨w.heap.size, 2, none⟩ = some (.int .i64 f.n)) := Lib.hid fun W h => by
    have hfb := old_obj h HF0.out
    exact ⟨cell_of (j := 0) hfb rfl, cell_of (j := 1) hfb rfl, cell_of (j := 2) hfb rfl⟩
  clear hx hb0 hf0
  by_cases hA : ¬ TabOk l
  · have HV : Hid (fitsV l f = [] ∧ mE18 l f = 36) := Lib.hid ⟨if_neg hA, if_neg hA⟩
    rw [tab_no hA] at HC
    rw [HV.out.1, HV.out.2]
    clear hA
    generalize mE18 l f = E at *
    obtain ⟨fg, fv, fn⟩ := f
    dsimp only at *
    go_enter Try.func40, Try.ntmps40
    go_wp2
    rw [← hW0]
    clear hW0
    go_step3
    go_wp2_with (go_at_call 18; refine (HC.out _ (Below.refl _ _)).mono ?_; rintro e w2 ⟨rfl, hb⟩; have HB2 := Lib.hid (HB0.out.trans (hb.mono HB0.out.size)); clear hb)
    rw [Exit.noGoto_ret]
    go_ret2
    exact ⟨none, 0, rfl, Nat.le_refl _, Or.inl rfl, HB2.out⟩
  have hA := Decidable.not_not.1 hA
  rw [tab_yes hA] at HC
  by_cases hF : ¬ FactOk f
  · have HV : Hid (fitsV l f = [] ∧ mE18 l f = 2) := Lib.hid ⟨by rw [fitsV, if_pos hA, fits_fact hF], by rw [mE18, if_pos hA, fact_no hF]⟩
    rw [fact_no hF] at HG
    rw [HV.out.1, HV.out.2]
    clear hA hF
    generalize mE18 l f = E at *
    obtain ⟨fg, fv, fn⟩ := f
    dsimp only at *
    go_enter Try.func40, Try.ntmps40
    go_wp2
    rw [← hW0]
    clear hW0
    go_step3
    go_wp2_with (first
      | (go_at_call 18; refine (HC.out _ (Below.refl _ _)).mono ?_; rintro e w2 ⟨rfl, hb⟩; have HB2 := Lib.hid hb; obtain ⟨x0, x1, x2⟩ := HFB.out _ hb; clear hb)
      | (go_at_call 20; refine (HG.out _).mono ?_; rintro e w3 ⟨rfl, hb⟩; have HB3 := Lib.hid (HB2.out.trans (hb.mono HB2.out.size)); clear hb))
    rw [Exit.noGoto_ret]
    go_ret2
    exact ⟨none, 0, rfl, Nat.le_refl _, Or.inl rfl, HB0.out.trans (HB3.out.mono HB0.out.size)⟩
  have hF := Decidable.not_not.1 hF
  rw [fact_yes hF] at HG
  have HV : Hid (fitsV l f = fitsTo l f l.length ∧ mE18 l f = 0) := Lib.hid ⟨if_pos hA, by rw [mE18, if_pos hA, fact_yes hF]⟩
  have h20 := hA.2.1
  have HP : Hid (∀ j, j < l.length → RowOk (rowAt18 l j)) := Lib.hid hA.2.2
  have HFO := Lib.hid hF
  rw [HV.out.2]
  clear hA hF
  go_enter Try.func40, Try.ntmps40
  go_wp2
  rw [← hW0]
  clear hW0
  go_step3
  go_wp2_with (first
      | (go_at_call 18; refine (HC.out _ (Below.refl _ _)).mono ?_; rintro e w2 ⟨rfl, hb⟩; have HB2 := Lib.hid hb; obtain ⟨x0, x1, x2⟩ := HFB.out _ hb; clear hb)
      | (go_at_call 20; refine (HG.out _).mono ?_; rintro e w3 ⟨rfl, hb⟩; have HB3 := Lib.hid (HB2.out.trans (hb.mono HB2.out.size)); clear hb))
  have H0 := Lib.hid (Nums16.step (Nums16.start W0) HB3.out)
  clear x0 x1 x2 HC HG
  go_step3
  go_wp2
  go_loopg [8, 25] l.length (fun g s8 s25 wr => ∃ (k : Nat) (a8 : Option Addr) (c8 : Nat) (ys : List Int), k + g = l.length ∧ s8 = .slice a8 ys.length c8 ∧ s25 = .int .i64 k ∧ Hid (Nums16 W0 wr a8 c8 ys) ∧ Hid (ys = fitsTo l f k))
  case atStart => exact ⟨0, none, 0, [], by omega, rfl, rfl, H0, Lib.hid rfl⟩
  case round =>
    obtain ⟨k, a8, c8, ys, hkg, rfl, rfl, HO, HY⟩ := hrel
    cases gk with
    | zero =>
      obtain rfl : k = l.length := by omega
      have HR : Hid (ys = fitsV l f) := Lib.hid (by rw [HY.out, HV.out.1])
      go_wp2
      rw [Exit.noGoto_ret]
      go_ret2
      rw [← HR.out]
      exact ⟨a8, c8, rfl, HO.out.ints.1, HO.out.ints.2, HB0.out.trans (HO.out.below.mono HB0.out.size)⟩
    | succ g =>
      have hlt : k < l.length := by omega
      have i2 : (k : Int) < (l.length : Int) := by omega
      have i3 : (0 : Int) ≤ (k : Int) := by omega
      have hyl : ys.length ≤ 1000000 := by have := fits_len l f k; rw [← HY.out] at this; omega
      obtain ⟨b, off, rfl, hbb, c0, c1, c2, c3, c4⟩ := rows_at18 (rowsIn_step HX.out HO.out.below) hlt
      have hmb := match_in (f := f) (HP.out k hlt) HFO.out
      have hhc : hitB (rowAt18 l k) f = (bitB (rowAt18 l k).g f.g && (bitB (rowAt18 l k).v (warN f) && withinB f.n (rowAt18 l k).lo (rowAt18 l k).hi)) := rfl
      have HSTEP : Hid (fitsTo l f (k + 1) = if matchB (rowAt18 l k) f = true then fitsTo l f k ++ [(k : Int)] else fitsTo l f k) := Lib.hid rfl
      rw [hmb, hhc] at HSTEP
      have HAL : Hid (∀ W, Calls Try.prog 57 #[rowVal (rowAt18 l k)] W fun e w' => ∃ b, e = .returned (.slice (some ⟨b, 0, none⟩) 3 3) ∧ Conds18 W w' b (rowAt18 l k)) := Lib.hid fun W => pall18_any _ W
      have HK0 : Hid (∀ W, Calls Try.prog 63 #[rowVal (rowAt18 l k), factVal f] W fun e w' => e = .returned (.bool (bitB (rowAt18 l k).g f.g)) ∧ Below W.heap.size W w') := Lib.hid fun W => pgrade18_any _ f (HP.out k hlt) HFO.out W
      have HK1 : Hid (∀ W, Calls Try.prog 64 #[rowVal (rowAt18 l k), factVal f] W fun e w' => e = .returned (.bool (bitB (rowAt18 l k).v (warN f))) ∧ Below W.heap.size W w') := Lib.hid fun W => pwarr18_any _ f (HP.out k hlt) W
      have HK2 : Hid (∀ W, Calls Try.prog 65 #[rowVal (rowAt18 l k), factVal f] W fun e w' => e = .returned (.bool (withinB f.n (rowAt18 l k).lo (rowAt18 l k).hi)) ∧ Below W.heap.size W w') := Lib.hid fun W => pamount18_any _ f W
      clear hmb hhc
      generalize bitB (rowAt18 l k).g f.g = y0 at *
      generalize bitB (rowAt18 l k).v (warN f) = y1 at *
      generalize withinB f.n (rowAt18 l k).lo (rowAt18 l k).hi = y2 at *
      have HS : Hid (∀ z, Nums16 W0 z a8 c8 ys → Nums16 W0 z a8 c8 ys) := Lib.hid fun _ h => h
      clear hlt
      generalize rowAt18 l k = r at *
      have hq := box_row18 wr r 52
      have HOB : Hid (Nums16 W0 (wr.alloc (.cells #[.int .i64 r.g, .int .i64 r.v, .int .i64 r.lo, .int .i64 r.hi, .int .i64 r.way] 52)) a8 c8 ys) := Lib.hid (HO.out.step (lit16 wr _))
      obtain ⟨rg, rv, rl, rh, rw⟩ := r
      dsimp only at *
      go_upto_region 11 with fail
      obtain ⟨wa, hwa⟩ : ∃ V, V = wr.alloc (.cells #[.int .i64 rg, .int .i64 rv, .int .i64 rl, .int .i64 rh, .int .i64 rw] 52) := ⟨_, rfl⟩
      rw [← hwa] at hq HOB ⊢
      obtain ⟨q0, q1, q2, q3, q4⟩ := hq
      clear hwa HO HS c0 c1 c2 c3 c4
      go_wp2_with (go_at_call 57; refine (HAL.out _).mono ?_; rintro e wc ⟨fb, rfl, hc⟩; have HCO := Lib.hid hc; have HOC := Lib.hid (HOB.out.step hc.below); clear hc q0 q1 q2 q3 q4)
      have hkl : k + 1 + g = l.length := by omega
      have HFW := Lib.hid (And.intro hyl hyl)
      clear HAL hyl
      go_loopg [33] 3 (fun g2 s33 wx => ∃ j : Nat, j + g2 = 3 ∧ s33 = .int .i64 j ∧ Hid (Conds18 wa wx fb ⟨rg, rv, rl, rh, rw⟩) ∧ Hid (Nums16 W0 wx a8 c8 ys) ∧ Hid ((0 < j → y0 = true) ∧ (1 < j → y1 = true) ∧ (2 < j → y2 = true)))
      case atStart => exact ⟨0, rfl, rfl, HCO, HOC, Lib.hid ⟨fun h => absurd h (by omega), fun h => absurd h (by omega), fun h => absurd h (by omega)⟩⟩
      case round =>
        clear HCO HOC
        obtain ⟨j, hj3, rfl, HCO, HOC, HYS⟩ := hrel
        cases gk with
        | zero =>
          obtain rfl : j = 3 := by omega
          have HQ : Hid (ys ++ [(k : Int)] = fitsTo l f (k + 1)) := Lib.hid (by rw [HSTEP.out, HYS.out.1 (by omega), HYS.out.2.1 (by omega), HYS.out.2.2 (by omega), HY.out]; rfl)
          have hyl := HFW.out.1
          go_wp2_with (at_builtin; refine append_nums rfl _ _ rfl a8 c8 ys rfl HOC.out (k : Int) rfl hyl ?_)
          intro a7 c7 V7 ts hts' hO7
          have hts := hts'.out
          clear hts'
          have HO7 := Lib.hid hO7
          rw [← hts] at HQ
          clear hO7 hts
          go_wp2
          go_roundg g
          case rel => exact ⟨k + 1, a7, c7, ts, hkl, rfl, by first | rfl | go_num, HO7, HQ⟩
          case measure => omega
        | succ g3 =>
          rcases (by omega : j = 0 ∨ j = 1 ∨ j = 2) with rfl | rfl | rfl
          · obtain rfl : g3 = 2 := by omega
            obtain ⟨x0, x1, x2⟩ := HFB.out _ HOC.out.below
            have k0 := HCO.out.c0
            clear HK1 HK2
            cases hy : y0 with
            | true =>
              rw [hy] at HK0
              have HCN : Hid ((0 < 1 → y0 = true) ∧ (1 < 1 → y1 = true) ∧ (2 < 1 → y2 = true)) := Lib.hid ⟨fun _ => hy, fun h => absurd h (by omega), fun h => absurd h (by omega)⟩
              clear hy
              go_wp2_with (go_at_call 63; refine (HK0.out _).mono ?_; rintro e w5 ⟨rfl, hb⟩; have HCO2 := Lib.hid (HCO.out.step hb); have HOC2 := Lib.hid (HOC.out.step hb); clear hb)
              go_roundg 2
              case rel => exact ⟨1, rfl, by first | rfl | go_num, HCO2, HOC2, HCN⟩
              case measure => omega
            | false =>
              rw [hy] at HK0
              have HQ : Hid (ys = fitsTo l f (k + 1)) := Lib.hid (by rw [HSTEP.out, hy, HY.out]; rfl)
              clear hy
              go_wp2_with (go_at_call 63; refine (HK0.out _).mono ?_; rintro e w5 ⟨rfl, hb⟩; have HOC2 := Lib.hid (HOC.out.step hb); clear hb)
              go_roundg g
              case rel => exact ⟨k + 1, a8, c8, ys, hkl, rfl, by first | rfl | go_num, HOC2, HQ⟩
              case measure => omega
          · obtain rfl : g3 = 1 := by omega
            obtain ⟨x0, x1, x2⟩ := HFB.out _ HOC.out.below
            have k0 := HCO.out.c1
            clear HK0 HK2
            cases hy : y1 with
            | true =>
              rw [hy] at HK1
              have HCN : Hid ((0 < 2 → y0 = true) ∧ (1 < 2 → y1 = true) ∧ (2 < 2 → y2 = true)) := Lib.hid ⟨fun _ => HYS.out.1 (by omega), fun h => hy, fun h => absurd h (by omega)⟩
              clear hy
              go_wp2_with (go_at_call 64; refine (HK1.out _).mono ?_; rintro e w5 ⟨rfl, hb⟩; have HCO2 := Lib.hid (HCO.out.step hb); have HOC2 := Lib.hid (HOC.out.step hb); clear hb)
              go_roundg 1
              case rel => exact ⟨2, rfl, by first | rfl | go_num, HCO2, HOC2, HCN⟩
              case measure => omega
            | false =>
              rw [hy] at HK1
              have HQ : Hid (ys = fitsTo l f (k + 1)) := Lib.hid (by rw [HSTEP.out, hy, HY.out]; cases y0 <;> rfl)
              clear hy
              go_wp2_with (go_at_call 64; refine (HK1.out _).mono ?_; rintro e w5 ⟨rfl, hb⟩; have HOC2 := Lib.hid (HOC.out.step hb); clear hb)
              go_roundg g
              case rel => exact ⟨k + 1, a8, c8, ys, hkl, rfl, by first | rfl | go_num, HOC2, HQ⟩
              case measure => omega
          · obtain rfl : g3 = 0 := by omega
            obtain ⟨x0, x1, x2⟩ := HFB.out _ HOC.out.below
            have k0 := HCO.out.c2
            clear HK0 HK1
            cases hy : y2 with
            | true =>
              rw [hy] at HK2
              have HCN : Hid ((0 < 3 → y0 = true) ∧ (1 < 3 → y1 = true) ∧ (2 < 3 → y2 = true)) := Lib.hid ⟨fun _ => HYS.out.1 (by omega), fun h => HYS.out.2.1 (by omega), fun h => hy⟩
              clear hy
              go_wp2_with (go_at_call 65; refine (HK2.out _).mono ?_; rintro e w5 ⟨rfl, hb⟩; have HCO2 := Lib.hid (HCO.out.step hb); have HOC2 := Lib.hid (HOC.out.step hb); clear hb)
              go_roundg 0
              case rel => exact ⟨3, rfl, by first | rfl | go_num, HCO2, HOC2, HCN⟩
              case measure => omega
            | false =>
              rw [hy] at HK2
              have HQ : Hid (ys = fitsTo l f (k + 1)) := Lib.hid (by rw [HSTEP.out, hy, HY.out]; cases y0 <;> cases y1 <;> rfl)
              clear hy
              go_wp2_with (go_at_call 65; refine (HK2.out _).mono ?_; rintro e w5 ⟨rfl, hb⟩; have HOC2 := Lib.hid (HOC.out.step hb); clear hb)
              go_roundg g
              case rel => exact ⟨k + 1, a8, c8, ys, hkl, rfl, by first | rfl | go_num, HOC2, HQ⟩
              case measure => omega
end Go.Proofs.Ytifihejogbcbgaa
namespace Go.Proofs.Ytifihejogbcbgaa
open Go.RowKit

theorem bx18p (w : World) (f : Fact18) : ∃ W, W = w.alloc (.cells #[.int .i64 f.g, .bool f.v, .int .i64 f.n] 28) ∧ Below w.heap.size w W ∧ W.cell? ⟨w.heap.size, 0, none⟩ = some (.int .i64 f.g) ∧ W.cell? ⟨w.heap.size, 1, none⟩ = some (.bool f.v) ∧ W.cell? ⟨w.heap.size, 2, none⟩ = some (.int .i64 f.n) := by
  obtain ⟨c0, c1, c2⟩ := box_fact18 w f 28
  exact ⟨_, rfl, lit16 w _, c0, c1, c2⟩
set_option maxHeartbeats 2000000 in
theorem pfits18_any (a : Option Addr) (cap : Nat) (l : List Row18) (f : Fact18) (w : World) (hx : RowsIn w.heap.size w a l) (hn : l.length ≤ 1000000) :
    Calls Try.prog 76 #[.slice a l.length cap, factVal f] w fun e w' => ∃ b c, e = .returned (.slice b (fitsV l f).length c) ∧ (fitsV l f).length ≤ c ∧ Ints w'.heap.size w' b (fitsV l f) ∧ Below w.heap.size w w' := by
  obtain ⟨W0, hW0, hb0, x0, x1, x2⟩ := bx18p w f
  have HM := Lib.hid (pmatching18_any a cap l f W0 (rowsIn_step hx hb0) hn)
  have HB0 := Lib.hid hb0
  clear hx hb0
  generalize fitsV l f = F at *
  generalize mE18 l f = E at *
  obtain ⟨fg, fv, fn⟩ := f
  dsimp only at *
  go_enter Try.func76, Try.ntmps76
  go_upto_region 1 with fail
  rw [← hW0]
  clear hW0
  go_wp2_with (go_at_call 40; refine HM.out.mono ?_; rintro e w2 ⟨b, c, rfl, h1, h2, hb⟩; have HI := Lib.hid (And.intro h1 h2); have HB2 := Lib.hid (HB0.out.trans (hb.mono HB0.out.size)); clear h1 h2 hb)
  go_ret
  exact ⟨b, c, rfl, HI.out.1, HI.out.2, HB2.out⟩
theorem mE_cases (l : List Row18) (f : Fact18) : (mE18 l f = 36 ∧ decE l f = 36 ∧ decAt l f = 0 ∧ decWay l f = 0) ∨ (mE18 l f = 2 ∧ decE l f = 2 ∧ decAt l f = 0 ∧ decWay l f = 0) ∨ (mE18 l f = 0 ∧ fitsV l f = [] ∧ decE l f = 36 ∧ decAt l f = 0 ∧ decWay l f = 0) ∨ ∃ i t, mE18 l f = 0 ∧ i < l.length ∧ fitsV l f = (i : Int) :: t ∧ decE l f = 0 ∧ decAt l f = i ∧ decWay l f = (rowAt18 l i).way := by
  by_cases hA : TabOk l
  · by_cases hF : FactOk f
    · have hm : mE18 l f = 0 := by rw [mE18, if_pos hA, fact_yes hF]
      have hv : fitsV l f = fitsTo l f l.length := if_pos hA
      rcases first_fits l f l.length with ⟨h1, h2⟩ | ⟨i, t, h1, h2, _, h4⟩
      · exact Or.inr (Or.inr (Or.inl ⟨hm, by rw [hv, h2], dec_none hA hF h1⟩))
      · exact Or.inr (Or.inr (Or.inr ⟨i, t, hm, h2, by rw [hv, h4], dec_some hA hF h1⟩))
    · exact Or.inr (Or.inl ⟨by rw [mE18, if_pos hA, fact_no hF], dec_fact hA hF⟩)
  · exact Or.inl ⟨if_neg hA, dec_no hA⟩
set_option maxHeartbeats 4000000 in
theorem pdecide18_any (a : Option Addr) (cap : Nat) (l : List Row18) (f : Fact18) (w : World) (hx : RowsIn w.heap.size w a l) (hn : l.length ≤ 1000000) :
    Calls Try.prog 19 #[.slice a l.length cap, factVal f] w fun e w' => e = .returned (.tuple #[.int .i64 (decWay l f), .int .i64 (decAt l f), .int .i64 (decE l f)]) ∧ Below w.heap.size w w' := by
  obtain ⟨W0, hW0, hb0, x0, x1, x2⟩ := bx18p w f
  have HX := Lib.hid (rowsIn_step hx hb0)
  have hm := pmatching18_any a cap l f W0 HX.out hn
  have HB0 := Lib.hid hb0
  have hs := mE_cases l f
  clear hx hb0
  generalize decWay l f = v1 at *
  generalize decAt l f = v2 at *
  generalize decE l f = v3 at *
  generalize fitsV l f = F at *
  generalize mE18 l f = E at *
  obtain ⟨fg, fv, fn⟩ := f
  dsimp only at *
  rcases hs with ⟨rfl, h1, h2, h3⟩ | ⟨rfl, h1, h2, h3⟩ | ⟨rfl, rfl, h1, h2, h3⟩ | ⟨i, t, rfl, hil, rfl, h1, h2, h3⟩
  · have HV := Lib.hid (And.intro h1 (And.intro h2 h3))
    have HM := Lib.hid hm
    clear h1 h2 h3 hm
    go_enter Try.func19, Try.ntmps19
    go_upto_region 1 with fail
    rw [← hW0]
    clear hW0
    go_wp2_with (go_at_call 40; refine HM.out.mono ?_; rintro e w2 ⟨b, c, rfl, h1, h2, hb⟩; have HB2 := Lib.hid (HB0.out.trans (hb.mono HB0.out.size)); clear h1 h2 hb)
    go_ret3
    exact ⟨by rw [HV.out.1, HV.out.2.1, HV.out.2.2]; rfl, HB2.out⟩
  · have HV := Lib.hid (And.intro h1 (And.intro h2 h3))
    have HM := Lib.hid hm
    clear h1 h2 h3 hm
    go_enter Try.func19, Try.ntmps19
    go_upto_region 1 with fail
    rw [← hW0]
    clear hW0
    go_wp2_with (go_at_call 40; refine HM.out.mono ?_; rintro e w2 ⟨b, c, rfl, h1, h2, hb⟩; have HB2 := Lib.hid (HB0.out.trans (hb.mono HB0.out.size)); clear h1 h2 hb)
    go_ret3
    exact ⟨by rw [HV.out.1, HV.out.2.1, HV.out.2.2]; rfl, HB2.out⟩
  · have HV := Lib.hid (And.intro h1 (And.intro h2 h3))
    have HM := Lib.hid hm
    clear h1 h2 h3 hm
    go_enter Try.func19, Try.ntmps19
    go_upto_region 1 with fail
    rw [← hW0]
    clear hW0
    go_wp2_with (go_at_call 40; refine HM.out.mono ?_; rintro e w2 ⟨b, c, rfl, h1, h2, hb⟩; have HB2 := Lib.hid (HB0.out.trans (hb.mono HB0.out.size)); clear h1 h2 hb)
    go_ret3
    exact ⟨by rw [HV.out.1, HV.out.2.1, HV.out.2.2]; rfl, HB2.out⟩
  · have HV := Lib.hid (And.intro h1 (And.intro h2 h3))
    have HM := Lib.hid hm
    have HI := Lib.hid hil
    have hn1 : (((t.length + 1 : Nat) : Int) == 0) = false := by rw [beq_eq_false_iff_ne]; omega
    have i1 : (0 : Int) < ((t.length + 1 : Nat) : Int) := by omega
    have i2 : (i : Int) < (l.length : Int) := by omega
    have i3 : (0 : Int) ≤ (i : Int) := by omega
    clear h1 h2 h3 hm hil
    dsimp only [List.length_cons] at *
    go_enter Try.func19, Try.ntmps19
    go_upto_region 1 with fail
    rw [← hW0]
    clear hW0
    go_upto_region 2 with (go_at_call 40; refine HM.out.mono ?_; rintro e w2 ⟨b2, c2, rfl, h1, h2, hb⟩; have HQ := Lib.hid h2; have HBX := Lib.hid hb; have HB2 := Lib.hid (HB0.out.trans (hb.mono HB0.out.size)); clear h1 h2 hb)
    rcases HQ.out with h | ⟨b2, o2, rfl, _, hc2⟩
    · cases h
    have k0 : w2.cell? ⟨b2, o2, none⟩ = some (.int .i64 (i : Int)) := hc2 0 (by simp)
    obtain ⟨b, off, rfl, _, _, _, _, _, c4⟩ := rows_at18 (rowsIn_step HX.out HBX.out) HI.out
    clear hc2
    go_wp2
    go_ret3
    exact ⟨by rw [HV.out.1, HV.out.2.1, HV.out.2.2]; rfl, HB2.out⟩
theorem match_fits (r : Row18) (f : Fact18) : (matchB r f = true ∧ 0 < (fitsV [r] f).length) ∨ (matchB r f = false ∧ (fitsV [r] f).length = 0) := by
  have hr : rowAt18 [r] 0 = r := rfl
  have hf : fitsTo [r] f 1 = if matchB r f = true then [(0 : Int)] else [] := rfl
  by_cases h : RowOk r
  · have ht : TabOk [r] := ⟨by simp, by simp, fun j hj => by
      have : j = 0 := by simpa using hj
      rw [this, hr]; exact h⟩
    have hv : fitsV [r] f = fitsTo [r] f 1 := if_pos ht
    rw [hv, hf]
    cases matchB r f <;> simp
  · have ht : ¬ TabOk [r] := fun q => h (by have := q.2.2 0 (by simp); rw [hr] at this; exact this)
    have hv : fitsV [r] f = [] := if_neg ht
    rw [hv, match_row h]
    simp
theorem one_row18 (W : World) (r : Row18) (t : TypeId) : RowsIn (W.heap.size + 1) (W.alloc (.cells #[.int .i64 r.g, .int .i64 r.v, .int .i64 r.lo, .int .i64 r.hi, .int .i64 r.way] t)) (some ⟨W.heap.size, 0, none⟩) [r] := lit_one_e (E := rowElt) W r rfl
set_option maxHeartbeats 2000000 in
theorem pmatch18_any (r : Row18) (f : Fact18) (w : World) : Calls Try.prog 61 #[rowVal r, factVal f] w fun e w' => e = .returned (.bool (matchB r f)) ∧ Below w.heap.size w w' := by
  obtain ⟨⟨⟨c0, c1, c2, c3⟩, x0, x1, x2⟩, hb⟩ := boxes18 w r f 52 28
  have c4 : ((w.alloc (.cells #[.int .i64 r.g, .int .i64 r.v, .int .i64 r.lo, .int .i64 r.hi, .int .i64 r.way] 52)).alloc (.cells #[.int .i64 f.g, .bool f.v, .int .i64 f.n] 28)).cell? ⟨w.heap.size, 4, none⟩ = some (.int .i64 r.way) := cell_of (j := 4) (heap_alloc2_old w _ _) rfl
  have hs := match_fits r f
  obtain ⟨W, hW⟩ : ∃ W, W = (w.alloc (.cells #[.int .i64 r.g, .int .i64 r.v, .int .i64 r.lo, .int .i64 r.hi, .int .i64 r.way] 52)).alloc (.cells #[.int .i64 f.g, .bool f.v, .int .i64 f.n] 28) := ⟨_, rfl⟩
  rw [← hW] at c0 c1 c2 c3 c4 x0 x1 x2 hb
  have hone := one_row18 W r 52
  have hbW := (Below.refl W.heap.size W).alloc (Nat.le_refl _) (.cells #[.int .i64 r.g, .int .i64 r.v, .int .i64 r.lo, .int .i64 r.hi, .int .i64 r.way] 52)
  have hsz : (W.alloc (.cells #[.int .i64 r.g, .int .i64 r.v, .int .i64 r.lo, .int .i64 r.hi, .int .i64 r.way] 52)).heap.size = W.heap.size + 1 := by simp
  have hx : RowsIn (W.alloc (.cells #[.int .i64 r.g, .int .i64 r.v, .int .i64 r.lo, .int .i64 r.hi, .int .i64 r.way] 52)).heap.size (W.alloc (.cells #[.int .i64 r.g, .int .i64 r.v, .int .i64 r.lo, .int .i64 r.hi, .int .i64 r.way] 52)) (some ⟨W.heap.size, 0, none⟩) [r] := by rw [hsz]; exact hone
  have hm := pfits18_any (some ⟨W.heap.size, 0, none⟩) 1 [r] f _ hx (by simp)
  have HM : Hid (Calls Try.prog 76 #[.slice (some ⟨W.heap.size, 0, none⟩) 1 1, factVal f] (W.alloc (.cells #[.int .i64 r.g, .int .i64 r.v, .int .i64 r.lo, .int .i64 r.hi, .int .i64 r.way] 52)) fun e w' => ∃ b c, e = .returned (.slice b (fitsV [r] f).length c) ∧ Below w.heap.size w w') := Lib.hid (hm.mono fun e w' h => by
    obtain ⟨b, c, he, _, _, h2⟩ := h
    have h3 := hb.trans (hbW.mono hb.size)
    exact ⟨b, c, he, h3.trans (h2.mono h3.size)⟩)
  have y0 := (hbW.cell (p := ⟨w.heap.size + 1, 0, none⟩) (World.block_lt_of_cell? W _ x0)).trans x0
  have y1 := (hbW.cell (p := ⟨w.heap.size + 1, 1, none⟩) (World.block_lt_of_cell? W _ x1)).trans x1
  have y2 := (hbW.cell (p := ⟨w.heap.size + 1, 2, none⟩) (World.block_lt_of_cell? W _ x2)).trans x2
  clear hb hone hbW hsz hx hm x0 x1 x2
  have HW := Lib.hid hW
  generalize matchB r f = x at *
  generalize (fitsV [r] f).length = n at *
  obtain ⟨rg, rv, rl, rh, rw⟩ := r
  obtain ⟨fg, fv, fn⟩ := f
  dsimp only at *
  rcases hs with ⟨rfl, h⟩ | ⟨rfl, rfl⟩
  · have d1 : decide ((0 : Int) < (n : Int)) = true := decide_eq_true (by omega)
    have d2 : decide (0 < n) = true := decide_eq_true h
    clear h
    go_enter Try.func61, Try.ntmps61
    go_upto_region 1 with fail
    rw [← HW.out]
    clear hW HW
    go_wp2_with (go_at_call 76; refine HM.out.mono ?_; rintro e w2 ⟨b, c, rfl, hb⟩; have HB2 := Lib.hid hb; clear hb)
    go_ret
    exact ⟨rfl, HB2.out⟩
  · have d1 : decide ((0 : Int) < ((0 : Nat) : Int)) = false := rfl
    go_enter Try.func61, Try.ntmps61
    go_upto_region 1 with fail
    rw [← HW.out]
    clear hW HW
    go_wp2_with (go_at_call 76; refine HM.out.mono ?_; rintro e w2 ⟨b, c, rfl, hb⟩; have HB2 := Lib.hid hb; clear hb)
    go_ret
    exact ⟨rfl, HB2.out⟩
theorem rule18 : Rule18 := ⟨prow18_any, pfact18_any, pmatch18_any, fun a cap l w _ h h2 => pcheck18_any a cap l w h h2, fun a cap l f w _ h h2 => pdecide18_any a cap l f w h h2, fun a cap l f w _ h h2 => pfits18_any a cap l f w h h2⟩
end Go.Proofs.Ytifihejogbcbgaa
