/- The program's within, hasBit, CheckRow, CheckFacts, isWrong, Check: in every world. -/
import Derived.Test.YtkefbgjbgblalaaRefA18
import Derived.Test.YtkefbgjbgblalaaBit16
import Derived.Test.YtkefbgjbgblalaaRf16
namespace Go.Proofs.Ytkefbgjbgblalaa
open Go.RowKit

theorem and_one18 (n : Int) : bits .and .i64 n 1 = n % 2 := by
  have e : (BitVec.ofInt 64 n &&& BitVec.ofInt 64 1).toNat = (n % 18446744073709551616).toNat % 2 := by
    rw [BitVec.toNat_and, BitVec.toNat_ofInt, show (BitVec.ofInt 64 1).toNat = 1 by decide, Nat.and_one_is_mod]
    rfl
  show IntKind.i64.wrap ((BitVec.ofInt 64 n &&& BitVec.ofInt 64 1).toNat : Nat) = n % 2
  rw [e, IntKind.wrap_i64]
  omega
def withinB (n a b : Int) : Bool := decide (a ≤ n) && decide (n ≤ b)
set_option maxHeartbeats 1000000 in
theorem pwithin18_any (n a b : Int) (w : World) : Calls Try.prog 22 #[.int .i64 n, .int .i64 a, .int .i64 b] w fun e w' => e = .returned (.bool (withinB n a b)) ∧ w = w' := by
  have hs : (decide (a ≤ n) = false ∧ withinB n a b = false) ∨ (decide (a ≤ n) = true ∧ decide (n ≤ b) = false ∧ withinB n a b = false) ∨ (decide (a ≤ n) = true ∧ decide (n ≤ b) = true ∧ withinB n a b = true) := by
    unfold withinB
    cases decide (a ≤ n) <;> cases decide (n ≤ b) <;> simp
  generalize withinB n a b = x at *
  rcases hs with ⟨d1, rfl⟩ | ⟨d1, d2, rfl⟩ | ⟨d1, d2, rfl⟩
  all_goals
    go_enter Try.func22, Try.ntmps22
    go_wp2
    go_ret
    exact ⟨rfl, rfl⟩
set_option maxRecDepth 100000 in
set_option maxHeartbeats 2000000 in
theorem phasbit18_any (n k : Nat) (hk : k < 4) (w : World) : Calls Try.prog 33 #[.int .i64 (n : Int), .int .i64 (k : Int)] w fun e w' => e = .returned (.bool (bitB n k)) ∧ w = w' := by
  obtain ⟨P, hP⟩ : ∃ P : Int, ((2 ^ k : Nat) : Int) = P := ⟨_, rfl⟩
  have hcs : (k = 0 ∧ P = 1) ∨ (k = 1 ∧ P = 2) ∨ (k = 2 ∧ P = 4) ∨ (k = 3 ∧ P = 8) := by
    rcases (by omega : k = 0 ∨ k = 1 ∨ k = 2 ∨ k = 3) with h | h | h | h
    all_goals (rw [h] at hP ⊢; simp at hP; omega)
  have hq : ((n / 2 ^ k % 2 : Nat) : Int) = (n : Int) / P % 2 := by rw [← hP]; rfl
  have hy := bit_nat n k
  have dB : (bits BinOp.and IntKind.i64 ((n : Int) / P) 1 == 1) = bitB n k := by
    rw [and_one18, ← hq, hy, Bool.eq_iff_iff, beq_iff_eq, decide_eq_true_iff]
    omega
  clear hq hy hP hk
  generalize bitB n k = y at *
  rcases hcs with ⟨rfl, rfl⟩ | ⟨rfl, rfl⟩ | ⟨rfl, rfl⟩ | ⟨rfl, rfl⟩
  all_goals
    try rw [Int.ediv_one] at dB
    cases y
    all_goals
      go_enter Try.func33, Try.ntmps33
      go_wp2
      go_ret
      exact ⟨by first | rfl | (rw [dB]; rfl) | simp [dB], rfl⟩
set_option maxHeartbeats 4000000 in
theorem prow18_any (r : Row18) (w : World) : Calls Try.prog 7 #[rowVal r] w fun e w' => e = .returned (.int .i64 (rowE r)) ∧ Below w.heap.size w w' := by
  obtain ⟨c0, c1, c2, c3, c4⟩ := box_row18 w r 23
  have HB := Lib.hid (lit16 w (.cells #[.int .i64 r.g, .int .i64 r.v, .int .i64 r.lo, .int .i64 r.hi, .int .i64 r.way] 23))
  have H1 : Hid (∀ W, Calls Try.prog 22 #[.int .i64 r.g, .int .i64 1, .int .i64 15] W fun e w' => e = .returned (.bool (withinB r.g 1 15)) ∧ W = w') := Lib.hid fun W => pwithin18_any _ _ _ W
  have H2 : Hid (∀ W, Calls Try.prog 22 #[.int .i64 r.v, .int .i64 1, .int .i64 3] W fun e w' => e = .returned (.bool (withinB r.v 1 3)) ∧ W = w') := Lib.hid fun W => pwithin18_any _ _ _ W
  have H3 : Hid (∀ W, Calls Try.prog 22 #[.int .i64 r.way, .int .i64 1, .int .i64 5] W fun e w' => e = .returned (.bool (withinB r.way 1 5)) ∧ W = w') := Lib.hid fun W => pwithin18_any _ _ _ W
  have hs : (withinB r.g 1 15 = true ∧ withinB r.v 1 3 = true ∧ withinB r.way 1 5 = true ∧ decide (r.lo < 0) = false ∧ decide (r.hi < r.lo) = false ∧ decide (1000000000000 < r.hi) = false ∧ rowE r = 0) ∨ (rowE r = 36 ∧ (withinB r.g 1 15 = false
      ∨ (withinB r.g 1 15 = true ∧ withinB r.v 1 3 = false)
      ∨ (withinB r.g 1 15 = true ∧ withinB r.v 1 3 = true ∧ withinB r.way 1 5 = false)
      ∨ (withinB r.g 1 15 = true ∧ withinB r.v 1 3 = true ∧ withinB r.way 1 5 = true ∧ decide (r.lo < 0) = true)
      ∨ (withinB r.g 1 15 = true ∧ withinB r.v 1 3 = true ∧ withinB r.way 1 5 = true ∧ decide (r.lo < 0) = false ∧ decide (r.hi < r.lo) = true)
      ∨ (withinB r.g 1 15 = true ∧ withinB r.v 1 3 = true ∧ withinB r.way 1 5 = true ∧ decide (r.lo < 0) = false ∧ decide (r.hi < r.lo) = false ∧ decide (1000000000000 < r.hi) = true))) := by
    by_cases hok : RowOk r
    · left
      have h := row_yes hok
      unfold RowOk at hok
      unfold withinB
      simp only [Bool.and_eq_true, decide_eq_true_eq, decide_eq_false_iff_not]
      omega
    · right
      refine ⟨row_no hok, ?_⟩
      unfold RowOk at hok
      unfold withinB
      simp only [Bool.and_eq_true, Bool.and_eq_false_iff, decide_eq_true_eq, decide_eq_false_iff_not]
      omega
  generalize rowE r = E at *
  generalize withinB r.g 1 15 = x1 at *
  generalize withinB r.v 1 3 = x2 at *
  generalize withinB r.way 1 5 = x3 at *
  obtain ⟨rg, rv, rl, rh, rw⟩ := r
  dsimp only at *
  rcases hs with ⟨rfl, rfl, rfl, d5, d6, d7, hE⟩ | ⟨hE, rfl | ⟨rfl, rfl⟩ | ⟨rfl, rfl, rfl⟩ | ⟨rfl, rfl, rfl, d5⟩ | ⟨rfl, rfl, rfl, d5, d6⟩ | ⟨rfl, rfl, rfl, d5, d6, d7⟩⟩
  all_goals
    have HE := Lib.hid hE
    clear hE
    go_enter Try.func7, Try.ntmps7
    go_wp2_with (first
      | (go_at_call 22; refine (H1.out _).mono ?_; rintro e w1 ⟨rfl, rfl⟩; clear H1)
      | (go_at_call 22; refine (H2.out _).mono ?_; rintro e w1 ⟨rfl, rfl⟩; clear H2)
      | (go_at_call 22; refine (H3.out _).mono ?_; rintro e w1 ⟨rfl, rfl⟩; clear H3))
    go_ret
    exact ⟨by rw [HE.out]; rfl, HB.out⟩
set_option maxHeartbeats 2000000 in
theorem pfact18_any (f : Fact18) (w : World) : Calls Try.prog 9 #[factVal f] w fun e w' => e = .returned (.int .i64 (factE f)) ∧ Below w.heap.size w w' := by
  obtain ⟨c0, c1, c2⟩ := box_fact18 w f 25
  have HB := Lib.hid (lit16 w (.cells #[.int .i64 f.g, .bool f.v, .int .i64 f.n] 25))
  have H1 : Hid (∀ W, Calls Try.prog 22 #[.int .i64 f.g, .int .i64 0, .int .i64 3] W fun e w' => e = .returned (.bool (withinB f.g 0 3)) ∧ W = w') := Lib.hid fun W => pwithin18_any _ _ _ W
  have H2 : Hid (∀ W, Calls Try.prog 22 #[.int .i64 f.n, .int .i64 0, .int .i64 1000000000000] W fun e w' => e = .returned (.bool (withinB f.n 0 1000000000000)) ∧ W = w') := Lib.hid fun W => pwithin18_any _ _ _ W
  have hs : (withinB f.g 0 3 = true ∧ withinB f.n 0 1000000000000 = true ∧ factE f = 0) ∨ (factE f = 2 ∧ (withinB f.g 0 3 = false ∨ (withinB f.g 0 3 = true ∧ withinB f.n 0 1000000000000 = false))) := by
    by_cases hok : FactOk f
    · left
      have h := fact_yes hok
      unfold FactOk at hok
      unfold withinB
      simp only [Bool.and_eq_true, decide_eq_true_eq]
      omega
    · right
      refine ⟨fact_no hok, ?_⟩
      unfold FactOk at hok
      unfold withinB
      simp only [Bool.and_eq_true, Bool.and_eq_false_iff, decide_eq_true_eq, decide_eq_false_iff_not]
      omega
  generalize factE f = E at *
  generalize withinB f.g 0 3 = x1 at *
  generalize withinB f.n 0 1000000000000 = x2 at *
  obtain ⟨fg, fv, fn⟩ := f
  dsimp only at *
  rcases hs with ⟨rfl, rfl, hE⟩ | ⟨hE, rfl | ⟨rfl, rfl⟩⟩
  all_goals
    have HE := Lib.hid hE
    clear hE
    go_enter Try.func9, Try.ntmps9
    go_wp2_with (first
      | (go_at_call 22; refine (H1.out _).mono ?_; rintro e w1 ⟨rfl, rfl⟩; clear H1)
      | (go_at_call 22; refine (H2.out _).mono ?_; rintro e w1 ⟨rfl, rfl⟩; clear H2))
    go_ret
    exact ⟨by rw [HE.out]; rfl, HB.out⟩
def wrongB18 (r : Row18) : Bool := !decide (RowOk r)
set_option maxHeartbeats 2000000 in
theorem pwrong18_any (r : Row18) (w : World) : Calls Try.prog 27 #[rowVal r] w fun e w' => e = .returned (.bool (wrongB18 r)) ∧ Below w.heap.size w w' := by
  obtain ⟨c0, c1, c2, c3, c4⟩ := box_row18 w r 23
  have HB := Lib.hid (lit16 w (.cells #[.int .i64 r.g, .int .i64 r.v, .int .i64 r.lo, .int .i64 r.hi, .int .i64 r.way] 23))
  have HR : Hid (∀ W, Calls Try.prog 7 #[rowVal r] W fun e w' => e = .returned (.int .i64 (rowE r)) ∧ Below W.heap.size W w') := Lib.hid fun W => prow18_any r W
  have hs : (rowE r = 0 ∧ wrongB18 r = false) ∨ (rowE r = 36 ∧ wrongB18 r = true) := by
    unfold wrongB18
    by_cases h : RowOk r
    · exact Or.inl ⟨row_yes h, by rw [decide_eq_true h]; rfl⟩
    · exact Or.inr ⟨row_no h, by rw [decide_eq_false h]; rfl⟩
  generalize rowE r = E at *
  generalize wrongB18 r = x at *
  obtain ⟨rg, rv, rl, rh, rw⟩ := r
  dsimp only at *
  rcases hs with ⟨rfl, rfl⟩ | ⟨rfl, rfl⟩
  all_goals
    go_enter Try.func27, Try.ntmps27
    go_wp2_with (go_at_call 7; refine (HR.out _).mono ?_; rintro e w1 ⟨rfl, hb⟩; have HB1 := Lib.hid (HB.out.trans (hb.mono HB.out.size)); clear hb)
    go_ret
    exact ⟨rfl, HB1.out⟩
abbrev fnWrong18 : Value := .func (.func 27) #[] #[]
set_option maxHeartbeats 4000000 in
theorem pindex18_any (a : Option Addr) (cap : Nat) (l : List Row18) (w : World) (hx : RowsIn w.heap.size w a l) (hn : l.length ≤ 1000000) :
    Calls Try.prog 29 #[.slice a l.length cap, fnWrong18] w fun e w' => ∃ n : Int, e = .returned (.int .i64 n) ∧ decide (0 ≤ n) = l.any wrongB18 ∧ Below w.heap.size w w' := by
  have HX := Lib.hid hx
  have HB0 := Lib.hid (Below.refl w.heap.size w)
  clear hx
  go_enter Try.func29, Try.ntmps29
  go_wp2
  go_loopw [8] (fun s8 wr => ∃ i : Nat, s8 = .int .i64 i ∧ i ≤ l.length ∧ Hid (Below w.heap.size w wr) ∧ Hid (∀ j, j < i → wrongB18 (rowAt18 l j) = false)) (fun i _ => l.length + 1 - (intOf i).toNat)
  case atStart => exact ⟨0, rfl, by omega, HB0, Lib.hid fun j hj => absurd hj (by omega)⟩
  case round =>
    clear HB0
    obtain ⟨i, rfl, hi, HB, HN⟩ := hrel
    by_cases hlt : i < l.length
    · have i1 : (i : Int) < (l.length : Int) := by omega
      have i3 : (0 : Int) ≤ (i : Int) := by omega
      obtain ⟨b, off, rfl, _, c0, c1, c2, c3, c4⟩ := rows_at18 (rowsIn_step HX.out HB.out) hlt
      have hc := pwrong18_any (rowAt18 l i) wr
      have hi1 : i + 1 ≤ l.length := hlt
      cases hq : wrongB18 (rowAt18 l i) with
      | true =>
        rw [hq] at hc
        have HC := Lib.hid hc
        have HL : Hid (l.any wrongB18 = true) := Lib.hid (by
          rw [List.any_eq_true]
          exact ⟨l[i], List.getElem_mem hlt, by rw [rowAt18_elem hlt]; exact hq⟩)
        have HD : Hid (decide (0 ≤ (i : Int)) = true) := Lib.hid (decide_eq_true i3)
        clear hc hq hlt
        generalize rowAt18 l i = r at *
        obtain ⟨rg, rv, rl, rh, rw⟩ := r
        dsimp only at *
        go_wp2_with (go_at_call 27; refine HC.out.mono ?_; rintro e w2 ⟨rfl, hb⟩; have HB2 := Lib.hid (HB.out.trans (hb.mono HB.out.size)); clear hb)
        go_ret
        exact ⟨i, rfl, by rw [HL.out, HD.out], HB2.out⟩
      | false =>
        rw [hq] at hc
        have HC := Lib.hid hc
        have HN2 : Hid (∀ j, j < i + 1 → wrongB18 (rowAt18 l j) = false) := Lib.hid fun j hj => by
          rcases (by omega : j < i ∨ j = i) with z | z
          · exact HN.out j z
          · rw [z]; exact hq
        clear hc hq hlt
        generalize rowAt18 l i = r at *
        obtain ⟨rg, rv, rl, rh, rw⟩ := r
        dsimp only at *
        go_wp2_with (go_at_call 27; refine HC.out.mono ?_; rintro e w2 ⟨rfl, hb⟩; have HB2 := Lib.hid (HB.out.trans (hb.mono HB.out.size)); clear hb)
        go_roundw
        case rel => exact ⟨i + 1, by first | rfl | go_num, hi1, HB2, HN2⟩
        case measure => first | (simp [intOf]; omega) | simp [intOf]
    · obtain rfl : i = l.length := by omega
      have HL : Hid (l.any wrongB18 = false) := Lib.hid (by
        rw [List.any_eq_false]
        intro r hr
        obtain ⟨j, hj, rfl⟩ := List.mem_iff_getElem.1 hr
        rw [rowAt18_elem hj, HN.out j hj]
        simp)
      go_wp2
      go_ret
      exact ⟨-1, rfl, by rw [HL.out]; rfl, HB.out⟩
theorem pcont18_any (a : Option Addr) (cap : Nat) (l : List Row18) (w : World) (hx : RowsIn w.heap.size w a l) (hn : l.length ≤ 1000000) :
    Calls Try.prog 26 #[.slice a l.length cap, fnWrong18] w fun e w' => e = .returned (.bool (l.any wrongB18)) ∧ Below w.heap.size w w' := by
  have HC := Lib.hid (pindex18_any a cap l w hx hn)
  clear hx
  go_enter Try.func26, Try.ntmps26
  go_wp2_with (go_at_call 29; refine HC.out.mono ?_; rintro e w2 ⟨n, rfl, hn2, hb⟩; have HB := Lib.hid hb; clear hb)
  go_ret
  exact ⟨by first | rfl | (rw [hn2]; rfl) | simp, HB.out⟩
set_option maxHeartbeats 2000000 in
theorem pcheck18_any (a : Option Addr) (cap : Nat) (l : List Row18) (w : World) (hx : RowsIn w.heap.size w a l) (hn : l.length ≤ 1000000) :
    Calls Try.prog 17 #[.slice a l.length cap] w fun e w' => e = .returned (.int .i64 (tabE l)) ∧ Below w.heap.size w w' := by
  have H1 : Hid (∀ W, Calls Try.prog 22 #[.int .i64 l.length, .int .i64 1, .int .i64 20] W fun e w' => e = .returned (.bool (withinB l.length 1 20)) ∧ W = w') := Lib.hid fun W => pwithin18_any _ _ _ W
  have HC := Lib.hid (pcont18_any a cap l w hx hn)
  have hs : (withinB l.length 1 20 = false ∧ tabE l = 36) ∨ (withinB l.length 1 20 = true ∧ l.any wrongB18 = true ∧ tabE l = 36) ∨ (withinB l.length 1 20 = true ∧ l.any wrongB18 = false ∧ tabE l = 0) := by
    cases h1 : withinB l.length 1 20 with
    | false =>
      refine Or.inl ⟨rfl, tab_no fun q => ?_⟩
      unfold withinB at h1
      rw [Bool.and_eq_false_iff, decide_eq_false_iff_not, decide_eq_false_iff_not] at h1
      have := q.1
      have := q.2.1
      omega
    | true =>
      unfold withinB at h1
      rw [Bool.and_eq_true, decide_eq_true_eq, decide_eq_true_eq] at h1
      cases h2 : l.any wrongB18 with
      | true =>
        refine Or.inr (Or.inl ⟨rfl, rfl, tab_no fun q => ?_⟩)
        rw [List.any_eq_true] at h2
        obtain ⟨r, hr, h3⟩ := h2
        have := tab_mem q hr
        unfold wrongB18 at h3
        rw [decide_eq_true this] at h3
        cases h3
      | false =>
        refine Or.inr (Or.inr ⟨rfl, rfl, tab_yes (tab_of (by omega) (by omega) fun r hr => ?_)⟩)
        rw [List.any_eq_false] at h2
        have h3 := h2 r hr
        unfold wrongB18 at h3
        simpa using h3
  have HB := Lib.hid (Below.refl w.heap.size w)
  generalize tabE l = E at *
  generalize withinB l.length 1 20 = x1 at *
  generalize l.any wrongB18 = x2 at *
  clear hx
  rcases hs with ⟨rfl, hE⟩ | ⟨rfl, rfl, hE⟩ | ⟨rfl, rfl, hE⟩
  · have HE := Lib.hid hE
    clear hE
    go_enter Try.func17, Try.ntmps17
    go_wp2_with (go_at_call 22; refine (H1.out _).mono ?_; rintro e w1 ⟨rfl, rfl⟩; clear H1)
    go_ret
    exact ⟨by rw [HE.out]; rfl, HB.out⟩
  all_goals
    have HE := Lib.hid hE
    clear hE
    go_enter Try.func17, Try.ntmps17
    go_wp2_with (first
      | (go_at_call 22; refine (H1.out _).mono ?_; rintro e w1 ⟨rfl, rfl⟩; clear H1)
      | (go_at_call 26; refine HC.out.mono ?_; rintro e w1 ⟨rfl, hb⟩; have HB1 := Lib.hid hb; clear hb))
    go_ret
    exact ⟨by rw [HE.out]; rfl, HB1.out⟩
end Go.Proofs.Ytkefbgjbgblalaa
