/- The walk of the law CentsDivs: it returns true in every world and leaves what lay there. -/
import Derived.Test.YthnigakljpcbpaaWake
namespace Go.Proofs.Ythnigakljpcbpaa
open Go.RowKit

theorem times_shut (a b : Int) (_ : (Lit.int .i64 a).wf = true) (_ : (Lit.int .i64 b).wf = true) (w : World) : Calls Try.prog 12 #[.int .i64 a, .int .i64 b] w fun e w' => ∃ (p f : Int), e = .returned (.tuple #[.int .i64 p, .int .i64 f]) ∧ Hid (p = mulV a b ∧ f = mulE a b) ∧ Below w.heap.size w w' :=
  (ctimes_any a b w).mono fun _ _ ⟨he, hb⟩ => ⟨_, _, he, Lib.hid ⟨rfl, rfl⟩, hb⟩
theorem floor_shut (a b c : Int) (_ : (Lit.int .i64 a).wf = true) (_ : (Lit.int .i64 b).wf = true) (_ : (Lit.int .i64 c).wf = true) (w : World) : Calls Try.prog 16 #[.int .i64 a, .int .i64 b, .int .i64 c] w fun e w' => ∃ (p f : Int), e = .returned (.tuple #[.int .i64 p, .int .i64 f]) ∧ Hid (p = floorV a b c ∧ f = floorE a b c) ∧ Below w.heap.size w w' :=
  (cfloor_any a b c w).mono fun _ _ ⟨he, hb⟩ => ⟨_, _, he, Lib.hid ⟨rfl, rfl⟩, hb⟩
theorem rest_shut (a b c : Int) (_ : (Lit.int .i64 a).wf = true) (_ : (Lit.int .i64 b).wf = true) (_ : (Lit.int .i64 c).wf = true) (w : World) : Calls Try.prog 20 #[.int .i64 a, .int .i64 b, .int .i64 c] w fun e w' => ∃ (p f : Int), e = .returned (.tuple #[.int .i64 p, .int .i64 f]) ∧ Hid (p = restV a b c ∧ f = floorE a b c) ∧ Below w.heap.size w w' :=
  (crest_any a b c w).mono fun _ _ ⟨he, hb⟩ => ⟨_, _, he, Lib.hid ⟨rfl, rfl⟩, hb⟩
theorem half_shut (a b c : Int) (_ : (Lit.int .i64 a).wf = true) (_ : (Lit.int .i64 b).wf = true) (_ : (Lit.int .i64 c).wf = true) (w : World) : Calls Try.prog 18 #[.int .i64 a, .int .i64 b, .int .i64 c] w fun e w' => ∃ (p f : Int), e = .returned (.tuple #[.int .i64 p, .int .i64 f]) ∧ Hid (p = halfV a b c ∧ f = halfE a b c) ∧ Below w.heap.size w w' :=
  (chalf_any a b c w).mono fun _ _ ⟨he, hb⟩ => ⟨_, _, he, Lib.hid ⟨rfl, rfl⟩, hb⟩

theorem floor_two (a b c : Int) : floorE a b c ≠ 0 ∧ floorV a b c = 0 ∧ restV a b c = 0 ∨ floorE a b c = 0 ∧ mayE a b c = 0 ∧ mayOk a b c ∧ floorV a b c = a * b / c ∧ restV a b c = a * b % c ∧ a * b / c ≤ 1000000000000 := by
  by_cases hm : mayE a b c = 0
  · have hok : mayOk a b c := by rcases may_three a b c with h | h | h <;> first | exact h.2 | omega
    by_cases hq : a * b / c ≤ 1000000000000
    · have h := floor_fine hm hq
      exact Or.inr ⟨h.1, hm, hok, h.2, by unfold restV; rw [if_pos h.1], hq⟩
    · have h := floor_over hm (by omega : 1000000000000 < a * b / c)
      exact Or.inl ⟨by rw [h.1]; omega, h.2, by unfold restV; rw [h.1]; rfl⟩
  · have h := floor_bad hm
    have h2 : floorE a b c ≠ 0 := by rw [h.1]; exact hm
    exact Or.inl ⟨h2, h.2, by unfold restV; rw [if_neg h2]⟩
theorem mul_two (a b : Int) : mulE a b = 8 ∨ mulE a b = 0 ∧ mulV a b = a * b ∧ a * b ≤ 1000000000000 := by
  cases h : mulOk a b with
  | false => exact Or.inl (by unfold mulE; rw [h]; rfl)
  | true =>
    have h2 : inB (a * b) = true := by unfold mulOk at h; simp at h; exact h.2
    exact Or.inr ⟨by unfold mulE; rw [h]; rfl, by unfold mulV; rw [h]; rfl, ((inB_iff _).1 h2).2⟩
theorem quo_times (a b c : Int) : a * b / c * c + a * b % c = a * b := by rw [Int.mul_comm (a * b / c) c]; exact Int.mul_ediv_add_emod _ _

set_option maxRecDepth 100000 in
set_option maxHeartbeats 4000000 in
theorem centsDivs_walk (w : World) (a : Int) (wa : (Lit.int .i64 a).wf = true) (b : Int) (wb : (Lit.int .i64 b).wf = true) (c : Int) (wc : (Lit.int .i64 c).wf = true) :
    Calls Try.prog 6 #[.int .i64 a, .int .i64 b, .int .i64 c] w fun e w' => e = .returned (.bool true) ∧ Below w.heap.size w w' := by
  have hb := Below.refl w.heap.size w
  have WA := Lib.hid wa
  have WB := Lib.hid wb
  have WC := Lib.hid wc
  clear wa wb wc
  go_enter Try.func6, Try.ntmps6
  go_wp2_with fail
  refine (times_shut _ _ WA.out WB.out _).mono ?_
  rintro e w1 ⟨p, f1, rfl, h1, b1⟩
  replace hb := hb.trans (b1.mono hb.size)
  go_wp2_with fail
  refine (floor_shut _ _ _ WA.out WB.out WC.out _).mono ?_
  rintro e w2 ⟨n, f2, rfl, h2, b2⟩
  replace hb := hb.trans (b2.mono hb.size)
  go_wp2_with fail
  refine (rest_shut _ _ _ WA.out WB.out WC.out _).mono ?_
  rintro e w3 ⟨r, f3, rfl, h3, b3⟩
  replace hb := hb.trans (b3.mono hb.size)
  go_wp2_with fail
  refine (half_shut _ _ _ WA.out WB.out WC.out _).mono ?_
  rintro e w4 ⟨h, f4, rfl, h4, b4⟩
  replace hb := hb.trans (b4.mono hb.size)
  obtain rfl : f3 = f2 := by rw [h3.out.2, h2.out.2]
  rcases floor_two a b c with ⟨g1, g2, g3⟩ | ⟨g1, g0, gk, g2, g3, g4⟩
  · obtain rfl : n = 0 := by rw [h2.out.1, g2]
    obtain rfl : r = 0 := by rw [h3.out.1, g3]
    have ef : (f3 != 0) = true := by rw [bne_iff_ne, h2.out.2]; exact g1
    clear g1 g2 g3
    go_wp2_with (go_at_call 7; refine (awake_any _).mono ?_; rintro e w9 ⟨rfl, b9⟩; replace hb := hb.trans (b9.mono hb.size))
    go_ret
    exact ⟨rfl, hb⟩
  · obtain rfl : f3 = 0 := by rw [h2.out.2, g1]
    have hn : n = a * b / c := by rw [h2.out.1, g2]
    have hr : r = a * b % c := by rw [h3.out.1, g3]
    have hqt := quo_times a b c
    have hrb := rem_bd gk
    have hn0 := quo_nonneg gk
    rw [← hn, ← hr] at hqt
    rw [← hr] at hrb
    rw [← hn] at hn0 g4
    obtain ⟨hr0, hr1⟩ := hrb
    have hc1 : 1 ≤ c ∧ c ≤ 1000000000000 := ⟨gk.1, gk.2.2.2.2.2⟩
    obtain ⟨hc1, hc2⟩ := hc1
    have hhn : halfN a b c = if c ≤ 2 * r then n + 1 else n := by unfold halfN; rw [hn, hr]
    have HN := Lib.hid hhn
    have HQ := Lib.hid hqt
    have HM := Lib.hid g0
    clear g1 g0 g2 g3 hn hr hqt hhn gk
    have hhalf : (f4 = 8 ∧ n = 1000000000000) ∨ (f4 = 0 ∧ h = n ∧ 2 * r < c) ∨ (f4 = 0 ∧ h = n + 1 ∧ c ≤ 2 * r) := by
      by_cases hq : halfN a b c ≤ 1000000000000
      · have hf := half_fine HM.out hq
        rw [h4.out.1, h4.out.2, hf.1, hf.2, HN.out]
        by_cases hcr : c ≤ 2 * r
        · rw [if_pos hcr]; exact Or.inr (Or.inr ⟨rfl, rfl, hcr⟩)
        · rw [if_neg hcr]; exact Or.inr (Or.inl ⟨rfl, rfl, by omega⟩)
      · have hf := half_over HM.out (by omega : 1000000000000 < halfN a b c)
        rw [HN.out] at hq
        refine Or.inl ⟨by rw [h4.out.2, hf.1], ?_⟩
        split at hq <;> omega
    have hmul : (f1 = 8) ∨ (f1 = 0 ∧ p = n * c + r ∧ 0 ≤ n * c ∧ n * c ≤ 1000000000000 ∧ n * c + r ≤ 1000000000000) := by
      rcases mul_two a b with g | ⟨g1, g2, g3⟩
      · exact Or.inl (by rw [h1.out.2, g])
      · have := Int.mul_nonneg hn0 (by omega : 0 ≤ c)
        have hq := HQ.out
        exact Or.inr ⟨by rw [h1.out.2, g1], by rw [h1.out.1, g2, hq], this, by omega, by omega⟩
    rcases hmul with rfl | ⟨rfl, hp, hm0, hm1, hm2⟩
    · rcases hhalf with ⟨rfl, rfl⟩ | ⟨rfl, rfl, hcr⟩ | ⟨rfl, rfl, hcr⟩
      · go_wp2_with (go_at_call 7; refine (awake_any _).mono ?_; rintro e w9 ⟨rfl, b9⟩; replace hb := hb.trans (b9.mono hb.size))
        go_ret
        exact ⟨rfl, hb⟩
      · have q1 : r < c - r := by omega
        go_wp2_with (go_at_call 7; refine (awake_any _).mono ?_; rintro e w9 ⟨rfl, b9⟩; replace hb := hb.trans (b9.mono hb.size))
        go_ret
        exact ⟨rfl, hb⟩
      · have q1 : c - r ≤ r := by omega
        have q2 : (n + 1 == n) = false := by rw [beq_eq_false_iff_ne]; omega
        go_wp2_with (go_at_call 7; refine (awake_any _).mono ?_; rintro e w9 ⟨rfl, b9⟩; replace hb := hb.trans (b9.mono hb.size))
        go_ret
        exact ⟨rfl, hb⟩
    · have ep : (p != n * c + r) = false := by rw [hp]; simp
      clear hp
      rcases hhalf with ⟨rfl, rfl⟩ | ⟨rfl, rfl, hcr⟩ | ⟨rfl, rfl, hcr⟩
      · go_wp2_with (go_at_call 7; refine (awake_any _).mono ?_; rintro e w9 ⟨rfl, b9⟩; replace hb := hb.trans (b9.mono hb.size))
        go_ret
        exact ⟨rfl, hb⟩
      · have q1 : r < c - r := by omega
        go_wp2_with (go_at_call 7; refine (awake_any _).mono ?_; rintro e w9 ⟨rfl, b9⟩; replace hb := hb.trans (b9.mono hb.size))
        go_ret
        exact ⟨rfl, hb⟩
      · have q1 : c - r ≤ r := by omega
        have q2 : (n + 1 == n) = false := by rw [beq_eq_false_iff_ne]; omega
        go_wp2_with (go_at_call 7; refine (awake_any _).mono ?_; rintro e w9 ⟨rfl, b9⟩; replace hb := hb.trans (b9.mono hb.size))
        go_ret
        exact ⟨rfl, hb⟩
end Go.Proofs.Ythnigakljpcbpaa
