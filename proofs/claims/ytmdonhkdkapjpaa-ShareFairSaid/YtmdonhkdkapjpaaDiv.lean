/- The document's own division, digit by digit, for all numbers that may be divided: how often, and the rest. -/
import Derived.Test.YtmdonhkdkapjpaaSum
namespace Go.Proofs.Ytmdonhkdkapjpaa
open Go.RowKit

def divN (a b c : Int) : Int := if 4000000000000 < a * b / c then -1 else a * b / c
def divR (a b c : Int) : Int := if 4000000000000 < a * b / c then 0 else a * b % c

theorem step_one (a c n r T q m : Int) (h : n * c + r = a * T) (hq : q * c + m = a) : (2 * n + q) * c + (2 * r + m) = a * (2 * T + 1) := by
  have e1 : (2 * n + q) * c = 2 * (n * c) + q * c := by rw [Int.add_mul, Int.mul_assoc]
  have e2 : a * (2 * T + 1) = 2 * (a * T) + a := by rw [Int.mul_add, Int.mul_one, Int.mul_left_comm]
  omega
theorem step_two (a c n r T : Int) (h : n * c + r = a * T) : (2 * n) * c + (2 * r) = a * (2 * T) := by
  have e1 : (2 * n) * c = 2 * (n * c) := by rw [Int.mul_assoc]
  have e2 : a * (2 * T) = 2 * (a * T) := by rw [Int.mul_left_comm]
  omega
theorem one_less (c n r S : Int) (h : n * c + r = S) : (n + 1) * c + (r - c) = S := by
  have e1 : (n + 1) * c = n * c + c := by rw [Int.add_mul, Int.one_mul]
  omega
theorem half_of (b : Int) (k : Nat) : b / 2 ^ k / 2 = b / 2 ^ (k + 1) := by
  have hp : (0 : Int) < 2 ^ k := Int.pow_pos (by omega)
  rw [Int.pow_succ, Int.ediv_ediv, if_neg (by omega), Int.sub_zero]
theorem early (a b c n r T : Int) (h : n * c + r = a * T) (hT : T ≤ b) (ha : 0 ≤ a) (hr : 0 ≤ r) (hc : 0 < c) (hn : 4000000000000 < n) : 4000000000000 < a * b / c := by
  have h1 : n ≤ a * b / c := (Int.le_ediv_iff_mul_le hc).2 (by
    have := Int.mul_le_mul_of_nonneg_left hT ha
    omega)
  omega
theorem late (a b c n r : Int) (h : n * c + r = a * b) (hr0 : 0 ≤ r) (hr1 : r < c) (hn : n ≤ 4000000000000) : divN a b c = n ∧ divR a b c = r := by
  have hc : 0 < c := by omega
  obtain ⟨h1, h2⟩ := (Int.ediv_emod_unique (a := a * b) (q := n) (r := r) hc).2 ⟨by rw [Int.mul_comm c n]; omega, hr0, hr1⟩
  unfold divN divR
  rw [h1, h2, if_neg (by omega), if_neg (by omega)]
  exact ⟨rfl, rfl⟩

set_option maxHeartbeats 2000000 in
theorem rdiv_any (a b c : Int) (w : World) (ha : 0 ≤ a ∧ a ≤ 1000000000000) (hb : 0 ≤ b ∧ b ≤ 1000000000000) (hc : 1 ≤ c ∧ c ≤ 1000000000000) :
    Calls Try.prog 21 #[.int .i64 a, .int .i64 b, .int .i64 c] w fun e w' => e = .returned (.tuple #[.int .i64 (divN a b c), .int .i64 (divR a b c)]) ∧ w = w' := by
  obtain ⟨ha0, ha1⟩ := ha
  obtain ⟨hb0, hb1⟩ := hb
  obtain ⟨hc0, hc1⟩ := hc
  go_enter Try.func21, Try.ntmps21
  go_wp2
  go_loop [8, 9, 10] (fun x y i => ∃ n r v : Int, x = .int .i64 n ∧ y = .int .i64 r ∧ i = .int .i64 v ∧ -1 ≤ v ∧ v ≤ 40 ∧ 0 ≤ r ∧ r < c ∧ 0 ≤ n ∧ n ≤ 4000000000000 ∧ Hid (n * c + r = a * (b / 2 ^ (v + 1).toNat))) (fun _ _ i => (intOf i + 1).toNat)
  case atStart => exact ⟨0, 0, 40, rfl, rfl, rfl, by omega, by omega, by omega, by omega, by omega, by omega, Lib.hid (by
    rw [Int.ediv_eq_zero_of_lt hb0 (by show b < 2199023255552; omega)]; simp)⟩
  case round =>
    obtain ⟨n, r, v, rfl, rfl, rfl, hv0, hv1, hr0, hr1, hn0, hn1, hh⟩ := hrel
    by_cases hv : 0 ≤ v
    · obtain ⟨k, rfl⟩ : ∃ k : Nat, v = k := ⟨v.toNat, by omega⟩
      have ht0 : 0 ≤ b / 2 ^ k := Int.ediv_nonneg hb0 (Int.le_of_lt (Int.pow_pos (by omega)))
      have ht2 : b / 2 ^ k ≤ b := Int.ediv_le_self _ hb0
      have hhalf := half_of b k
      have hk1 : ((k : Int) + 1).toNat = k + 1 := by omega
      have hq0 : 0 ≤ a / c := Int.ediv_nonneg ha0 (by omega)
      have hq1 : a / c ≤ a := Int.ediv_le_self _ ha0
      have hm0 : 0 ≤ a % c := Int.emod_nonneg _ (by omega)
      have hm1 : a % c < c := Int.emod_lt_of_pos _ (by omega)
      have hqm : a / c * c + a % c = a := by rw [Int.mul_comm]; exact Int.mul_ediv_add_emod a c
      have hold : n * c + r = a * (b / 2 ^ k / 2) := by rw [hhalf, ← hk1]; exact hh.out
      by_cases hbit : b / 2 ^ k % 2 = 1
      · have eb : (b / 2 ^ k % 2 == 1) = true := by rw [hbit]; rfl
        have HS : Hid ((2 * n + a / c) * c + (2 * r + a % c) = a * (b / 2 ^ k)) := Lib.hid (by
          have := step_one a c n r (b / 2 ^ k / 2) (a / c) (a % c) hold hqm
          rw [show 2 * (b / 2 ^ k / 2) + 1 = b / 2 ^ k from by omega] at this
          exact this)
        clear hhalf hk1 hqm hold hbit hh
        go_wp2_with fail
        go_loop [8, 9] (fun x y => ∃ n1 r1 : Int, x = .int .i64 n1 ∧ y = .int .i64 r1 ∧ 0 ≤ n1 ∧ 0 ≤ r1 ∧ n1 + r1 ≤ 20000000000000 ∧ Hid (n1 * c + r1 = a * (b / 2 ^ k))) (fun _ y => (intOf y).toNat)
        case atStart => exact ⟨_, _, rfl, rfl, by omega, by omega, by omega, HS⟩
        case round =>
          obtain ⟨n1, r1, rfl, rfl, hp1, hp2, hp3, hS⟩ := hrel
          by_cases hrc : c ≤ r1
          · go_wp2_with fail
            go_round
            case rel => exact ⟨n1 + 1, r1 - c, rfl, rfl, by omega, by omega, by omega, Lib.hid (one_less c n1 r1 _ hS.out)⟩
            case measure => simp [intOf] <;> omega
          · have hrc' : r1 < c := by omega
            by_cases h4 : 4000000000000 < n1
            · have He : Hid (divN a b c = -1 ∧ divR a b c = 0) := Lib.hid (by
                have := early a b c n1 r1 _ hS.out ht2 ha0 hp2 (by omega) h4
                unfold divN divR; rw [if_pos this, if_pos this]; exact ⟨rfl, rfl⟩)
              clear hrc
              go_wp2_with fail
              go_ret2
              exact ⟨by rw [He.out.1, He.out.2]; rfl, rfl⟩
            · have h4' : n1 ≤ 4000000000000 := by omega
              clear hrc h4
              go_wp2_with fail
              go_round
              case rel => exact ⟨n1, r1, (k : Int) - 1, rfl, rfl, rfl, by omega, by omega, by omega, by omega, by omega, by omega, Lib.hid (by rw [hS.out, show ((k : Int) - 1 + 1).toNat = k from by omega])⟩
              case measure => simp [intOf] <;> omega
      · have eb : (b / 2 ^ k % 2 == 1) = false := by rw [beq_eq_false_iff_ne]; exact hbit
        have HS : Hid ((2 * n) * c + (2 * r) = a * (b / 2 ^ k)) := Lib.hid (by
          have := step_two a c n r (b / 2 ^ k / 2) hold
          rw [show 2 * (b / 2 ^ k / 2) = b / 2 ^ k from by omega] at this
          exact this)
        clear hhalf hk1 hqm hold hbit hh
        go_wp2_with fail
        go_loop [8, 9] (fun x y => ∃ n1 r1 : Int, x = .int .i64 n1 ∧ y = .int .i64 r1 ∧ 0 ≤ n1 ∧ 0 ≤ r1 ∧ n1 + r1 ≤ 20000000000000 ∧ Hid (n1 * c + r1 = a * (b / 2 ^ k))) (fun _ y => (intOf y).toNat)
        case atStart => exact ⟨_, _, rfl, rfl, by omega, by omega, by omega, HS⟩
        case round =>
          obtain ⟨n1, r1, rfl, rfl, hp1, hp2, hp3, hS⟩ := hrel
          by_cases hrc : c ≤ r1
          · go_wp2_with fail
            go_round
            case rel => exact ⟨n1 + 1, r1 - c, rfl, rfl, by omega, by omega, by omega, Lib.hid (one_less c n1 r1 _ hS.out)⟩
            case measure => simp [intOf] <;> omega
          · have hrc' : r1 < c := by omega
            by_cases h4 : 4000000000000 < n1
            · have He : Hid (divN a b c = -1 ∧ divR a b c = 0) := Lib.hid (by
                have := early a b c n1 r1 _ hS.out ht2 ha0 hp2 (by omega) h4
                unfold divN divR; rw [if_pos this, if_pos this]; exact ⟨rfl, rfl⟩)
              clear hrc
              go_wp2_with fail
              go_ret2
              exact ⟨by rw [He.out.1, He.out.2]; rfl, rfl⟩
            · have h4' : n1 ≤ 4000000000000 := by omega
              clear hrc h4
              go_wp2_with fail
              go_round
              case rel => exact ⟨n1, r1, (k : Int) - 1, rfl, rfl, rfl, by omega, by omega, by omega, by omega, by omega, by omega, Lib.hid (by rw [hS.out, show ((k : Int) - 1 + 1).toNat = k from by omega])⟩
              case measure => simp [intOf] <;> omega
    · obtain rfl : v = -1 := by omega
      have He := Lib.hid (late a b c n r (by have := hh.out; simpa using this) hr0 hr1 hn1)
      clear hv hv0 hv1
      go_wp2_with fail
      go_ret2
      exact ⟨by rw [He.out.1, He.out.2]; rfl, rfl⟩
end Go.Proofs.Ytmdonhkdkapjpaa
