/- The library's division of two words by one, for all words of which the upper one is below the divisor, in every world. -/
import Derived.Test.YtbhdjpohplpjdaaLong
import Derived.Test.YtbhdjpohplpjdaaRows
import Derived.Test.YtbhdjpohplpjdaaShelf
import Derived.WalkKit
import Derived.LoopTactic
import Derived.Outline
import Derived.Below
import Derived.BigQuiet
import Derived.Deep.CutBlock
import Derived.Lib.Hide
import Derived.Lib.ItoaNum
import Derived.Deep.DeepCutAuto
namespace Go.Proofs.Ytbhdjpohplpjdaa
open Go.RowKit

/-- How far a number is from the top of its word. -/
theorem lead_shut (y : Nat) (hy1 : 1 ≤ y) (hy : y < 18446744073709551616) (w : World) :
    Calls Try.prog 34 #[.int .u64 y] w fun e w' => ∃ s : Nat, e = .returned (.int .i64 s) ∧ s ≤ 63 ∧ Hid (9223372036854775808 ≤ y * 2 ^ s ∧ y * 2 ^ s < 18446744073709551616) ∧ w = w' := by
  refine (Try.bits_LeadingZeros64 (y : Int) w (by omega) (by omega)).mono ?_
  rintro e w' ⟨rfl, rfl⟩
  obtain ⟨hL, h2, h1⟩ := Lib.bitLenAux_bounds 64 y hy (by omega)
  change 1 ≤ Lib.bitLen y at hL
  change 2 ^ (Lib.bitLen y - 1) ≤ y at h2
  change y < 2 ^ Lib.bitLen y at h1
  obtain ⟨h3, h4, h5⟩ := lead_fills y _ hy h1 h2 hL
  refine ⟨64 - Lib.bitLen y, ?_, by omega, Lib.hid ⟨h4, h5⟩, rfl⟩
  rw [Int.toNat_natCast]
  congr 2
  omega

theorem below_drawn {B : Nat} {a w : World} (h : Below B a w) (n : Nat) : Below B a (w.drewN n) := ⟨h.os, h.tape, h.output, h.size, h.block⟩
theorem wrapU (a : Nat) (ha : a < 18446744073709551616) : IntKind.u64.wrap (a : Int) = (a : Int) := by rw [IntKind.wrap_u64]; omega
theorem orN (a b : Nat) (ha : a < 18446744073709551616) (hb : b < 18446744073709551616) : bits .or .u64 (a : Int) (b : Int) = ((a ||| b : Nat) : Int) := bits_or_u64_nat a b ha hb

set_option maxHeartbeats 2000000 in
theorem div64_any (hi lo y : Nat) (hh : hi < y) (hl : lo < 18446744073709551616) (hy : y < 18446744073709551616) (w : World) :
    Calls Try.prog 29 #[.int .u64 hi, .int .u64 lo, .int .u64 y] w fun e w' => e = .returned (.tuple #[.int .u64 (((hi * (4294967296 * 4294967296) + lo) / y : Nat) : Int), .int .u64 (((hi * (4294967296 * 4294967296) + lo) % y : Nat) : Int)]) ∧ ∃ m, w' = w.drewN m := by
  by_cases h0 : hi = 0
  · subst h0
    have e1 : ((y : Int) == 0) = false := by rw [beq_eq_false_iff_ne]; omega
    have e2 : ¬ (y : Int) = 0 := by omega
    have e3 : IntKind.u64.wrap ((lo : Int) / (y : Int)) = ((lo / y : Nat) : Int) := by
      have := Nat.div_le_self lo y
      rw [← Int.natCast_ediv, wrapU _ (by omega)]
    have e4 : IntKind.u64.wrap ((lo : Int) % (y : Int)) = ((lo % y : Nat) : Int) := by
      have := Nat.mod_le lo y
      rw [← Int.natCast_emod, wrapU _ (by omega)]
    go_enter Try.func29, Try.ntmps29
    go_upto_region 6 with fail
    go_quiet (fail)
    go_wp2_with fail
    go_ret2
    have z : 0 * (4294967296 * 4294967296) + lo = lo := by rw [Nat.zero_mul, Nat.zero_add]
    rw [z]
    exact ⟨rfl, _, rfl⟩
  · have e0 : ((hi : Int) == 0) = false := by rw [beq_eq_false_iff_ne]; omega
    have e1 : ((y : Int) == 0) = false := by rw [beq_eq_false_iff_ne]; omega
    have e2 : hi < y := hh
    go_enter Try.func29, Try.ntmps29
    go_upto_region 15 with (go_at_call 34; refine (lead_shut y (by omega) hy _).mono ?_; rintro e w' ⟨s, rfl, hs, Hs, rfl⟩)
    obtain ⟨Y, hYe⟩ : ∃ Y, Y = y * 2 ^ s := ⟨_, rfl⟩
    have hY := Hs.out
    rw [← hYe] at hY
    obtain ⟨hY1, hY2⟩ := hY
    have hP : 0 < 2 ^ s := Nat.two_pow_pos s
    have E1 : IntKind.u64.wrap ((y : Int) * 2 ^ s) = (Y : Int) := by
      have : ((y : Int) * 2 ^ s) = (Y : Int) := by rw [hYe]; push_cast; rfl
      rw [this, wrapU Y hY2]
    have hmv := moved_up (hi := hi) (lo := lo) hs
    obtain ⟨U, hUe⟩ : ∃ U, U = hi * 2 ^ s + lo / 2 ^ (64 - s) := ⟨_, rfl⟩
    obtain ⟨V, hVe⟩ : ∃ V, V = lo * 2 ^ s % 18446744073709551616 := ⟨_, rfl⟩
    have hV2 : V < 18446744073709551616 := by rw [hVe]; exact Nat.mod_lt _ (by omega)
    have hbs := beside hi lo s hs hl
    rw [← hUe] at hmv hbs
    rw [← hVe] at hmv
    have hUY : U < Y := by
      have h1 : (hi * (4294967296 * 4294967296) + lo) * 2 ^ s < Y * (4294967296 * 4294967296) := by
        rw [hYe, Nat.mul_right_comm]
        exact Nat.mul_lt_mul_of_pos_right (by omega) hP
      rw [hmv] at h1
      omega
    obtain ⟨H, hHe⟩ : ∃ H, H = hi * 2 ^ s := ⟨_, rfl⟩
    obtain ⟨L, hLe⟩ : ∃ L, L = lo / 2 ^ (64 - s) := ⟨_, rfl⟩
    rw [← hHe, ← hLe] at hbs
    have hHL : H + L = U := by rw [hUe, hHe, hLe]
    have E2 : IntKind.u64.wrap ((hi : Int) * 2 ^ s) = (H : Int) := by
      have : ((hi : Int) * 2 ^ s) = (H : Int) := by rw [hHe]; push_cast; rfl
      rw [this, wrapU _ (by omega)]
    have E3 : (lo : Int) / 2 ^ (64 - s) = (L : Int) := by rw [hLe]; push_cast; rfl
    have E4 : bits .or .u64 (H : Int) (L : Int) = (U : Int) := by rw [orN _ _ (by omega) (by omega), hbs]
    have E5 : IntKind.u64.wrap ((lo : Int) * 2 ^ s) = (V : Int) := by
      have : ((lo : Int) * 2 ^ s) = ((lo * 2 ^ s : Nat) : Int) := by push_cast; rfl
      rw [this, IntKind.wrap_u64, hVe]; rfl
    obtain ⟨y1, hy1⟩ : ∃ y1, y1 = Y / 4294967296 := ⟨_, rfl⟩
    obtain ⟨y0, hy0⟩ : ∃ y0, y0 = Y % 4294967296 := ⟨_, rfl⟩
    obtain ⟨l1, hl1⟩ : ∃ l1, l1 = V / 4294967296 := ⟨_, rfl⟩
    obtain ⟨l0, hl0⟩ : ∃ l0, l0 = V % 4294967296 := ⟨_, rfl⟩
    have E6 : (Y : Int) / 4294967296 = (y1 : Int) := by omega
    have E7 : bits .and .u64 (Y : Int) 4294967295 = (y0 : Int) := by rw [Mul64.maskN Y hY2, hy0]
    have E8 : (V : Int) / 4294967296 = (l1 : Int) := by omega
    have E9 : bits .and .u64 (V : Int) 4294967295 = (l0 : Int) := by rw [Mul64.maskN V hV2, hl0]
    have hYy : Y = y1 * 4294967296 + y0 := by omega
    have by0 : y0 < 4294967296 := by omega
    have by1 : y1 < 4294967296 := by omega
    have by2 : 2147483648 ≤ y1 := by omega
    have bl1 : l1 < 4294967296 := by omega
    have bl0 : l0 < 4294967296 := by omega
    rw [← hl1, ← hl0] at hmv
    have hy1z : ¬ (y1 : Int) = 0 := by omega
    have F1 : IntKind.u64.wrap ((U : Int) / (y1 : Int)) = ((U / y1 : Nat) : Int) := by
      have h : U / y1 ≤ U := Nat.div_le_self _ _
      rw [← Int.natCast_ediv, wrapU _ (by omega)]
    have hq1 : U / y1 * y1 + U % y1 = U := by rw [Nat.mul_comm]; exact Nat.div_add_mod U y1
    have F2 : IntKind.u64.wrap ((U : Int) / (y1 : Int) * (y1 : Int)) = ((U / y1 * y1 : Nat) : Int) := by
      rw [← Int.natCast_ediv, ← Int.natCast_mul, wrapU _ (by omega)]
    have F3 : IntKind.u64.wrap ((U : Int) - ((U / y1 * y1 : Nat) : Int)) = ((U % y1 : Nat) : Int) := by
      rw [show (U : Int) - ((U / y1 * y1 : Nat) : Int) = ((U % y1 : Nat) : Int) by omega, wrapU _ (by omega)]
    have HF : Hid (IntKind.u64.wrap ((U : Int) - IntKind.u64.wrap ((U : Int) / (y1 : Int) * (y1 : Int))) = ((U % y1 : Nat) : Int)) := Lib.hid (by rw [F2, F3])
    clear F2 F3
    simp only [E1, E2, E3, E4, E5, E6, E7, E8, E9]
    clear E1 E2 E3 E4 E5 E6 E7 E8 E9
    have Hfin := Lib.hid (two_digits (K := 4294967296) hP (by omega) hYe hmv)
    clear hmv hYe hUe hVe hbs hHL hHe hLe hP hy1 hy0 hl1 hl0
    go_upto_block 0 with fail
    clear F1
    have hy1p : 0 < y1 := by omega
    clear hq1
    have HYy := Lib.hid hYy
    clear hYy
    obtain ⟨Q, hQ⟩ : ∃ Q, Q = (U * 4294967296 + l1) / Y := ⟨_, rfl⟩
    obtain ⟨R, hR⟩ : ∃ R, R = (U * 4294967296 + l1) % Y := ⟨_, rfl⟩
    have hQR : U * 4294967296 + l1 = Q * Y + R := by have := Nat.div_add_mod (U * 4294967296 + l1) Y; rw [Nat.mul_comm Y] at this; rw [hQ, hR]; exact this.symm
    have hRY : R < Y := by rw [hR]; exact Nat.mod_lt _ (by omega)
    have hQK : Q < 4294967296 := by rw [hQ, Nat.div_lt_iff_lt_mul (by omega)]; omega
    have HQ := Lib.hid hQ
    have HR := Lib.hid hR
    clear hQ hR
    go_cut [15, 16] (fun q r wx => w = wx ∧ (∃ r' : Nat, r = .int .u64 r') ∧ q = .int .u64 (Q : Int))
    case first =>
      clear hQR
      go_wp2_with fail
      go_loop [15, 16] (fun q r => ∃ q' r' : Nat, q = .int .u64 q' ∧ r = .int .u64 r' ∧ q' < 18446744073709551616 ∧ r' < 4294967296 ∧ Hid (q' * y1 + r' = U) ∧ Hid (U * 4294967296 + l1 < (q' + 1) * Y)) (fun q _ => (intOf q).toNat)
      case atStart => exact ⟨U / y1, U % y1, rfl, congrArg (Value.int .u64) HF.out, by have := Nat.div_le_self U y1; omega, Nat.lt_trans (Nat.mod_lt _ hy1p) by1, Lib.hid (by rw [Nat.mul_comm]; exact Nat.div_add_mod U y1), Lib.hid (digit_first HYy.out hy1p bl1)⟩
      case round =>
        obtain ⟨q, r, rfl, rfl, hqw, hr, Hu, Hd⟩ := hrel
        obtain ⟨k, hk⟩ : ∃ k, k = r * 4294967296 := ⟨_, rfl⟩
        have hkb : k ≤ 18446744069414584320 := by omega
        have hW2 : IntKind.u64.wrap (4294967296 * (r : Int)) = (k : Int) := by rw [IntKind.wrap_u64]; omega
        have hdec : 4294967296 ≤ q ∨ (q < 4294967296 ∧ k + l1 < q * y0) ∨ (q < 4294967296 ∧ q * y0 ≤ k + l1) := by omega
        have Hk := Lib.hid hk
        clear hk
        have hprod : q < 4294967296 → q * y0 < 18446744073709551616 := fun h => by
          have := Nat.mul_lt_mul'' h by0
          omega
        obtain ⟨m, hm⟩ : ∃ m, m = q * y0 := ⟨_, rfl⟩
        have hW : q < 4294967296 → IntKind.u64.wrap ((q : Int) * (y0 : Int)) = (m : Int) := fun h => by
          rw [← Int.natCast_mul, ← hm, wrapU m (by rw [hm]; exact hprod h)]
        have Hm := Lib.hid hm
        rw [← hm] at hdec
        clear hm
        rcases hdec with hq | ⟨hq, hlt⟩ | ⟨hq, hle⟩
        · obtain ⟨p, hp, hp1, hp2⟩ := digit_down HYy.out Hu.out hUY bl1 (Or.inl hq)
          have Hp := Lib.hid hp
          have Hp1 := Lib.hid hp1
          have Hp2 := Lib.hid hp2
          clear hp hp1 hp2 hprod hW
          have hqi : (4294967296 : Int) ≤ (q : Int) := by omega
          clear hq
          by_cases hr2 : (4294967296 : Int) ≤ (r : Int) + (y1 : Int)
          · go_wp2_with fail
            go_meet
            exact ⟨rfl, ⟨r + y1, congrArg (Value.int .u64) (by omega)⟩, congrArg (Value.int .u64) (by have h1 := digit_is (digit_out HYy.out by0 Hp1.out hUY (by omega)) Hp2.out; have h2 := Hp.out; have h3 := HQ.out; omega)⟩
          · go_wp2_with fail
            go_round
            case rel => exact ⟨p, r + y1, congrArg (Value.int .u64) (by have := Hp.out; omega), congrArg (Value.int .u64) (by omega), by have := Hp.out; omega, by omega, Hp1, Hp2⟩
            case measure => have := Hp.out; simp [intOf]; omega
        · obtain ⟨p, hp, hp1, hp2⟩ := digit_down HYy.out Hu.out hUY bl1 (Or.inr (by rw [← Hm.out, ← Hk.out]; exact hlt))
          have Hp := Lib.hid hp
          have Hp1 := Lib.hid hp1
          have Hp2 := Lib.hid hp2
          have hW1 := hW hq
          have hm2 : m < 18446744073709551616 := by rw [Hm.out]; exact hprod hq
          clear hp hp1 hp2 hprod hW
          have hqi : (q : Int) < 4294967296 := by omega
          have hq1 : 1 ≤ q := by have := Hp.out; omega
          have hlti : (k : Int) + (l1 : Int) < (m : Int) := by omega
          clear hq hlt
          by_cases hr2 : (4294967296 : Int) ≤ (r : Int) + (y1 : Int)
          · go_wp2_with fail
            go_meet
            exact ⟨rfl, ⟨r + y1, congrArg (Value.int .u64) (by omega)⟩, congrArg (Value.int .u64) (by have h1 := digit_is (digit_out HYy.out by0 Hp1.out hUY (by omega)) Hp2.out; have h2 := Hp.out; have h3 := HQ.out; omega)⟩
          · go_wp2_with fail
            go_round
            case rel => exact ⟨p, r + y1, congrArg (Value.int .u64) (by have := Hp.out; omega), congrArg (Value.int .u64) (by omega), by have := Hp.out; omega, by omega, Hp1, Hp2⟩
            case measure => have := Hp.out; simp [intOf]; omega
        · have hW1 := hW hq
          have hm2 : m < 18446744073709551616 := by rw [Hm.out]; exact hprod hq
          clear hprod hW
          have hqi : decide ((4294967296 : Int) ≤ (q : Int)) = false := decide_eq_false (by omega)
          have hlti : decide ((k : Int) + (l1 : Int) < (m : Int)) = false := decide_eq_false (by omega)
          have Hle := Lib.hid hle
          clear hq hle
          go_wp2_with fail
          go_meet
          exact ⟨rfl, ⟨r, rfl⟩, congrArg (Value.int .u64) (by have h1 := digit_is (digit_under HYy.out Hu.out (by rw [← Hm.out, ← Hk.out]; exact Hle.out)) Hd.out; have h3 := HQ.out; omega)⟩
    case rest =>
      obtain ⟨rfl, ⟨r', rfl⟩, rfl⟩ := hcut
      have G1 : IntKind.u64.wrap (IntKind.u64.wrap (IntKind.u64.wrap ((U : Int) * 4294967296) + (l1 : Int)) - IntKind.u64.wrap ((Q : Int) * (Y : Int))) = (R : Int) := by
        have e : (Q : Int) * (Y : Int) = ((Q * Y : Nat) : Int) := (Int.natCast_mul _ _).symm
        rw [e]
        simp only [IntKind.wrap_u64]
        omega
      clear hQR HF
      have F1 : IntKind.u64.wrap ((R : Int) / (y1 : Int)) = ((R / y1 : Nat) : Int) := by
        have h : R / y1 ≤ R := Nat.div_le_self _ _
        rw [← Int.natCast_ediv, wrapU _ (by omega)]
      have F2 : IntKind.u64.wrap ((R : Int) / (y1 : Int) * (y1 : Int)) = ((R / y1 * y1 : Nat) : Int) := by
        have : R / y1 * y1 ≤ R := Nat.div_mul_le_self _ _
        rw [← Int.natCast_ediv, ← Int.natCast_mul, wrapU _ (by omega)]
      have F3 : IntKind.u64.wrap ((R : Int) - ((R / y1 * y1 : Nat) : Int)) = ((R % y1 : Nat) : Int) := by
        have : R / y1 * y1 + R % y1 = R := by rw [Nat.mul_comm]; exact Nat.div_add_mod R y1
        rw [show (R : Int) - ((R / y1 * y1 : Nat) : Int) = ((R % y1 : Nat) : Int) by omega, wrapU _ (by have := Nat.mod_le R y1; omega)]
      have HG : Hid (IntKind.u64.wrap ((R : Int) - IntKind.u64.wrap ((R : Int) / (y1 : Int) * (y1 : Int))) = ((R % y1 : Nat) : Int)) := Lib.hid (by rw [F2, F3])
      clear F2 F3
      have hR64 : R < 18446744073709551616 := by omega
      go_upto_block 2 with fail
      obtain ⟨P, hP⟩ : ∃ P, P = (R * 4294967296 + l0) / Y := ⟨_, rfl⟩
      obtain ⟨T, hT⟩ : ∃ T, T = (R * 4294967296 + l0) % Y := ⟨_, rfl⟩
      have hPT : R * 4294967296 + l0 = P * Y + T := by have := Nat.div_add_mod (R * 4294967296 + l0) Y; rw [Nat.mul_comm Y] at this; rw [hP, hT]; exact this.symm
      have hTY : T < Y := by rw [hT]; exact Nat.mod_lt _ (by omega)
      have hPK : P < 4294967296 := by rw [hP, Nat.div_lt_iff_lt_mul (by omega)]; omega
      have HP := Lib.hid hP
      have HT := Lib.hid hT
      clear hP hT
      go_cut [16, 18] (fun r q wx => w = wx ∧ (∃ r' : Nat, r = .int .u64 r') ∧ q = .int .u64 (P : Int))
      case first =>
        clear hPT
        go_wp2_with fail
        go_loop [16, 18] (fun r q => ∃ q' r' : Nat, q = .int .u64 q' ∧ r = .int .u64 r' ∧ q' < 18446744073709551616 ∧ r' < 4294967296 ∧ Hid (q' * y1 + r' = R) ∧ Hid (R * 4294967296 + l0 < (q' + 1) * Y)) (fun _ q => (intOf q).toNat)
        case atStart => exact ⟨R / y1, R % y1, rfl, congrArg (Value.int .u64) HG.out, by have := Nat.div_le_self R y1; omega, Nat.lt_trans (Nat.mod_lt _ hy1p) by1, Lib.hid (by rw [Nat.mul_comm]; exact Nat.div_add_mod R y1), Lib.hid (digit_first HYy.out hy1p bl0)⟩
        case round =>
          obtain ⟨q, r, rfl, rfl, hqw, hr, Hu, Hd⟩ := hrel
          obtain ⟨k, hk⟩ : ∃ k, k = r * 4294967296 := ⟨_, rfl⟩
          have hkb : k ≤ 18446744069414584320 := by omega
          have hW2 : IntKind.u64.wrap (4294967296 * (r : Int)) = (k : Int) := by rw [IntKind.wrap_u64]; omega
          have hdec : 4294967296 ≤ q ∨ (q < 4294967296 ∧ k + l0 < q * y0) ∨ (q < 4294967296 ∧ q * y0 ≤ k + l0) := by omega
          have Hk := Lib.hid hk
          clear hk
          have hprod : q < 4294967296 → q * y0 < 18446744073709551616 := fun h => by
            have := Nat.mul_lt_mul'' h by0
            omega
          obtain ⟨m, hm⟩ : ∃ m, m = q * y0 := ⟨_, rfl⟩
          have hW : q < 4294967296 → IntKind.u64.wrap ((q : Int) * (y0 : Int)) = (m : Int) := fun h => by
            rw [← Int.natCast_mul, ← hm, wrapU m (by rw [hm]; exact hprod h)]
          have Hm := Lib.hid hm
          rw [← hm] at hdec
          clear hm
          rcases hdec with hq | ⟨hq, hlt⟩ | ⟨hq, hle⟩
          · obtain ⟨p, hp, hp1, hp2⟩ := digit_down HYy.out Hu.out hRY bl0 (Or.inl hq)
            have Hp := Lib.hid hp
            have Hp1 := Lib.hid hp1
            have Hp2 := Lib.hid hp2
            clear hp hp1 hp2 hprod hW
            have hqi : (4294967296 : Int) ≤ (q : Int) := by omega
            clear hq
            by_cases hr2 : (4294967296 : Int) ≤ (r : Int) + (y1 : Int)
            · go_wp2_with fail
              go_meet
              exact ⟨rfl, ⟨r + y1, congrArg (Value.int .u64) (by omega)⟩, congrArg (Value.int .u64) (by have h1 := digit_is (digit_out HYy.out by0 Hp1.out hRY (by omega)) Hp2.out; have h2 := Hp.out; have h3 := HP.out; omega)⟩
            · go_wp2_with fail
              go_round
              case rel => exact ⟨p, r + y1, congrArg (Value.int .u64) (by have := Hp.out; omega), congrArg (Value.int .u64) (by omega), by have := Hp.out; omega, by omega, Hp1, Hp2⟩
              case measure => have := Hp.out; simp [intOf]; omega
          · obtain ⟨p, hp, hp1, hp2⟩ := digit_down HYy.out Hu.out hRY bl0 (Or.inr (by rw [← Hm.out, ← Hk.out]; exact hlt))
            have Hp := Lib.hid hp
            have Hp1 := Lib.hid hp1
            have Hp2 := Lib.hid hp2
            have hW1 := hW hq
            have hm2 : m < 18446744073709551616 := by rw [Hm.out]; exact hprod hq
            clear hp hp1 hp2 hprod hW
            have hqi : (q : Int) < 4294967296 := by omega
            have hq1 : 1 ≤ q := by have := Hp.out; omega
            have hlti : (k : Int) + (l0 : Int) < (m : Int) := by omega
            clear hq hlt
            by_cases hr2 : (4294967296 : Int) ≤ (r : Int) + (y1 : Int)
            · go_wp2_with fail
              go_meet
              exact ⟨rfl, ⟨r + y1, congrArg (Value.int .u64) (by omega)⟩, congrArg (Value.int .u64) (by have h1 := digit_is (digit_out HYy.out by0 Hp1.out hRY (by omega)) Hp2.out; have h2 := Hp.out; have h3 := HP.out; omega)⟩
            · go_wp2_with fail
              go_round
              case rel => exact ⟨p, r + y1, congrArg (Value.int .u64) (by have := Hp.out; omega), congrArg (Value.int .u64) (by omega), by have := Hp.out; omega, by omega, Hp1, Hp2⟩
              case measure => have := Hp.out; simp [intOf]; omega
          · have hW1 := hW hq
            have hm2 : m < 18446744073709551616 := by rw [Hm.out]; exact hprod hq
            clear hprod hW
            have hqi : decide ((4294967296 : Int) ≤ (q : Int)) = false := decide_eq_false (by omega)
            have hlti : decide ((k : Int) + (l0 : Int) < (m : Int)) = false := decide_eq_false (by omega)
            have Hle := Lib.hid hle
            clear hq hle
            go_wp2_with fail
            go_meet
            exact ⟨rfl, ⟨r, rfl⟩, congrArg (Value.int .u64) (by have h1 := digit_is (digit_under HYy.out Hu.out (by rw [← Hm.out, ← Hk.out]; exact Hle.out)) Hd.out; have h3 := HP.out; omega)⟩
      case rest =>
        obtain ⟨rfl, ⟨r', rfl⟩, rfl⟩ := hcut
        have G2 : IntKind.u64.wrap (IntKind.u64.wrap (IntKind.u64.wrap ((R : Int) * 4294967296) + (l0 : Int)) - IntKind.u64.wrap ((P : Int) * (Y : Int))) = (T : Int) := by
          have e : (P : Int) * (Y : Int) = ((P * Y : Nat) : Int) := (Int.natCast_mul _ _).symm
          rw [e]
          simp only [IntKind.wrap_u64]
          omega
        clear hPT
        have hT64 : T < 18446744073709551616 := by omega
        go_wp2_with fail
        go_ret2
        obtain ⟨f1, f2⟩ := Hfin.out
        rw [← HR.out, ← HQ.out, ← HP.out] at f1
        rw [← HR.out, ← HT.out] at f2
        have g1 : (Q : Int) * 4294967296 + (P : Int) = (((hi * (4294967296 * 4294967296) + lo) / y : Nat) : Int) := by
          rw [f1]; omega
        have g2 : (T : Int) / 2 ^ s = (((hi * (4294967296 * 4294967296) + lo) % y : Nat) : Int) := by
          have : T / 2 ^ s = (hi * (4294967296 * 4294967296) + lo) % y := by rw [← f2, Nat.mul_div_cancel _ (Nat.two_pow_pos s)]
          rw [← this]; push_cast; rfl
        rw [← g1, ← g2]
        exact ⟨rfl, 0, rfl⟩
end Go.Proofs.Ytbhdjpohplpjdaa
