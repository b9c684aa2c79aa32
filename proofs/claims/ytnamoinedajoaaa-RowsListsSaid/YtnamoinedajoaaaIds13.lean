/- Ids that rise, and where one is found among them: the document's and the program's, for every slice of numbers and in every world. -/
import Derived.Test.YtnamoinedajoaaaFind13
import Derived.Test.YtnamoinedajoaaaSameInts
import Derived.Test.YtnamoinedajoaaaShelf
namespace Go.Proofs.Ytnamoinedajoaaa
open Go.RowKit

theorem drew_more (w : World) (n m : Nat) : (w.drewN n).drewN m = w.drewN (n + m) := by
  first
  | rfl
  | (simp [World.drewN]; omega)
set_option maxHeartbeats 1000000 in
theorem prising_any (a : Option Addr) (cap : Nat) (xs : List Int) (B : Nat) (w : World) (hx : Ints B w a xs) (hn : xs.length ≤ 1000000) :
    Calls Try.prog 10 #[.slice a xs.length cap] w fun e w' => e = .returned (.int .i64 (risingE xs)) ∧ ∃ m, w' = w.drewN m := by
  have HX := Lib.hid hx
  clear hx
  go_enter Try.func10, Try.ntmps10
  go_wp2
  go_loopw [7] (fun i wr => ∃ k m : Nat, i = .int .i64 k ∧ wr = w.drewN m ∧ k ≤ xs.length ∧ Hid (riseTo xs k = 0)) (fun i _ => xs.length - (intOf i).toNat)
  case atStart => exact ⟨0, 0, rfl, rfl, by omega, Lib.hid rfl⟩
  case round =>
    obtain ⟨k, m, rfl, rfl, hk, hr⟩ := hrel
    by_cases hlt : k < xs.length
    · rcases HX.out with h0 | ⟨b, off, rfl, _, hc⟩
      · exfalso; rw [h0] at hlt; simp at hlt
      have hx := hc k hlt
      have HC := Lib.hid hc
      clear hc
      have i1 : (k : Int) < (xs.length : Int) := by omega
      have i3 : (0 : Int) ≤ (k : Int) := by omega
      have HA : Hid (riseAt xs k = if numAt xs k < 1 ∨ 999999 < numAt xs k then 31 else if 0 < k ∧ numAt xs k ≤ numAt xs (k - 1) then 32 else 0) := Lib.hid rfl
      by_cases q1 : numAt xs k < 1
      · have d1 : decide (numAt xs k < 1) = true := decide_eq_true q1
        have HR : Hid (risingE xs = 31) := Lib.hid (by
          have := HA.out
          rw [if_pos (Or.inl q1)] at this
          rw [rise_stop hlt hr.out (by rw [this]; decide), this])
        clear q1
        go_wp2
        go_ret
        refine ⟨by rw [HR.out]; rfl, ?_⟩; first | exact ⟨_, rfl⟩ | exact ⟨_, drew_more _ _ _⟩
      · have d1 : decide (numAt xs k < 1) = false := decide_eq_false q1
        by_cases q2 : 999999 < numAt xs k
        · have d2 : decide (999999 < numAt xs k) = true := decide_eq_true q2
          have HR : Hid (risingE xs = 31) := Lib.hid (by
            have := HA.out
            rw [if_pos (Or.inr q2)] at this
            rw [rise_stop hlt hr.out (by rw [this]; decide), this])
          clear q1 q2
          go_wp2
          go_ret
          refine ⟨by rw [HR.out]; rfl, ?_⟩; first | exact ⟨_, rfl⟩ | exact ⟨_, drew_more _ _ _⟩
        · have d2 : decide (999999 < numAt xs k) = false := decide_eq_false q2
          rcases Nat.eq_zero_or_pos k with hk0 | hk0
          · subst hk0
            have hx0 : w.cell? ⟨b, off, none⟩ = some (.int .i64 (numAt xs 0)) := by simpa using hx
            clear hx
            have HR : Hid (riseTo xs 1 = 0) := Lib.hid (by
              have := HA.out
              rw [if_neg (by omega), if_neg (by omega)] at this
              exact rise_step hr.out this)
            clear q1 q2
            go_wp2
            go_roundw
            case rel => exact ⟨1, _, rfl, rfl, by omega, HR⟩
            case measure => simp [intOf]; omega
          · obtain ⟨j, rfl⟩ : ∃ j, k = j + 1 := ⟨k - 1, by omega⟩
            have hy := HC.out j (by omega)
            have i4 : (j : Int) < (xs.length : Int) := by omega
            have i5 : (0 : Int) ≤ (j : Int) := by omega
            have i6 : decide ((0 : Int) < (j : Int) + 1) = true := decide_eq_true (by omega)
            have i7 : IntKind.i64.wrap ((j : Int) + 1 - 1) = (j : Int) := by rw [Int.add_sub_cancel]; exact IntWalk.i64_in _ (by omega)
            rw [show (j : Nat) + 1 - 1 = j from rfl] at HA
            by_cases q3 : numAt xs (j + 1) ≤ numAt xs j
            · have d3 : decide (numAt xs (j + 1) ≤ numAt xs j) = true := decide_eq_true q3
              have HR : Hid (risingE xs = 32) := Lib.hid (by
                have := HA.out
                rw [if_neg (by omega), if_pos ⟨by omega, q3⟩] at this
                rw [rise_stop hlt hr.out (by rw [this]; decide), this])
              clear q1 q2 q3
              go_wp2
              go_ret
              refine ⟨by rw [HR.out]; rfl, ?_⟩; first | exact ⟨_, rfl⟩ | exact ⟨_, drew_more _ _ _⟩
            · have d3 : decide (numAt xs (j + 1) ≤ numAt xs j) = false := decide_eq_false q3
              have HR : Hid (riseTo xs (j + 1 + 1) = 0) := Lib.hid (by
                have := HA.out
                rw [if_neg (by omega), if_neg (fun q => q3 q.2)] at this
                exact rise_step hr.out this)
              clear q1 q2 q3
              go_wp2
              go_roundw
              case rel => exact ⟨j + 1 + 1, _, by go_num, rfl, by omega, HR⟩
              case measure => simp [intOf]; omega
    · obtain rfl : k = xs.length := by omega
      have HR : Hid (risingE xs = 0) := Lib.hid hr.out
      go_wp2
      go_ret
      refine ⟨by rw [HR.out]; rfl, ?_⟩; first | exact ⟨_, rfl⟩ | exact ⟨_, drew_more _ _ _⟩
set_option maxHeartbeats 1000000 in
theorem rrising_any (a : Option Addr) (cap : Nat) (xs : List Int) (B : Nat) (w : World) (hx : Ints B w a xs) (hn : xs.length ≤ 1000000) :
    Calls Try.prog 11 #[.slice a xs.length cap] w fun e w' => e = .returned (.int .i64 (risingE xs)) ∧ ∃ m, w' = w.drewN m := by
  have HX := Lib.hid hx
  clear hx
  go_enter Try.func11, Try.ntmps11
  go_wp2
  go_loopw [3] (fun i wr => ∃ k m : Nat, i = .int .i64 k ∧ wr = w.drewN m ∧ k ≤ xs.length ∧ Hid (riseTo xs k = 0)) (fun i _ => xs.length - (intOf i).toNat)
  case atStart => exact ⟨0, 0, rfl, rfl, by omega, Lib.hid rfl⟩
  case round =>
    obtain ⟨k, m, rfl, rfl, hk, hr⟩ := hrel
    by_cases hlt : k < xs.length
    · rcases HX.out with h0 | ⟨b, off, rfl, _, hc⟩
      · exfalso; rw [h0] at hlt; simp at hlt
      have hx := hc k hlt
      have HC := Lib.hid hc
      clear hc
      have i1 : (k : Int) < (xs.length : Int) := by omega
      have i3 : (0 : Int) ≤ (k : Int) := by omega
      have HA : Hid (riseAt xs k = if numAt xs k < 1 ∨ 999999 < numAt xs k then 31 else if 0 < k ∧ numAt xs k ≤ numAt xs (k - 1) then 32 else 0) := Lib.hid rfl
      by_cases q1 : numAt xs k < 1
      · have d1 : decide (numAt xs k < 1) = true := decide_eq_true q1
        have HR : Hid (risingE xs = 31) := Lib.hid (by
          have := HA.out
          rw [if_pos (Or.inl q1)] at this
          rw [rise_stop hlt hr.out (by rw [this]; decide), this])
        clear q1
        go_wp2
        go_ret
        refine ⟨by rw [HR.out]; rfl, ?_⟩; first | exact ⟨_, rfl⟩ | exact ⟨_, drew_more _ _ _⟩
      · have d1 : decide (numAt xs k < 1) = false := decide_eq_false q1
        by_cases q2 : 999999 < numAt xs k
        · have d2 : decide (999999 < numAt xs k) = true := decide_eq_true q2
          have HR : Hid (risingE xs = 31) := Lib.hid (by
            have := HA.out
            rw [if_pos (Or.inr q2)] at this
            rw [rise_stop hlt hr.out (by rw [this]; decide), this])
          clear q1 q2
          go_wp2
          go_ret
          refine ⟨by rw [HR.out]; rfl, ?_⟩; first | exact ⟨_, rfl⟩ | exact ⟨_, drew_more _ _ _⟩
        · have d2 : decide (999999 < numAt xs k) = false := decide_eq_false q2
          rcases Nat.eq_zero_or_pos k with hk0 | hk0
          · subst hk0
            have hx0 : w.cell? ⟨b, off, none⟩ = some (.int .i64 (numAt xs 0)) := by simpa using hx
            clear hx
            have HR : Hid (riseTo xs 1 = 0) := Lib.hid (by
              have := HA.out
              rw [if_neg (by omega), if_neg (by omega)] at this
              exact rise_step hr.out this)
            clear q1 q2
            go_upto_region 6 with fail
            go_quiet (fail)
            go_wp2
            go_roundw
            case rel => exact ⟨1, _, rfl, rfl, by omega, HR⟩
            case measure => simp [intOf]; omega
          · obtain ⟨j, rfl⟩ : ∃ j, k = j + 1 := ⟨k - 1, by omega⟩
            have hy := HC.out j (by omega)
            have i4 : (j : Int) < (xs.length : Int) := by omega
            have i5 : (0 : Int) ≤ (j : Int) := by omega
            have i6 : decide ((0 : Int) < (j : Int) + 1) = true := decide_eq_true (by omega)
            have i7 : IntKind.i64.wrap ((j : Int) + 1 - 1) = (j : Int) := by rw [Int.add_sub_cancel]; exact IntWalk.i64_in _ (by omega)
            rw [show (j : Nat) + 1 - 1 = j from rfl] at HA
            by_cases q3 : numAt xs (j + 1) ≤ numAt xs j
            · have d3 : decide (numAt xs (j + 1) ≤ numAt xs j) = true := decide_eq_true q3
              have HR : Hid (risingE xs = 32) := Lib.hid (by
                have := HA.out
                rw [if_neg (by omega), if_pos ⟨by omega, q3⟩] at this
                rw [rise_stop hlt hr.out (by rw [this]; decide), this])
              clear q1 q2 q3
              go_upto_region 6 with fail
              go_quiet (fail)
              go_wp2
              go_ret
              refine ⟨by rw [HR.out]; rfl, ?_⟩; first | exact ⟨_, rfl⟩ | exact ⟨_, drew_more _ _ _⟩
            · have d3 : decide (numAt xs (j + 1) ≤ numAt xs j) = false := decide_eq_false q3
              have HR : Hid (riseTo xs (j + 1 + 1) = 0) := Lib.hid (by
                have := HA.out
                rw [if_neg (by omega), if_neg (fun q => q3 q.2)] at this
                exact rise_step hr.out this)
              clear q1 q2 q3
              go_upto_region 6 with fail
              go_quiet (fail)
              go_wp2
              go_roundw
              case rel => exact ⟨j + 1 + 1, _, by go_num, rfl, by omega, HR⟩
              case measure => simp [intOf]; omega
    · obtain rfl : k = xs.length := by omega
      have HR : Hid (risingE xs = 0) := Lib.hid hr.out
      go_wp2
      go_ret
      refine ⟨by rw [HR.out]; rfl, ?_⟩; first | exact ⟨_, rfl⟩ | exact ⟨_, drew_more _ _ _⟩
set_option maxHeartbeats 1000000 in
theorem rfind13_any (a : Option Addr) (cap : Nat) (xs : List Int) (id : Int) (B : Nat) (w : World) (hx : Ints B w a xs) (hn : xs.length ≤ 1000000) :
    Calls Try.prog 9 #[.slice a xs.length cap, .int .i64 id] w fun e w' => e = .returned (.tuple #[.int .i64 (findN xs id : Nat), .bool (findB13 xs id)]) ∧ ∃ m, w' = w.drewN m := by
  have HX := Lib.hid hx
  have HF : Hid (∀ m, Calls Try.prog 11 #[.slice a xs.length cap] (w.drewN m) fun e w' => e = .returned (.int .i64 (risingE xs)) ∧ ∃ m', w' = (w.drewN m).drewN m') := Lib.hid fun m => rrising_any a cap xs B (w.drewN m) (hx.below (drawn_below (Below.refl _ _) _)) hn
  clear hx
  go_enter Try.func9, Try.ntmps9
  go_wp2
  go_loopw [6] (fun i wr => ∃ k m : Nat, i = .int .i64 k ∧ wr = w.drewN m ∧ k ≤ xs.length ∧ Hid (∀ j, j < k → numAt xs j ≠ id)) (fun i _ => xs.length - (intOf i).toNat)
  case atStart => exact ⟨0, 0, rfl, rfl, by omega, Lib.hid fun j h => absurd h (by omega)⟩
  case round =>
    obtain ⟨k, m, rfl, rfl, hk, hr⟩ := hrel
    by_cases hlt : k < xs.length
    · rcases HX.out with h0 | ⟨b, off, rfl, _, hc⟩
      · exfalso; rw [h0] at hlt; simp at hlt
      have hx := hc k hlt
      clear hc
      have i1 : (k : Int) < (xs.length : Int) := by omega
      have i3 : (0 : Int) ≤ (k : Int) := by omega
      by_cases q : numAt xs k = id
      · have HR := Lib.hid (find_hit (hits_at hlt hr.out q))
        have d1 : (numAt xs k == id) = true := by rw [q]; simp
        clear q
        go_wp2
        go_ret2
        refine ⟨by rw [HR.out.1, HR.out.2]; rfl, ?_⟩; first | exact ⟨_, rfl⟩ | exact ⟨_, drew_more _ _ _⟩
      · have d1 : (numAt xs k == id) = false := by rw [beq_eq_false_iff_ne]; exact q
        have HR : Hid (∀ j, j < k + 1 → numAt xs j ≠ id) := Lib.hid fun j hj => by
          rcases (by omega : j < k ∨ j = k) with h1 | h1
          · exact hr.out j h1
          · rw [h1]; exact q
        clear q
        go_wp2
        go_roundw
        case rel => exact ⟨k + 1, _, by go_num, rfl, by omega, HR⟩
        case measure => simp [intOf]; omega
    · obtain rfl : k = xs.length := by omega
      have HN := Lib.hid (find_none (hits_none hr.out))
      by_cases hE : risingE xs = 0
      · have HE := Lib.hid hE
        have HM : Hid (findN xs id = lowTo xs id xs.length) := Lib.hid (by rw [HN.out.1, if_pos hE])
        have hf := HF.out m
        rw [hE] at hf
        clear hE
        go_upto_region 8 with (go_at_call 11; refine hf.mono ?_; rintro e w2 ⟨rfl, m2, rfl⟩)
        clear hf
        go_loopw [7] (fun i wr => ∃ k m : Nat, i = .int .i64 k ∧ wr = w.drewN m ∧ k ≤ xs.length ∧ Hid (lowTo xs id xs.length = lowTo xs id k)) (fun i _ => (intOf i).toNat)
        case atStart => exact ⟨xs.length, m + m2, rfl, rfl, by omega, Lib.hid rfl⟩
        case round =>
          obtain ⟨k, m3, rfl, rfl, hk3, hr3⟩ := hrel
          rcases Nat.eq_zero_or_pos k with hk0 | hk0
          · subst hk0
            go_wp2
            go_ret2
            refine ⟨by rw [HM.out, hr3.out, HN.out.2]; rfl, ?_⟩; first | exact ⟨_, rfl⟩ | exact ⟨_, drew_more _ _ _⟩
          · obtain ⟨j, rfl⟩ : ∃ j, k = j + 1 := ⟨k - 1, by omega⟩
            rcases HX.out with h0 | ⟨b, off, rfl, _, hc⟩
            · exfalso; rw [h0] at hk3; simp at hk3
            have hy := hc j (by omega)
            clear hc
            have i4 : (j : Int) < (xs.length : Int) := by omega
            have i5 : (0 : Int) ≤ (j : Int) := by omega
            have i6 : decide ((0 : Int) < (j : Int) + 1) = true := decide_eq_true (by omega)
            have i7 : IntKind.i64.wrap ((j : Int) + 1 - 1) = (j : Int) := by rw [Int.add_sub_cancel]; exact IntWalk.i64_in _ (by omega)
            have HL : Hid (lowTo xs id (j + 1) = if id < numAt xs j then lowTo xs id j else j + 1) := Lib.hid rfl
            by_cases q : id < numAt xs j
            · have d1 : decide (id < numAt xs j) = true := decide_eq_true q
              have HR : Hid (lowTo xs id xs.length = lowTo xs id j) := Lib.hid (by rw [hr3.out, HL.out, if_pos q])
              clear q
              go_wp2
              go_roundw
              case rel => exact ⟨j, _, by first | rfl | go_num, rfl, by omega, HR⟩
              case measure => simp [intOf]
            · have d1 : decide (id < numAt xs j) = false := decide_eq_false q
              have HR : Hid (lowTo xs id xs.length = j + 1) := Lib.hid (by rw [hr3.out, HL.out, if_neg q])
              clear q
              go_wp2
              go_ret2
              refine ⟨by rw [HM.out, HR.out, HN.out.2]; rfl, ?_⟩; first | exact ⟨_, rfl⟩ | exact ⟨_, drew_more _ _ _⟩
      · have HM : Hid (findN xs id = xs.length) := Lib.hid (by rw [HN.out.1, if_neg hE])
        have hf := HF.out m
        have d1 : (risingE xs == 0) = false := by rw [beq_eq_false_iff_ne]; exact hE
        clear hE
        go_wp2_with (go_at_call 11; refine hf.mono ?_; rintro e w2 ⟨rfl, m2, rfl⟩)
        go_ret2
        refine ⟨by rw [HM.out, HN.out.2]; rfl, ?_⟩; first | exact ⟨_, rfl⟩ | exact ⟨_, drew_more _ _ _⟩
set_option maxHeartbeats 1000000 in
theorem pfind_any (a : Option Addr) (cap : Nat) (xs : List Int) (id : Int) (B : Nat) (w : World) (hx : Ints B w a xs) (hn : xs.length ≤ 1000000) :
    Calls Try.prog 8 #[.slice a xs.length cap, .int .i64 id] w fun e w' => e = .returned (.tuple #[.int .i64 (findN xs id : Nat), .bool (findB13 xs id)]) ∧ ∃ m, w' = w.drewN m := by
  have hf := prising_any a cap xs B w hx hn
  by_cases hE : risingE xs = 0
  · have hb : ∀ m, Calls Try.prog 25 #[.slice a xs.length cap, .int .i64 id] (w.drewN m) fun e w' => e = .returned (.tuple #[.int .i64 (findN xs id : Nat), .bool (findB13 xs id)]) ∧ ∃ m', w' = (w.drewN m).drewN m' := fun m => by
      rcases hx with rfl | ⟨b, off, rfl, _, hc⟩
      · refine (Try.slices_BinarySearch_int_empty a cap id (w.drewN m)).mono ?_
        rintro e w' ⟨rfl, rfl⟩
        exact ⟨rfl, 0, rfl⟩
      · have hs : (xs.take xs.length).Pairwise (· ≤ ·) := by
          rw [List.take_length, List.pairwise_iff_getElem]
          intro i j hi hj hij
          have := rises_lt ((rising_iff xs).1 hE) hij hj
          rw [numAt_get xs i hi, numAt_get xs j hj] at this
          omega
        refine (Try.slices_BinarySearch_int b off xs.length cap xs id (w.drewN m) (Nat.le_refl _) (by omega) (fun j hj => hc j hj) hs).mono ?_
        rintro e w' ⟨rfl, q, rfl⟩
        exact ⟨by rw [find_count hE, find_in], q, rfl⟩
    rw [hE] at hf
    clear hE hx
    go_enter Try.func8, Try.ntmps8
    go_wp2_with (first | (go_at_call 10; refine hf.mono ?_; rintro e w2 ⟨rfl, m2, rfl⟩) | (go_at_call 25; refine (hb _).mono ?_; rintro e w3 ⟨rfl, m3, rfl⟩))
    go_ret2
    refine ⟨rfl, ?_⟩; first | exact ⟨_, rfl⟩ | exact ⟨_, drew_more _ _ _⟩
  · have d1 : (risingE xs == 0) = false := by rw [beq_eq_false_iff_ne]; exact hE
    rcases hit_or xs id with ⟨k, hk, e, h0, hh⟩ | ⟨h0, hh⟩
    · have hi : ∀ m, Calls Try.prog 26 #[.slice a xs.length cap, .int .i64 id] (w.drewN m) fun e w' => e = .returned (.int .i64 (k : Nat)) ∧ w' = w.drewN m := fun m => by
        rcases hx with rfl | ⟨b, off, rfl, _, hc⟩
        · simp at hk
        · refine (Try.slices_Index_int b off xs.length cap xs id (w.drewN m) (Nat.le_refl _) (by omega) (fun j hj => hc j hj)).mono ?_
          rintro e' w' ⟨rfl, rfl⟩
          exact ⟨by rw [idx_hit hk h0 e], rfl⟩
      have i1 : (0 : Int) ≤ (k : Int) := by omega
      have HR := Lib.hid (find_hit hh)
      clear hE hx hh h0 e
      go_enter Try.func8, Try.ntmps8
      go_wp2_with (first | (go_at_call 10; refine hf.mono ?_; rintro e w2 ⟨rfl, m2, rfl⟩) | (go_at_call 26; refine (hi _).mono ?_; rintro e w3 ⟨rfl, rfl⟩))
      go_ret2
      refine ⟨by rw [HR.out.1, HR.out.2]; rfl, ?_⟩; first | exact ⟨_, rfl⟩ | exact ⟨_, drew_more _ _ _⟩
    · have hi : ∀ m, Calls Try.prog 26 #[.slice a xs.length cap, .int .i64 id] (w.drewN m) fun e w' => e = .returned (.int .i64 (-1)) ∧ w' = w.drewN m := fun m => by
        rcases hx with rfl | ⟨b, off, rfl, _, hc⟩
        · refine (Try.slices_Index_int_empty a cap id (w.drewN m)).mono ?_
          rintro e' w' ⟨rfl, rfl⟩
          exact ⟨rfl, rfl⟩
        · refine (Try.slices_Index_int b off xs.length cap xs id (w.drewN m) (Nat.le_refl _) (by omega) (fun j hj => hc j hj)).mono ?_
          rintro e' w' ⟨rfl, rfl⟩
          exact ⟨by rw [idx_none h0], rfl⟩
      have HR : Hid (findN xs id = xs.length ∧ findB13 xs id = false) := Lib.hid ⟨by rw [(find_none hh).1, if_neg hE], (find_none hh).2⟩
      clear hE hx hh h0
      go_enter Try.func8, Try.ntmps8
      go_wp2_with (first | (go_at_call 10; refine hf.mono ?_; rintro e w2 ⟨rfl, m2, rfl⟩) | (go_at_call 26; refine (hi _).mono ?_; rintro e w3 ⟨rfl, rfl⟩))
      go_ret2
      refine ⟨by rw [HR.out.1, HR.out.2]; rfl, ?_⟩; first | exact ⟨_, rfl⟩ | exact ⟨_, drew_more _ _ _⟩
end Go.Proofs.Ytnamoinedajoaaa
