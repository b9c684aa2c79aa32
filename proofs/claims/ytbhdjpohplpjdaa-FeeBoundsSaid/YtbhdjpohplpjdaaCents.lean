/- The program's division: what divide, Floor, Half and Rest return, for all numbers, in every world. -/
import Derived.Test.YtbhdjpohplpjdaaTimes
import Derived.Test.YtbhdjpohplpjdaaQuo
namespace Go.Proofs.Ytbhdjpohplpjdaa
open Go.RowKit

/-- What the program's division returns: both parts, or the refusal. -/
theorem rest_bad {a b c : Int} (h : floorE a b c ≠ 0) : restV a b c = 0 := by unfold restV; rw [if_neg h]
theorem divide_over {A B C : Nat} (hc : (1 : Int) ≤ C) (h : C * 1000000000001 ≤ A * B) : (1000000000000 : Int) < (A : Int) * (B : Int) / (C : Int) := by
  have h1 : 1000000000001 ≤ A * B / C := (Nat.le_div_iff_mul_le (by omega)).2 (by rw [Nat.mul_comm]; exact h)
  rw [← Int.natCast_mul, ← Int.natCast_ediv]
  omega
theorem divide_fine {A B C : Nat} (hc : (1 : Int) ≤ C) (hc2 : (C : Int) ≤ 1000000000000) (h : ¬ C * 1000000000001 ≤ A * B) :
    A * B / 18446744073709551616 < C ∧ (A : Int) * (B : Int) / (C : Int) ≤ 1000000000000 ∧ A * B / C ≤ 1000000000000 ∧ A * B % C < 1000000000000 := by
  have h1 : A * B / C < 1000000000001 := (Nat.div_lt_iff_lt_mul (by omega)).2 (by rw [Nat.mul_comm 1000000000001 C]; omega)
  have h2 : A * B / 18446744073709551616 < C := (Nat.div_lt_iff_lt_mul (by omega)).2 (by omega)
  have h3 := Nat.mod_lt (A * B) (show 0 < C by omega)
  refine ⟨h2, ?_, by omega, by omega⟩
  rw [← Int.natCast_mul, ← Int.natCast_ediv]
  omega
theorem div_named (A B C h l : Nat) (w : World) (e : h = A * B / 18446744073709551616 ∧ l = A * B % 18446744073709551616) (hq : A * B / 18446744073709551616 < C) (hC : C < 18446744073709551616) :
    Calls Try.prog 29 #[.int .u64 h, .int .u64 l, .int .u64 C] w fun e w' => e = .returned (.tuple #[.int .u64 ((A * B / C : Nat) : Int), .int .u64 ((A * B % C : Nat) : Int)]) ∧ ∃ m, w' = w.drewN m := by
  have h1 : h * (4294967296 * 4294967296) + l = A * B := by
    rw [e.1, e.2]
    have := Nat.div_add_mod (A * B) 18446744073709551616
    omega
  have h2 := div64_any h l C (by rw [e.1]; exact hq) (by rw [e.2]; exact Nat.mod_lt _ (by omega)) hC w
  rw [h1] at h2
  exact h2
set_option maxHeartbeats 1000000 in
theorem divide_any (a b c : Int) (w : World) : Calls Try.prog 23 #[.int .i64 a, .int .i64 b, .int .i64 c] w fun e w' => e = .returned (.tuple #[.int .i64 (floorV a b c), .int .i64 (restV a b c), .int .i64 (floorE a b c)]) ∧ Below w.heap.size w w' := by
  rcases may_three a b c with ⟨hm, hok⟩ | ⟨hm, hc⟩ | ⟨hm, hc⟩
  · obtain ⟨hc1, ha0, hb0, ha1, hb1, hc2⟩ := hok
    obtain ⟨A, rfl⟩ := Int.eq_ofNat_of_zero_le ha0
    obtain ⟨B, rfl⟩ := Int.eq_ofNat_of_zero_le hb0
    obtain ⟨C, rfl⟩ := Int.eq_ofNat_of_zero_le (show 0 ≤ c by omega)
    have hA : A < 18446744073709551616 := by omega
    have hB : B < 18446744073709551616 := by omega
    have hC : C < 18446744073709551616 := by omega
    have hi1 := (inB_iff (A : Int)).2 ⟨by omega, ha1⟩
    have hi2 := (inB_iff (B : Int)).2 ⟨by omega, hb1⟩
    have hi3 := (inB_iff (C : Int)).2 ⟨by omega, hc2⟩
    have hmd : decide (min (A : Int) (B : Int) < 0) = false := decide_eq_false (by omega)
    have sz : ∀ (n : Nat), (n : Int) ≤ 1000000000000 → ∀ w, Calls Try.prog 27 #[.int .i64 n] w fun e w' => e = .returned (.int .u64 (n : Int)) ∧ w = w' := fun n h => size_any n (by omega) h
    have Hs1 := Lib.hid (sz A ha1)
    have Hs2 := Lib.hid (sz B hb1)
    have Hs3 := Lib.hid (sz C hc2)
    have hb := Below.refl w.heap.size w
    have Hm := Lib.hid hm
    clear sz hm
    go_enter Try.func23, Try.ntmps23
    go_upto_region 6 with (first
        | (go_at_call 24; refine (cin_any _ _).mono ?_; rintro e w' ⟨rfl, rfl⟩)
        | (go_at_call 27; refine (Hs1.out _).mono ?_; rintro e w' ⟨rfl, rfl⟩)
        | (go_at_call 27; refine (Hs2.out _).mono ?_; rintro e w' ⟨rfl, rfl⟩)
        | (go_at_call 26; refine (product_shut A B hA hB _).mono ?_; rintro e w1 ⟨h, l, rfl, hhl, b1⟩; replace hb := hb.trans (b1.mono hb.size)))
    obtain ⟨W, hW⟩ : ∃ W, W = w1.alloc (Obj.cells #[Value.int IntKind.u64 h, Value.int IntKind.u64 l] 52) := ⟨_, rfl⟩
    have hbW : Below w.heap.size w W := by rw [hW]; exact hb.alloc hb.size _
    have hlt : w1.heap.size < W.heap.size := by rw [hW]; simp
    have c0 : W.cell? ⟨w1.heap.size, 0, none⟩ = some (.int .u64 h) := by rw [hW]; go_simp
    have c1 : W.cell? ⟨w1.heap.size, 1, none⟩ = some (.int .u64 l) := by rw [hW]; go_simp
    rw [← hW]
    clear hW
    go_cut [43] (fun v wx => v = .bool (decide (C * 1000000000001 ≤ A * B)) ∧ Below W.heap.size W wx)
    case first =>
      have hk := (Below.refl W.heap.size W).drew
      go_region_with (first
        | (go_at_call 27; refine (Hs3.out _).mono ?_; rintro e w' ⟨rfl, rfl⟩)
        | (go_at_call 26; refine (product_shut C 1000000000001 hC (by omega) _).mono ?_; rintro e w2 ⟨h2, l2, rfl, hhl2, b2⟩; replace hk := hk.trans (b2.mono hk.size); have k0 := (hk.cell (p := ⟨w1.heap.size, 0, none⟩) hlt).trans c0; have k1 := (hk.cell (p := ⟨w1.heap.size, 1, none⟩) hlt).trans c1)
        | (go_at_call 28; refine (rising_shut w2.heap.size 2 (C * 1000000000001) (A * B) h2 l2 h l _ hhl2.out hhl.out (by go_simp) (by go_simp) (by go_simp) (by go_simp)).mono ?_; rintro e w3 ⟨rfl, b3⟩; replace hk := (hk.alloc hk.size _).trans (b3.mono (hk.alloc hk.size _).size)))
      all_goals (go_wp2_with fail; go_meet; exact ⟨rfl, hk⟩)
    case rest =>
      obtain ⟨hv, hk⟩ := hcut
      have hb2 := hbW.trans (hk.mono hbW.size)
      by_cases hov : C * 1000000000001 ≤ A * B
      · have hd : decide (C * 1000000000001 ≤ A * B) = true := decide_eq_true hov
        rw [hd] at hv
        subst hv
        have hq := divide_over hc1 hov
        have hf := floor_over (a := (A : Int)) (b := (B : Int)) (c := (C : Int)) Hm.out hq
        have hr := rest_bad (a := (A : Int)) (b := (B : Int)) (c := (C : Int)) (by rw [hf.1]; omega)
        have He : Hid (floorV (A : Int) B C = 0 ∧ restV (A : Int) B C = 0 ∧ floorE (A : Int) B C = 8) := Lib.hid ⟨hf.2, hr, hf.1⟩
        clear hf hr hq hov hd
        go_wp2_with fail
        go_ret3
        exact ⟨by rw [He.out.1, He.out.2.1, He.out.2.2]; rfl, hb2⟩
      · have hd : decide (C * 1000000000001 ≤ A * B) = false := decide_eq_false hov
        rw [hd] at hv
        subst hv
        obtain ⟨hq1, hq2, hq3, hq4⟩ := divide_fine hc1 hc2 hov
        have hf := floor_fine (a := (A : Int)) (b := (B : Int)) (c := (C : Int)) Hm.out hq2
        have hr : restV (A : Int) B C = ((A * B % C : Nat) : Int) := by unfold restV; rw [if_pos hf.1]; rw [Int.natCast_emod, Int.natCast_mul]
        have He : Hid (floorV (A : Int) B C = ((A * B / C : Nat) : Int) ∧ restV (A : Int) B C = ((A * B % C : Nat) : Int) ∧ floorE (A : Int) B C = 0) := Lib.hid ⟨by rw [hf.2, Int.natCast_ediv, Int.natCast_mul], hr, hf.1⟩
        have k0 := (hk.cell (p := ⟨w1.heap.size, 0, none⟩) hlt).trans c0
        have k1 := (hk.cell (p := ⟨w1.heap.size, 1, none⟩) hlt).trans c1
        have Hdiv := Lib.hid (fun w => div_named A B C h l w hhl.out hq1 hC)
        clear hq2 hf hr hov hq1 hd
        obtain ⟨Q, hQ⟩ : ∃ Q, Q = A * B / C := ⟨_, rfl⟩
        obtain ⟨R, hR⟩ : ∃ R, R = A * B % C := ⟨_, rfl⟩
        rw [← hQ, ← hR] at He Hdiv
        rw [← hQ] at hq3
        rw [← hR] at hq4
        clear hQ hR
        have Hq3 : Hid (∀ w, Calls Try.prog 27 #[.int .i64 C] w fun e w' => e = .returned (.int .u64 (C : Int)) ∧ w' = w) := Lib.hid (fun w => (Hs3.out w).mono fun _ _ h => ⟨h.1, h.2.symm⟩)
        go_upto_region 8 with fail
        go_quiet (first
          | (go_at_call 27; exact Calls.quiet_of_same (Hq3.out _))
          | (go_at_call 29; exact Calls.quiet_of (Hdiv.out _)))
        go_wp2_with fail
        go_ret3
        exact ⟨by rw [He.out.1, He.out.2.1, He.out.2.2]; rfl, below_drawn hb2 _⟩
  · have hf := floor_bad (a := a) (b := b) (c := c) (by omega)
    have hr := rest_bad (a := a) (b := b) (c := c) (by omega)
    have He : Hid (floorV a b c = 0 ∧ restV a b c = 0 ∧ floorE a b c = 2) := Lib.hid ⟨hf.2, hr, by rw [hf.1, hm]⟩
    clear hf hr hm
    go_enter Try.func23, Try.ntmps23
    go_wp2_with fail
    go_ret3
    exact ⟨by rw [He.out.1, He.out.2.1, He.out.2.2]; rfl, Below.refl _ _⟩
  · have hf := floor_bad (a := a) (b := b) (c := c) (by omega)
    have hr := rest_bad (a := a) (b := b) (c := c) (by omega)
    have He : Hid (floorV a b c = 0 ∧ restV a b c = 0 ∧ floorE a b c = 8) := Lib.hid ⟨hf.2, hr, by rw [hf.1, hm]⟩
    have Hm := Lib.hid hm
    clear hf hr hm
    by_cases hmin : min a b < 0
    · have hmd : decide (min a b < 0) = true := decide_eq_true hmin
      clear hmin
      go_enter Try.func23, Try.ntmps23
      go_wp2_with fail
      go_ret3
      exact ⟨by rw [He.out.1, He.out.2.1, He.out.2.2]; rfl, Below.refl _ _⟩
    · have hmd : decide (min a b < 0) = false := decide_eq_false hmin
      cases ha : inB a with
      | false =>
        clear hmin
        go_enter Try.func23, Try.ntmps23
        go_wp2_with (go_at_call 24; refine (cin_any _ _).mono ?_; rintro e w' ⟨rfl, rfl⟩)
        go_ret3
        exact ⟨by rw [He.out.1, He.out.2.1, He.out.2.2]; rfl, Below.refl _ _⟩
      | true =>
        cases hb : inB b with
        | false =>
          clear hmin
          go_enter Try.func23, Try.ntmps23
          go_wp2_with (go_at_call 24; refine (cin_any _ _).mono ?_; rintro e w' ⟨rfl, rfl⟩)
          go_ret3
          exact ⟨by rw [He.out.1, He.out.2.1, He.out.2.2]; rfl, Below.refl _ _⟩
        | true =>
          have hcf : inB c = false := by
            have h1 := (inB_iff a).1 ha
            have h2 := (inB_iff b).1 hb
            have h3 := Hm.out
            unfold mayE at h3
            unfold inB
            rw [decide_eq_false_iff_not]
            split at h3
            · omega
            · split at h3 <;> omega
          clear hmin
          go_enter Try.func23, Try.ntmps23
          go_wp2_with (go_at_call 24; refine (cin_any _ _).mono ?_; rintro e w' ⟨rfl, rfl⟩)
          go_ret3
          exact ⟨by rw [He.out.1, He.out.2.1, He.out.2.2]; rfl, Below.refl _ _⟩

/-- How the two roundings hang together. -/
theorem half_by (a b c : Int) :
    (floorE a b c ≠ 0 ∧ halfV a b c = 0 ∧ halfE a b c = floorE a b c) ∨
    (floorE a b c = 0 ∧ 0 ≤ floorV a b c ∧ floorV a b c ≤ 1000000000000 ∧ 0 ≤ restV a b c ∧ restV a b c < c ∧ c ≤ 1000000000000 ∧
      ((c ≤ 2 * restV a b c ∧ inB (floorV a b c + 1) = true ∧ halfV a b c = floorV a b c + 1 ∧ halfE a b c = 0) ∨
       (c ≤ 2 * restV a b c ∧ inB (floorV a b c + 1) = false ∧ halfV a b c = 0 ∧ halfE a b c = 8) ∨
       (2 * restV a b c < c ∧ inB (floorV a b c) = true ∧ halfV a b c = floorV a b c ∧ halfE a b c = 0))) := by
  by_cases hm : mayE a b c = 0
  · have hok : mayOk a b c := by rcases may_three a b c with h | h | h <;> first | exact h.2 | omega
    have hq0 := quo_nonneg hok
    obtain ⟨hr0, hr1⟩ := rem_bd hok
    by_cases hq : a * b / c ≤ 1000000000000
    · obtain ⟨hf, hv⟩ := floor_fine hm hq
      have hr : restV a b c = a * b % c := by unfold restV; rw [if_pos hf]
      refine Or.inr ⟨hf, by omega, by omega, by omega, by omega, hok.2.2.2.2.2, ?_⟩
      rw [hr, hv]
      by_cases hcr : c ≤ 2 * (a * b % c)
      · have hn : halfN a b c = a * b / c + 1 := by unfold halfN; rw [if_pos hcr]
        by_cases h1 : a * b / c + 1 ≤ 1000000000000
        · obtain ⟨h2, h3⟩ := half_fine hm (by rw [hn]; exact h1)
          exact Or.inl ⟨hcr, (inB_iff _).2 ⟨by omega, h1⟩, by rw [h3, hn], h2⟩
        · obtain ⟨h2, h3⟩ := half_over hm (by rw [hn]; omega)
          exact Or.inr (Or.inl ⟨hcr, by unfold inB; rw [decide_eq_false_iff_not]; omega, h3, h2⟩)
      · have hn : halfN a b c = a * b / c := by unfold halfN; rw [if_neg hcr]
        obtain ⟨h2, h3⟩ := half_fine hm (by rw [hn]; exact hq)
        exact Or.inr (Or.inr ⟨by omega, (inB_iff _).2 ⟨by omega, hq⟩, by rw [h3, hn], h2⟩)
    · obtain ⟨hf, hv⟩ := floor_over hm (by omega)
      have hn : 1000000000000 < halfN a b c := by unfold halfN; split <;> omega
      obtain ⟨h2, h3⟩ := half_over hm hn
      exact Or.inl ⟨by omega, h3, by omega⟩
  · have h1 := floor_bad hm
    have h2 := half_bad hm
    exact Or.inl ⟨by omega, h2.2, by rw [h2.1, h1.1]⟩
set_option maxHeartbeats 1000000 in
theorem chalf_any (a b c : Int) (w : World) : Calls Try.prog 18 #[.int .i64 a, .int .i64 b, .int .i64 c] w fun e w' => e = .returned (.tuple #[.int .i64 (halfV a b c), .int .i64 (halfE a b c)]) ∧ Below w.heap.size w w' := by
  have Hh := Lib.hid (half_by a b c)
  have HD : Hid (∀ w, Calls Try.prog 23 #[.int .i64 a, .int .i64 b, .int .i64 c] w fun e w' => e = .returned (.tuple #[.int .i64 (floorV a b c), .int .i64 (restV a b c), .int .i64 (floorE a b c)]) ∧ Below w.heap.size w w') := Lib.hid (divide_any a b c)
  generalize floorV a b c = q at *
  generalize restV a b c = r at *
  generalize floorE a b c = f at *
  rcases Hh.out with ⟨hf, hv, he⟩ | ⟨hf, hq0, hq1, hr0, hr1, hc2, hrest⟩
  · have Hv : Hid (halfV a b c = 0 ∧ halfE a b c = f) := Lib.hid ⟨hv, he⟩
    have hd : (f != 0) = true := by rw [bne_iff_ne]; exact hf
    clear hf hv he Hh
    go_enter Try.func18, Try.ntmps18
    go_wp2_with (go_at_call 23; refine (HD.out _).mono ?_; rintro e w' ⟨rfl, b1⟩)
    go_ret2
    exact ⟨by rw [Hv.out.1, Hv.out.2]; rfl, b1⟩
  · have hd : (f != 0) = false := by rw [hf]; rfl
    rcases hrest with ⟨hcr, hi, hv, he⟩ | ⟨hcr, hi, hv, he⟩ | ⟨hcr, hi, hv, he⟩
    · have Hv : Hid (halfV a b c = q + 1 ∧ halfE a b c = 0) := Lib.hid ⟨hv, he⟩
      clear hf hv he Hh
      go_enter Try.func18, Try.ntmps18
      go_wp2_with (first
        | (go_at_call 23; refine (HD.out _).mono ?_; rintro e w' ⟨rfl, b1⟩)
        | (go_at_call 24; refine (cin_any _ _).mono ?_; rintro e w' ⟨rfl, rfl⟩))
      go_ret2
      exact ⟨by rw [Hv.out.1, Hv.out.2]; rfl, b1⟩
    · have Hv : Hid (halfV a b c = 0 ∧ halfE a b c = 8) := Lib.hid ⟨hv, he⟩
      clear hf hv he Hh
      go_enter Try.func18, Try.ntmps18
      go_wp2_with (first
        | (go_at_call 23; refine (HD.out _).mono ?_; rintro e w' ⟨rfl, b1⟩)
        | (go_at_call 24; refine (cin_any _ _).mono ?_; rintro e w' ⟨rfl, rfl⟩))
      go_ret2
      exact ⟨by rw [Hv.out.1, Hv.out.2]; rfl, b1⟩
    · have Hv : Hid (halfV a b c = q ∧ halfE a b c = 0) := Lib.hid ⟨hv, he⟩
      clear hf hv he Hh
      go_enter Try.func18, Try.ntmps18
      go_wp2_with (first
        | (go_at_call 23; refine (HD.out _).mono ?_; rintro e w' ⟨rfl, b1⟩)
        | (go_at_call 24; refine (cin_any _ _).mono ?_; rintro e w' ⟨rfl, rfl⟩))
      go_ret2
      exact ⟨by rw [Hv.out.1, Hv.out.2]; rfl, b1⟩
end Go.Proofs.Ytbhdjpohplpjdaa
