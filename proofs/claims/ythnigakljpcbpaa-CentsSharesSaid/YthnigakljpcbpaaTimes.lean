/- The program's checked arithmetic: what In, Add, Sub and Times return, for all numbers and rows of numbers, in every world. -/
import Derived.Test.YthnigakljpcbpaaWide
import Derived.Test.YthnigakljpcbpaaAdd
import Derived.OwnWalk
import Derived.Deep.RegionWith
namespace Go.Proofs.Ythnigakljpcbpaa
open Go.RowKit

theorem cin_any (n : Int) (w : World) : Calls Try.prog 14 #[.int .i64 n] w fun e w' => e = .returned (.bool (inB n)) ∧ w = w' := by
  by_cases h1 : -1000000000000 ≤ n
  · by_cases h2 : n ≤ 1000000000000
    · have He := Lib.hid ((inB_iff n).2 ⟨h1, h2⟩)
      go_enter Try.func14, Try.ntmps14
      go_wp2
      go_ret
      exact ⟨by rw [He.out]; rfl, rfl⟩
    · have He : Hid (inB n = false) := Lib.hid (by unfold inB; rw [decide_eq_false_iff_not]; omega)
      have h2' : 1000000000000 < n := by omega
      have h2d : decide (n ≤ 1000000000000) = false := by rw [decide_eq_false_iff_not]; omega
      clear h2
      go_enter Try.func14, Try.ntmps14
      go_wp2
      go_ret
      exact ⟨by rw [He.out]; rfl, rfl⟩
  · have He : Hid (inB n = false) := Lib.hid (by unfold inB; rw [decide_eq_false_iff_not]; omega)
    have h1' : n < -1000000000000 := by omega
    clear h1
    go_enter Try.func14, Try.ntmps14
    go_wp2
    go_ret
    exact ⟨by rw [He.out]; rfl, rfl⟩

theorem csub_any (a b : Int) (w : World) : Calls Try.prog 10 #[.int .i64 a, .int .i64 b] w fun e w' => e = .returned (.tuple #[.int .i64 (subV a b), .int .i64 (subE a b)]) ∧ Below w.heap.size w w' := by
  cases ha : inB a with
  | false =>
    have He : Hid (subV a b = 0 ∧ subE a b = 8) := Lib.hid (by unfold subV subE subOk; rw [ha]; exact ⟨rfl, rfl⟩)
    go_enter Try.func10, Try.ntmps10
    go_wp2_with (go_at_call 14; refine (cin_any _ _).mono ?_; rintro e w' ⟨rfl, rfl⟩)
    go_ret2
    exact ⟨by rw [He.out.1, He.out.2]; rfl, Below.refl _ _⟩
  | true =>
    obtain ⟨ha3, ha4⟩ := (inB_iff a).1 ha
    cases hb : inB b with
    | false =>
      have He : Hid (subV a b = 0 ∧ subE a b = 8) := Lib.hid (by unfold subV subE subOk; rw [ha, hb]; exact ⟨rfl, rfl⟩)
      go_enter Try.func10, Try.ntmps10
      go_wp2_with (go_at_call 14; refine (cin_any _ _).mono ?_; rintro e w' ⟨rfl, rfl⟩)
      go_ret2
      exact ⟨by rw [He.out.1, He.out.2]; rfl, Below.refl _ _⟩
    | true =>
      obtain ⟨hb3, hb4⟩ := (inB_iff b).1 hb
      cases hc : inB (a - b) with
      | false =>
        have He : Hid (subV a b = 0 ∧ subE a b = 8) := Lib.hid (by unfold subV subE subOk; rw [ha, hb, hc]; exact ⟨rfl, rfl⟩)
        go_enter Try.func10, Try.ntmps10
        go_wp2_with (go_at_call 14; refine (cin_any _ _).mono ?_; rintro e w' ⟨rfl, rfl⟩)
        go_ret2
        exact ⟨by rw [He.out.1, He.out.2]; rfl, Below.refl _ _⟩
      | true =>
        have He : Hid (subV a b = a - b ∧ subE a b = 0) := Lib.hid (by unfold subV subE subOk; rw [ha, hb, hc]; exact ⟨rfl, rfl⟩)
        go_enter Try.func10, Try.ntmps10
        go_wp2_with (go_at_call 14; refine (cin_any _ _).mono ?_; rintro e w' ⟨rfl, rfl⟩)
        go_ret2
        exact ⟨by rw [He.out.1, He.out.2]; rfl, Below.refl _ _⟩

set_option maxHeartbeats 1000000 in
theorem cadd_some (b off cap : Nat) (xs : List Int) (w : World) (hn : xs.length ≤ 4611686018427387904) (hc : ∀ j, j < xs.length → w.cell? ⟨b, off + j, none⟩ = some (.int .i64 (numAt xs j))) :
    Calls Try.prog 8 #[.slice (some ⟨b, off, none⟩) xs.length cap] w fun e w' => e = .returned (.tuple #[.int .i64 (addV xs), .int .i64 (addE xs)]) ∧ w = w' := by
  have HC := Lib.hid hc
  clear hc
  go_enter Try.func8, Try.ntmps8
  go_wp2
  go_loop [4, 6, 9] (fun x _ i => ∃ (n : Int) (k : Nat), k ≤ xs.length ∧ i = .int .i64 k ∧ x = .int .i64 n ∧ -1000000000000 ≤ n ∧ n ≤ 1000000000000 ∧ Hid (addFrom n (xs.drop k) = addFrom 0 xs)) (fun _ _ i => xs.length - (intOf i).toNat)
  case atStart => exact ⟨0, 0, by omega, rfl, rfl, by omega, by omega, Lib.hid rfl⟩
  case round =>
    obtain ⟨n, k, hk, rfl, rfl, hn1, hn2, hr⟩ := hrel
    by_cases hlt : k < xs.length
    · have hcell := HC.out k hlt
      cases hx : inB (numAt xs k) with
      | false =>
        have He := Lib.hid (add_stop hlt hr.out (by rw [hx]; rfl))
        go_wp2_with (go_at_call 14; refine (cin_any _ _).mono ?_; rintro e w' ⟨rfl, rfl⟩)
        go_ret2
        exact ⟨by rw [He.out.1, He.out.2]; rfl, rfl⟩
      | true =>
        obtain ⟨hx1, hx2⟩ := (inB_iff _).1 hx
        cases hy : inB (n + numAt xs k) with
        | false =>
          have He := Lib.hid (add_stop hlt hr.out (by rw [hx, hy]; rfl))
          go_wp2_with (go_at_call 14; refine (cin_any _ _).mono ?_; rintro e w' ⟨rfl, rfl⟩)
          go_ret2
          exact ⟨by rw [He.out.1, He.out.2]; rfl, rfl⟩
        | true =>
          obtain ⟨hy1, hy2⟩ := (inB_iff _).1 hy
          have Hr := Lib.hid (add_go hlt hr.out (by rw [hx, hy]; rfl))
          go_wp2_with (go_at_call 14; refine (cin_any _ _).mono ?_; rintro e w' ⟨rfl, rfl⟩)
          go_round
          case rel => exact ⟨n + numAt xs k, k + 1, by omega, by go_num, rfl, hy1, hy2, Hr⟩
          case measure => simp [intOf]; omega
    · obtain rfl : k = xs.length := by omega
      have He := Lib.hid (add_end hr.out)
      go_wp2
      go_ret2
      exact ⟨by rw [He.out.1, He.out.2]; rfl, rfl⟩
theorem cadd_none (a : Option Addr) (cap : Nat) (w : World) :
    Calls Try.prog 8 #[.slice a 0 cap] w fun e w' => e = .returned (.tuple #[.int .i64 (addV []), .int .i64 (addE [])]) ∧ w = w' := by
  go_enter Try.func8, Try.ntmps8
  go_wp2
  go_loop [4, 6, 9] (fun x _ i => x = .int .i64 0 ∧ i = .int .i64 0) (fun _ _ _ => 0)
  case atStart => exact ⟨rfl, rfl⟩
  case round =>
    obtain ⟨rfl, rfl⟩ := hrel
    go_wp2
    go_ret2
    exact ⟨rfl, rfl⟩
theorem cadd_any (a : Option Addr) (cap : Nat) (xs : List Int) (w : World) (hn : xs.length ≤ 4611686018427387904) (ht : Ints w.heap.size w a xs) :
    Calls Try.prog 8 #[.slice a xs.length cap] w fun e w' => e = .returned (.tuple #[.int .i64 (addV xs), .int .i64 (addE xs)]) ∧ Below w.heap.size w w' := by
  rcases ht with rfl | ⟨b, off, rfl, hB, hc⟩
  · exact (cadd_none a cap w).mono fun _ _ h => ⟨h.1, h.2 ▸ Below.refl _ _⟩
  · exact (cadd_some b off cap xs w hn hc).mono fun _ _ h => ⟨h.1, h.2 ▸ Below.refl _ _⟩

theorem mul_says {a n : Int} (ha : inB a = true) (hn : inB n = true) :
    (decide (a.natAbs * n.natAbs ≤ 1000000000000) = true ∧ mulV a n = a * n ∧ mulE a n = 0 ∧ -1000000000000 ≤ a * n ∧ a * n ≤ 1000000000000) ∨ (decide (a.natAbs * n.natAbs ≤ 1000000000000) = false ∧ mulV a n = 0 ∧ mulE a n = 8) := by
  have e : (a * n).natAbs = a.natAbs * n.natAbs := Int.natAbs_mul a n
  by_cases h : a.natAbs * n.natAbs ≤ 1000000000000
  · have h2 : -1000000000000 ≤ a * n ∧ a * n ≤ 1000000000000 := by omega
    exact Or.inl ⟨decide_eq_true h, (mul_ok ha hn h2).1, (mul_ok ha hn h2).2, h2.1, h2.2⟩
  · have h2 := mul_no (a := a) (n := n) (by omega)
    exact Or.inr ⟨decide_eq_false h, h2.1, h2.2⟩

set_option maxHeartbeats 1000000 in
theorem ctimes_any (a n : Int) (w : World) : Calls Try.prog 12 #[.int .i64 a, .int .i64 n] w fun e w' => e = .returned (.tuple #[.int .i64 (mulV a n), .int .i64 (mulE a n)]) ∧ Below w.heap.size w w' := by
  cases ha : inB a with
  | false =>
    have He : Hid (mulV a n = 0 ∧ mulE a n = 8) := Lib.hid (by unfold mulV mulE mulOk; rw [ha]; exact ⟨rfl, rfl⟩)
    go_enter Try.func12, Try.ntmps12
    go_wp2_with (go_at_call 14; refine (cin_any _ _).mono ?_; rintro e w' ⟨rfl, rfl⟩)
    go_ret2
    exact ⟨by rw [He.out.1, He.out.2]; rfl, Below.refl _ _⟩
  | true =>
    obtain ⟨ha3, ha4⟩ := (inB_iff a).1 ha
    cases hn : inB n with
    | false =>
      have He : Hid (mulV a n = 0 ∧ mulE a n = 8) := Lib.hid (by unfold mulV mulE mulOk; rw [ha, hn]; exact ⟨rfl, rfl⟩)
      go_enter Try.func12, Try.ntmps12
      go_wp2_with (go_at_call 14; refine (cin_any _ _).mono ?_; rintro e w' ⟨rfl, rfl⟩)
      go_ret2
      exact ⟨by rw [He.out.1, He.out.2]; rfl, Below.refl _ _⟩
    | true =>
      obtain ⟨hn3, hn4⟩ := (inB_iff n).1 hn
      have hA : a.natAbs < 18446744073709551616 := by omega
      have hN : n.natAbs < 18446744073709551616 := by omega
      have Hms := Lib.hid (mul_says ha hn)
      have hb := Below.refl w.heap.size w
      obtain ⟨A, hAe⟩ : ∃ A, A = a.natAbs := ⟨_, rfl⟩
      obtain ⟨M, hMe⟩ : ∃ M, M = n.natAbs := ⟨_, rfl⟩
      rw [← hAe] at hA
      rw [← hMe] at hN
      have sz1 : ∀ w, Calls Try.prog 24 #[.int .i64 a] w fun e w' => e = .returned (.int .u64 (A : Int)) ∧ w = w' := by rw [hAe]; exact size_any a ha3 ha4
      have sz2 : ∀ w, Calls Try.prog 24 #[.int .i64 n] w fun e w' => e = .returned (.int .u64 (M : Int)) ∧ w = w' := by rw [hMe]; exact size_any n hn3 hn4
      have Hs1 := Lib.hid sz1
      have Hs2 := Lib.hid sz2
      rw [← hAe, ← hMe] at Hms
      clear sz1 sz2 hAe hMe
      rcases Hms.out with ⟨hd, hv, he, hp1, hp2⟩ | ⟨hd, hv, he⟩
      · have Hv := Lib.hid hv
        have He := Lib.hid he
        have hw : IntKind.i64.wrap (a * n) = a * n := IntWalk.i64_in _ (by omega)
        clear hv he Hms
        go_enter Try.func12, Try.ntmps12
        go_wp2_with (first
          | (go_at_call 14; refine (cin_any _ _).mono ?_; rintro e w' ⟨rfl, rfl⟩)
          | (go_at_call 24; refine (Hs1.out _).mono ?_; rintro e w' ⟨rfl, rfl⟩)
          | (go_at_call 24; refine (Hs2.out _).mono ?_; rintro e w' ⟨rfl, rfl⟩)
          | (go_at_call 23; refine (product_shut A M hA hN _).mono ?_; rintro e w1 ⟨h, l, rfl, hhl, b1⟩; replace hb := hb.trans (b1.mono hb.size))
          | (go_at_call 22; refine (rising_shut w1.heap.size 2 (A * M) 1000000000000 h l 0 1000000000000 _ hhl.out (by omega) (by go_simp) (by go_simp) (by go_simp) (by go_simp)).mono ?_; rintro e w2 ⟨rfl, b2⟩; replace hb := (hb.alloc hb.size _).trans (b2.mono (hb.alloc hb.size _).size)))
        go_ret2
        exact ⟨by rw [Hv.out, He.out]; rfl, hb⟩
      · have Hv := Lib.hid hv
        have He := Lib.hid he
        clear hv he Hms
        go_enter Try.func12, Try.ntmps12
        go_wp2_with (first
          | (go_at_call 14; refine (cin_any _ _).mono ?_; rintro e w' ⟨rfl, rfl⟩)
          | (go_at_call 24; refine (Hs1.out _).mono ?_; rintro e w' ⟨rfl, rfl⟩)
          | (go_at_call 24; refine (Hs2.out _).mono ?_; rintro e w' ⟨rfl, rfl⟩)
          | (go_at_call 23; refine (product_shut A M hA hN _).mono ?_; rintro e w1 ⟨h, l, rfl, hhl, b1⟩; replace hb := hb.trans (b1.mono hb.size))
          | (go_at_call 22; refine (rising_shut w1.heap.size 2 (A * M) 1000000000000 h l 0 1000000000000 _ hhl.out (by omega) (by go_simp) (by go_simp) (by go_simp) (by go_simp)).mono ?_; rintro e w2 ⟨rfl, b2⟩; replace hb := (hb.alloc hb.size _).trans (b2.mono (hb.alloc hb.size _).size)))
        go_ret2
        exact ⟨by rw [Hv.out, He.out]; rfl, hb⟩

end Go.Proofs.Ythnigakljpcbpaa
