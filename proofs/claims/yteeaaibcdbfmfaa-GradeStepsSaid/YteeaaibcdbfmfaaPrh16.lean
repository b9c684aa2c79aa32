/- The program's chosen, Failed, Score and Worst: for every slice of numbers, in every world. -/
import Derived.Test.YteeaaibcdbfmfaaPrg16
import Derived.BigQuiet
namespace Go.Proofs.Yteeaaibcdbfmfaa
open Go.RowKit

theorem int_box (w : World) (m : Int) : (w.alloc (.cells #[.int .i64 m] 3)).cell? ⟨w.heap.size, 0, none⟩ = some (.int .i64 m) := lit_cell w #[.int .i64 m] _ 0 _ rfl
theorem box_below {w wr : World} {m : Int} {t : TypeId} (h : Below (w.alloc (.cells #[.int .i64 m] t)).heap.size (w.alloc (.cells #[.int .i64 m] t)) wr) : Below w.heap.size w wr :=
  (lit16 w _).trans (h.mono (lit16 w _).size)
set_option maxHeartbeats 2000000 in
theorem pchosen16_any (n : Nat) (hn : n ≤ 8) (b M : Nat) (w : World) (hb : b < w.heap.size) (hc : w.cell? ⟨b, 0, none⟩ = some (.int .i64 (M : Int))) :
    Calls Try.prog 36 #[.int .i64 (n : Int), .func (.func 35) #[] #[.pointer (some ⟨b, 0, none⟩)]] w fun e w' => ∃ a c, e = .returned (.slice a (noesTo (M : Int) n).length c) ∧ (noesTo (M : Int) n).length ≤ c ∧ Ints w'.heap.size w' a (noesTo (M : Int) n) ∧ Below w.heap.size w w' := by
  have HB : Hid (∀ W, Below w.heap.size w W → W.cell? ⟨b, 0, none⟩ = some (.int .i64 (M : Int))) := Lib.hid fun W h => (h.cell (p := ⟨b, 0, none⟩) hb).trans hc
  have HNO : Hid (∀ (k : Nat) (W : World), k < 8 → Below w.heap.size w W → Calls Try.prog 35 #[.int .i64 (k : Int), .pointer (some ⟨b, 0, none⟩)] W fun e w' => e = .returned (.bool (!yesN M k)) ∧ W = w') := Lib.hid fun k W h1 h2 => pno16_any b M k W h1 (HB.out W h2)
  clear hb hc HB
  go_enter Try.func36, Try.ntmps36
  go_wp2
  go_loopw [5, 8] (fun s5 s8 wr => ∃ (k : Nat) (a8 : Option Addr) (c8 : Nat) (ys : List Int), s5 = .slice a8 ys.length c8 ∧ s8 = .int .i64 k ∧ k ≤ n ∧ Hid (Nums16 w wr a8 c8 ys) ∧ Hid (ys = noesTo M k)) (fun _ i _ => 9 - (intOf i).toNat)
  case atStart => exact ⟨0, none, 0, [], rfl, rfl, Nat.zero_le _, Lib.hid (Nums16.start w), Lib.hid rfl⟩
  case round =>
    obtain ⟨k, a8, c8, ys, rfl, rfl, hk, HO, HY⟩ := hrel
    by_cases hlt : k < n
    · have i1 : (k : Int) < (n : Int) := by omega
      have i3 : (0 : Int) ≤ (k : Int) := by omega
      have hyl : ys.length ≤ 1000000 := by have := noes_len (M : Int) k; rw [← HY.out] at this; omega
      have hkk : k + 1 ≤ n := hlt
      have hk9 : k < 9 := by omega
      have hy := HNO.out k wr (by omega) HO.out.below
      clear hlt
      cases hb : yesN M k with
      | false =>
        have HQ : Hid (ys ++ [(k : Int)] = noesTo M (k + 1)) := Lib.hid (by rw [noesTo, hb, if_neg (by simp), HY.out])
        rw [hb] at hy
        clear hb
        go_wp2_with (first
          | (go_at_call 35; refine hy.mono ?_; rintro e w3 ⟨rfl, rfl⟩)
          | (at_builtin; refine append_nums rfl _ _ rfl a8 c8 ys rfl HO.out (k : Int) rfl hyl ?_))
        intro a7 c7 V7 ts hts' hO7
        have hts := hts'.out
        clear hts'
        have HO7 := Lib.hid hO7
        rw [← hts] at HQ
        clear hO7 hts
        go_wp2
        go_roundw
        case rel => exact ⟨k + 1, a7, c7, ts, rfl, by first | rfl | go_num, hkk, HO7, HQ⟩
        case measure => first | (simp [intOf]; omega) | simp [intOf]
      | true =>
        have HQ : Hid (ys = noesTo M (k + 1)) := Lib.hid (by rw [noesTo, hb, if_pos rfl, HY.out])
        rw [hb] at hy
        clear hb
        go_wp2_with (go_at_call 35; refine hy.mono ?_; rintro e w3 ⟨rfl, rfl⟩)
        go_roundw
        case rel => exact ⟨k + 1, a8, c8, ys, rfl, by first | rfl | go_num, hkk, HO, HQ⟩
        case measure => first | (simp [intOf]; omega) | simp [intOf]
    · obtain rfl : k = n := by omega
      have HYL := Lib.hid (congrArg List.length HY.out)
      go_wp2
      go_ret
      rw [← HY.out]
      exact ⟨a8, c8, rfl, HO.out.ints.1, HO.out.ints.2, HO.out.below⟩
set_option maxHeartbeats 2000000 in
theorem pfailed16_any (a : Option Addr) (cap : Nat) (xs : List Int) (m : Int) (w : World) (hx : Ints w.heap.size w a xs) (hn : xs.length ≤ 1000000) :
    Calls Try.prog 33 #[.slice a xs.length cap, .int .i64 m] w fun e w' => Gives16 w e w' (failV xs m) (failE xs m) := by
  have HF := Lib.hid (pcheck16_any a cap xs _ (w.alloc (.cells #[.int .i64 m] 3)) (hx.lit _) hn)
  have c0 := int_box w m
  clear hx
  by_cases hA : ¬ Asks xs
  · rw [asks_no hA] at HF
    rw [(fail_no hA).1, (fail_no hA).2]
    clear hA
    go_enter Try.func33, Try.ntmps33
    go_wp2_with (go_at_call 17; refine HF.out.mono ?_; rintro e w2 ⟨rfl, rfl⟩)
    go_ret2
    exact ⟨none, 0, rfl, Nat.le_refl _, Or.inl rfl, lit16 _ _⟩
  have hA := Decidable.not_not.1 hA
  rw [asks_yes hA] at HF
  have h8 := hA.2.1
  have h0 := hA.1
  by_cases hm : m < 0
  · have d1 : decide (m < 0) = true := decide_eq_true hm
    have hout : ¬ InA xs m := fun q => by have := q.1; omega
    rw [(fail_out hA hout).1, (fail_out hA hout).2]
    clear hA hm hout
    go_enter Try.func33, Try.ntmps33
    go_upto_region 4 with (go_at_call 17; refine HF.out.mono ?_; rintro e w2 ⟨rfl, rfl⟩)
    go_quiet (fail)
    go_wp2
    go_ret2
    exact ⟨none, 0, rfl, Nat.le_refl _, Or.inl rfl, box_below (drawn16 _ _)⟩
  have d1 : decide (m < 0) = false := decide_eq_false hm
  obtain ⟨M, rfl⟩ : ∃ n : Nat, m = n := ⟨m.toNat, by omega⟩
  obtain ⟨P, hP⟩ : ∃ P, 2 ^ xs.length = P + 1 := ⟨2 ^ xs.length - 1, by have := Nat.two_pow_pos xs.length; omega⟩
  have hin : InA xs (M : Int) ↔ ¬ (P : Int) < (M : Int) := by
    unfold InA
    rw [hP]
    omega
  have HA : Hid (∀ q, Calls Try.prog 34 #[.int .i64 (xs.length : Int)] ((w.alloc (.cells #[.int .i64 (M : Int)] 3)).drewN q) fun e w' => e = .returned (.int .i64 (P : Int)) ∧ w' = (w.alloc (.cells #[.int .i64 (M : Int)] 3)).drewN q) := Lib.hid fun q => (pall16_any xs.length P (by omega) h8 hP _).mono fun _ _ h => ⟨h.1, h.2.symm⟩
  by_cases hlt : (P : Int) < (M : Int)
  · have d2 : decide ((P : Int) < (M : Int)) = true := decide_eq_true hlt
    have d2' : decide (P < M) = true := decide_eq_true (by omega)
    have hout : ¬ InA xs (M : Int) := fun q => hin.1 q hlt
    rw [(fail_out hA hout).1, (fail_out hA hout).2]
    clear hA hm hout hin hP hlt h8 h0
    go_enter Try.func33, Try.ntmps33
    go_upto_region 4 with (go_at_call 17; refine HF.out.mono ?_; rintro e w2 ⟨rfl, rfl⟩)
    go_quiet ((go_at_call 34; refine Calls.quiet_of_same (HA.out _)))
    go_wp2
    go_ret2
    exact ⟨none, 0, rfl, Nat.le_refl _, Or.inl rfl, box_below (drawn16 _ _)⟩
  have d2 : decide ((P : Int) < (M : Int)) = false := decide_eq_false hlt
  have d2' : decide (P < M) = false := decide_eq_false (by omega)
  have hin2 : InA xs (M : Int) := hin.2 hlt
  rw [(fail_yes hA hin2).1, (fail_yes hA hin2).2]
  have HC : Hid (∀ q, Calls Try.prog 36 #[.int .i64 (xs.length : Int), .func (.func 35) #[] #[.pointer (some ⟨w.heap.size, 0, none⟩)]] ((w.alloc (.cells #[.int .i64 (M : Int)] 3)).drewN q) fun e w' => ∃ a c, e = .returned (.slice a (noesTo (M : Int) xs.length).length c) ∧ (noesTo (M : Int) xs.length).length ≤ c ∧ Ints w'.heap.size w' a (noesTo (M : Int) xs.length) ∧ Below w.heap.size w w') := Lib.hid fun q => by
    refine (pchosen16_any xs.length h8 w.heap.size M ((w.alloc (.cells #[.int .i64 (M : Int)] 3)).drewN q) (by simp) c0).mono ?_
    rintro e w' ⟨a, c, h1, h2, h3, h4⟩
    exact ⟨a, c, h1, h2, h3, box_below ((drawn16 _ q).trans (h4.mono (drawn16 _ q).size))⟩
  clear hA hm hin hin2 hP hlt h8 h0
  generalize noesTo (M : Int) xs.length = ns at *
  go_enter Try.func33, Try.ntmps33
  go_upto_region 4 with (go_at_call 17; refine HF.out.mono ?_; rintro e w2 ⟨rfl, rfl⟩)
  go_quiet ((go_at_call 34; refine Calls.quiet_of_same (HA.out _)))
  go_wp2_with (go_at_call 36; refine (HC.out _).mono ?_; rintro e w3 ⟨a3, c3, rfl, h2, h3, h4⟩; have HR := Lib.hid (And.intro h2 (And.intro h3 h4)); clear h2 h3 h4)
  go_ret2
  exact ⟨a3, c3, rfl, HR.out.1, HR.out.2.1, HR.out.2.2⟩
set_option maxHeartbeats 1000000 in
theorem pscore16_any (a : Option Addr) (cap : Nat) (xs : List Int) (m : Int) (w : World) (hx : Ints w.heap.size w a xs) (hn : xs.length ≤ 1000000) :
    Calls Try.prog 30 #[.slice a xs.length cap, .int .i64 m] w fun e w' => e = .returned (.tuple #[.int .i64 (scoreV xs m), .int .i64 (failE xs m)]) ∧ Below w.heap.size w w' := by
  have HF := Lib.hid (pfailed16_any a cap xs m w hx hn)
  have HX := Lib.hid hx
  by_cases hE : failE xs m ≠ 0
  · have d1 : (failE xs m != 0) = true := by rw [bne_iff_ne]; exact hE
    have HV := Lib.hid (fail_off hE)
    rw [HV.out.1] at HF
    clear hE hx
    generalize failE xs m = E at *
    go_enter Try.func30, Try.ntmps30
    go_wp2_with (go_at_call 33; refine HF.out.mono ?_; rintro e w2 ⟨a2, c2, rfl, hc2, hi2, hb2⟩; have HB := Lib.hid hb2; clear hc2 hi2 hb2)
    go_ret2
    exact ⟨by rw [HV.out.2]; rfl, HB.out⟩
  have hE := Decidable.not_not.1 hE
  have HS : Hid (scoreV xs m = sumF xs (failV xs m)) := Lib.hid rfl
  have HL := Lib.hid (failV_len (a := m) hn)
  have HW := Lib.hid (failV_within xs m)
  have HA : Hid (0 < (failV xs m).length → Asks xs) := Lib.hid failV_asks
  clear hx
  rw [hE] at HF ⊢
  clear hE
  generalize failV xs m = fs at *
  go_enter Try.func30, Try.ntmps30
  go_wp2_with (go_at_call 33; refine HF.out.mono ?_; rintro e w2 ⟨a2, c2, rfl, hc2, hi2, hb2⟩; have HI := Lib.hid hi2; have HB := Lib.hid hb2; clear hc2 hi2 hb2)
  go_loopw [8, 22] (fun s8 s9 wr => ∃ k : Nat, s8 = .int .i64 (sumF xs (fs.take k)) ∧ s9 = .int .i64 k ∧ wr = w2 ∧ k ≤ fs.length) (fun _ i _ => fs.length - (intOf i).toNat)
  case atStart => exact ⟨0, rfl, rfl, rfl, by omega⟩
  case round =>
    obtain ⟨k, rfl, rfl, rfl, hk⟩ := hrel
    by_cases hlt : k < fs.length
    · have hA := HA.out (by omega)
      have hl := HL.out
      have h8 := hA.2.1
      have hs := sum_take_small hA.2.2 HW.out k hk
      have hs2 := sum_take_small hA.2.2 HW.out (k + 1) (by omega)
      have hst := sum_take xs fs hlt
      obtain ⟨j, hj, hjn⟩ := HW.out k hlt
      rcases HI.out with h | ⟨b2, o2, rfl, _, hc2⟩
      · exfalso; rw [h] at hlt; simp at hlt
      rcases HX.out.below HB.out with h | ⟨b, off, rfl, _, hc⟩
      · exfalso; rw [h] at hjn; simp at hjn
      have c2 := hc2 k hlt
      have c0 := hc j hjn
      rw [hj, Int.toNat_natCast] at hst
      rw [hj] at c2
      have i1 : (k : Int) < (fs.length : Int) := by omega
      have i3 : (0 : Int) ≤ (k : Int) := by omega
      have i4 : (j : Int) < (xs.length : Int) := by omega
      have i5 : (0 : Int) ≤ (j : Int) := by omega
      have e1 : IntKind.i64.wrap (sumF xs (fs.take k) + numAt xs j) = sumF xs (fs.take (k + 1)) := by rw [← hst]; exact IntWalk.i64_in _ (by omega)
      clear hst hs hs2 hc hc2 hA hj
      go_wp2
      go_roundw
      case rel => exact ⟨k + 1, by first | rfl | trivial, by first | go_num | trivial, by first | rfl | trivial, by omega⟩
      case measure => simp [intOf]; omega
    · obtain rfl : k = fs.length := by omega
      go_wp2
      go_ret2
      exact ⟨by rw [HS.out, List.take_length]; rfl, HB.out⟩
theorem worst_score (xs : List Int) : scoreV xs 0 = worstV xs := by
  unfold scoreV worstV
  by_cases h : Asks xs
  · have h2 : InA xs 0 := ⟨Int.le_refl _, by have := Nat.two_pow_pos xs.length; omega⟩
    rw [(fail_yes h h2).2, if_pos h, sum_none]
  · rw [(fail_no h).2, if_neg h]; rfl
end Go.Proofs.Yteeaaibcdbfmfaa
