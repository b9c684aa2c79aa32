/- The document's own Floor, Half and Rest, for all numbers and in every world. -/
import Derived.Test.YthnigakljpcbpaaDiv
namespace Go.Proofs.Ythnigakljpcbpaa
open Go.RowKit

def mayOk (a b c : Int) : Prop := 1 ≤ c ∧ 0 ≤ a ∧ 0 ≤ b ∧ a ≤ 1000000000000 ∧ b ≤ 1000000000000 ∧ c ≤ 1000000000000
def mayE (a b c : Int) : Int := if c < 1 then 2 else if a < 0 ∨ b < 0 ∨ 1000000000000 < a ∨ 1000000000000 < b ∨ 1000000000000 < c then 8 else 0
def halfN (a b c : Int) : Int := if c ≤ 2 * (a * b % c) then a * b / c + 1 else a * b / c
def floorE (a b c : Int) : Int := if mayE a b c = 0 then (if 1000000000000 < a * b / c then 8 else 0) else mayE a b c
def floorV (a b c : Int) : Int := if floorE a b c = 0 then a * b / c else 0
def halfE (a b c : Int) : Int := if mayE a b c = 0 then (if 1000000000000 < halfN a b c then 8 else 0) else mayE a b c
def halfV (a b c : Int) : Int := if halfE a b c = 0 then halfN a b c else 0
def restV (a b c : Int) : Int := if floorE a b c = 0 then a * b % c else 0

theorem may_three (a b c : Int) : (mayE a b c = 0 ∧ mayOk a b c) ∨ (mayE a b c = 2 ∧ c < 1) ∨ (mayE a b c = 8 ∧ 1 ≤ c) := by
  unfold mayE mayOk
  split
  · exact Or.inr (Or.inl ⟨rfl, by assumption⟩)
  · split
    · exact Or.inr (Or.inr ⟨rfl, by omega⟩)
    · exact Or.inl ⟨rfl, by omega⟩

set_option maxHeartbeats 1000000 in
theorem rmay_any (a b c : Int) (w : World) : Calls Try.prog 26 #[.int .i64 a, .int .i64 b, .int .i64 c] w fun e w' => e = .returned (.int .i64 (mayE a b c)) ∧ w = w' := by
  by_cases h0 : c < 1
  · have He : Hid (mayE a b c = 2) := Lib.hid (by unfold mayE; rw [if_pos h0])
    go_enter Try.func26, Try.ntmps26
    go_wp2
    go_ret
    exact ⟨by rw [He.out]; rfl, rfl⟩
  · have h0' : 1 ≤ c := by omega
    have Hn : Hid (¬ c < 1) := Lib.hid h0
    clear h0
    by_cases h1 : a < 0
    · have He : Hid (mayE a b c = 8) := Lib.hid (by unfold mayE; rw [if_neg Hn.out, if_pos (by omega)])
      go_enter Try.func26, Try.ntmps26
      go_wp2
      go_ret
      exact ⟨by rw [He.out]; rfl, rfl⟩
    · have g1 : 0 ≤ a := by omega
      have G1 : Hid (¬ a < 0) := Lib.hid h1
      clear h1
      by_cases h2 : b < 0
      · have He : Hid (mayE a b c = 8) := Lib.hid (by unfold mayE; rw [if_neg Hn.out, if_pos (by omega)])
        go_enter Try.func26, Try.ntmps26
        go_wp2
        go_ret
        exact ⟨by rw [He.out]; rfl, rfl⟩
      · have g2 : 0 ≤ b := by omega
        have G2 : Hid (¬ b < 0) := Lib.hid h2
        clear h2
        by_cases h3 : 1000000000000 < a
        · have He : Hid (mayE a b c = 8) := Lib.hid (by unfold mayE; rw [if_neg Hn.out, if_pos (by omega)])
          go_enter Try.func26, Try.ntmps26
          go_wp2
          go_ret
          exact ⟨by rw [He.out]; rfl, rfl⟩
        · have g3 : a ≤ 1000000000000 := by omega
          have G3 : Hid (¬ 1000000000000 < a) := Lib.hid h3
          clear h3
          by_cases h4 : 1000000000000 < b
          · have He : Hid (mayE a b c = 8) := Lib.hid (by unfold mayE; rw [if_neg Hn.out, if_pos (by omega)])
            go_enter Try.func26, Try.ntmps26
            go_wp2
            go_ret
            exact ⟨by rw [He.out]; rfl, rfl⟩
          · have g4 : b ≤ 1000000000000 := by omega
            have G4 : Hid (¬ 1000000000000 < b) := Lib.hid h4
            clear h4
            by_cases h5 : 1000000000000 < c
            · have He : Hid (mayE a b c = 8) := Lib.hid (by unfold mayE; rw [if_neg Hn.out, if_pos (by omega)])
              go_enter Try.func26, Try.ntmps26
              go_wp2
              go_ret
              exact ⟨by rw [He.out]; rfl, rfl⟩
            · have g5 : c ≤ 1000000000000 := by omega
              have G5 : Hid (¬ 1000000000000 < c) := Lib.hid h5
              clear h5
              have He : Hid (mayE a b c = 0) := Lib.hid (by unfold mayE; rw [if_neg Hn.out, if_neg (by omega)])
              have d5 : decide (1000000000000 < c) = false := by rw [decide_eq_false_iff_not]; omega
              go_enter Try.func26, Try.ntmps26
              go_wp2
              go_ret
              exact ⟨by rw [He.out]; rfl, rfl⟩

theorem floor_bad {a b c : Int} (h : mayE a b c ≠ 0) : floorE a b c = mayE a b c ∧ floorV a b c = 0 := by
  unfold floorV floorE; rw [if_neg h, if_neg h]; exact ⟨rfl, rfl⟩
theorem half_bad {a b c : Int} (h : mayE a b c ≠ 0) : halfE a b c = mayE a b c ∧ halfV a b c = 0 := by
  unfold halfV halfE; rw [if_neg h, if_neg h]; exact ⟨rfl, rfl⟩
theorem floor_over {a b c : Int} (h : mayE a b c = 0) (hq : 1000000000000 < a * b / c) : floorE a b c = 8 ∧ floorV a b c = 0 := by
  unfold floorV floorE; rw [if_pos h, if_pos hq]; exact ⟨rfl, rfl⟩
theorem floor_fine {a b c : Int} (h : mayE a b c = 0) (hq : a * b / c ≤ 1000000000000) : floorE a b c = 0 ∧ floorV a b c = a * b / c := by
  unfold floorV floorE; rw [if_pos h, if_neg (by omega)]; exact ⟨rfl, rfl⟩
theorem half_over {a b c : Int} (h : mayE a b c = 0) (hq : 1000000000000 < halfN a b c) : halfE a b c = 8 ∧ halfV a b c = 0 := by
  unfold halfV halfE; rw [if_pos h, if_pos hq]; exact ⟨rfl, rfl⟩
theorem half_fine {a b c : Int} (h : mayE a b c = 0) (hq : halfN a b c ≤ 1000000000000) : halfE a b c = 0 ∧ halfV a b c = halfN a b c := by
  unfold halfV halfE; rw [if_pos h, if_neg (by omega)]; exact ⟨rfl, rfl⟩
theorem quo_nonneg {a b c : Int} (h : mayOk a b c) : 0 ≤ a * b / c := Int.ediv_nonneg (Int.mul_nonneg h.2.1 h.2.2.1) (by have := h.1; omega)
theorem rem_bd {a b c : Int} (h : mayOk a b c) : 0 ≤ a * b % c ∧ a * b % c < c := ⟨Int.emod_nonneg _ (by have := h.1; omega), Int.emod_lt_of_pos _ (by have := h.1; omega)⟩
theorem div_says (a b c : Int) : (divN a b c = -1 ∧ divR a b c = 0 ∧ 4000000000000 < a * b / c) ∨ (divN a b c = a * b / c ∧ divR a b c = a * b % c ∧ a * b / c ≤ 4000000000000) := by
  unfold divN divR
  by_cases h : 4000000000000 < a * b / c
  · rw [if_pos h, if_pos h]; exact Or.inl ⟨rfl, rfl, h⟩
  · rw [if_neg h, if_neg h]; exact Or.inr ⟨rfl, rfl, by omega⟩
/-- The division met by its two ways, its values by name. -/
theorem rdiv_open (a b c : Int) (w : World) (h : mayOk a b c) :
    Calls Try.prog 27 #[.int .i64 a, .int .i64 b, .int .i64 c] w fun e w' => ∃ n r : Int, e = .returned (.tuple #[.int .i64 n, .int .i64 r]) ∧ Hid (n = divN a b c ∧ r = divR a b c) ∧ w = w' :=
  (rdiv_any a b c w ⟨h.2.1, h.2.2.2.1⟩ ⟨h.2.2.1, h.2.2.2.2.1⟩ ⟨h.1, h.2.2.2.2.2⟩).mono fun _ _ ⟨he, hw⟩ => ⟨_, _, he, Lib.hid ⟨rfl, rfl⟩, hw⟩

set_option maxHeartbeats 1000000 in
theorem rfloor_any (a b c : Int) (w : World) : Calls Try.prog 17 #[.int .i64 a, .int .i64 b, .int .i64 c] w fun e w' => e = .returned (.tuple #[.int .i64 (floorV a b c), .int .i64 (floorE a b c)]) ∧ w = w' := by
  by_cases hm : mayE a b c = 0
  · have hok : mayOk a b c := by rcases may_three a b c with h | h | h <;> first | exact h.2 | omega
    have HK := Lib.hid hok
    have HM := Lib.hid hm
    have em : (mayE a b c != 0) = false := by rw [hm]; rfl
    clear hm hok
    go_enter Try.func17, Try.ntmps17
    go_wp2_with (go_at_call 26; refine (rmay_any _ _ _ _).mono ?_; rintro e w' ⟨rfl, rfl⟩)
    refine (rdiv_open _ _ _ _ HK.out).mono ?_
    rintro e w' ⟨n, r, rfl, hnr, rfl⟩
    have hq0 := quo_nonneg HK.out
    rcases div_says a b c with ⟨h1, h2, h3⟩ | ⟨h1, h2, h3⟩
    · have He := Lib.hid (floor_over HM.out (by omega))
      have hn : n < 0 := by rw [hnr.out.1, h1]; omega
      clear h1 h2 h3 hq0
      go_wp2_with fail
      go_ret2
      exact ⟨by rw [He.out.1, He.out.2]; rfl, rfl⟩
    · have hn : n = a * b / c := by rw [hnr.out.1, h1]
      have hn0 : 0 ≤ n := by rw [hn]; exact hq0
      by_cases hq : a * b / c ≤ 1000000000000
      · have He := Lib.hid (floor_fine HM.out hq)
        have hn1 : n ≤ 1000000000000 := by rw [hn]; exact hq
        have Hn := Lib.hid hn
        clear h1 h2 h3 hq0 hq hn
        go_wp2_with fail
        go_ret2
        exact ⟨by rw [He.out.1, He.out.2, ← Hn.out]; rfl, rfl⟩
      · have He := Lib.hid (floor_over HM.out (by omega))
        have hn1 : 1000000000000 < n := by omega
        clear h1 h2 h3 hq0 hq hn
        go_wp2_with fail
        go_ret2
        exact ⟨by rw [He.out.1, He.out.2]; rfl, rfl⟩
  · have em : (mayE a b c != 0) = true := by rw [bne_iff_ne]; exact hm
    have He := Lib.hid (floor_bad hm)
    clear hm
    go_enter Try.func17, Try.ntmps17
    go_wp2_with (go_at_call 26; refine (rmay_any _ _ _ _).mono ?_; rintro e w' ⟨rfl, rfl⟩)
    go_ret2
    exact ⟨by rw [He.out.1, He.out.2]; rfl, rfl⟩

set_option maxHeartbeats 1000000 in
theorem rhalf_any (a b c : Int) (w : World) : Calls Try.prog 19 #[.int .i64 a, .int .i64 b, .int .i64 c] w fun e w' => e = .returned (.tuple #[.int .i64 (halfV a b c), .int .i64 (halfE a b c)]) ∧ w = w' := by
  by_cases hm : mayE a b c = 0
  · have hok : mayOk a b c := by rcases may_three a b c with h | h | h <;> first | exact h.2 | omega
    obtain ⟨hc1, hcM⟩ : 1 ≤ c ∧ c ≤ 1000000000000 := ⟨hok.1, hok.2.2.2.2.2⟩
    have HK := Lib.hid hok
    have HM := Lib.hid hm
    have em : (mayE a b c != 0) = false := by rw [hm]; rfl
    clear hm hok
    go_enter Try.func19, Try.ntmps19
    go_wp2_with (go_at_call 26; refine (rmay_any _ _ _ _).mono ?_; rintro e w' ⟨rfl, rfl⟩)
    refine (rdiv_open _ _ _ _ HK.out).mono ?_
    rintro e w' ⟨n, r, rfl, hnr, rfl⟩
    have hq0 := quo_nonneg HK.out
    have hr0 := rem_bd HK.out
    rcases div_says a b c with ⟨h1, h2, h3⟩ | ⟨h1, h2, h3⟩
    · have He := Lib.hid (half_over HM.out (by unfold halfN; split <;> omega))
      obtain rfl : n = -1 := by rw [hnr.out.1, h1]
      obtain rfl : r = 0 := by rw [hnr.out.2, h2]
      clear h1 h2 h3 hq0 hr0
      go_wp2_with fail
      go_ret2
      exact ⟨by rw [He.out.1, He.out.2]; rfl, rfl⟩
    · have hn : n = a * b / c := by rw [hnr.out.1, h1]
      have hr : r = a * b % c := by rw [hnr.out.2, h2]
      rw [← hn] at hq0 h3
      rw [← hr] at hr0
      obtain ⟨hr1, hr2⟩ := hr0
      have hhn : halfN a b c = if c ≤ 2 * r then n + 1 else n := by unfold halfN; rw [hn, hr]
      have Hh := Lib.hid hhn
      clear h1 h2 hn hr hhn
      by_cases hcr : c ≤ 2 * r
      · by_cases hq : n + 1 ≤ 1000000000000
        · have He := Lib.hid (half_fine HM.out (by rw [Hh.out, if_pos hcr]; exact hq))
          have Hv : Hid (halfN a b c = n + 1) := Lib.hid (by rw [Hh.out, if_pos hcr])
          have e1 : (n + 1 != 0) = true := by rw [bne_iff_ne]; omega
          go_wp2_with fail
          go_ret2
          exact ⟨by rw [He.out.1, He.out.2, Hv.out]; rfl, rfl⟩
        · have He := Lib.hid (half_over HM.out (by rw [Hh.out, if_pos hcr]; omega))
          have hq' : 1000000000000 < n + 1 := by omega
          have e1 : (n + 1 != 0) = true := by rw [bne_iff_ne]; omega
          clear hq
          go_wp2_with fail
          go_ret2
          exact ⟨by rw [He.out.1, He.out.2]; rfl, rfl⟩
      · have hcr' : 2 * r < c := by omega
        have Hc := Lib.hid hcr
        clear hcr
        by_cases hq : n ≤ 1000000000000
        · have He := Lib.hid (half_fine HM.out (by rw [Hh.out, if_neg Hc.out]; exact hq))
          have Hv : Hid (halfN a b c = n) := Lib.hid (by rw [Hh.out, if_neg Hc.out])
          by_cases hz : n = 0
          · have e1 : (n != 0) = false := by rw [hz]; rfl
            have hn2 : n < 1 := by omega
            clear hz
            go_wp2_with fail
            go_ret2
            exact ⟨by rw [He.out.1, He.out.2, Hv.out]; rfl, rfl⟩
          · have e1 : (n != 0) = true := by rw [bne_iff_ne]; exact hz
            have hn2 : 1 ≤ n := by omega
            clear hz
            go_wp2_with fail
            go_ret2
            exact ⟨by rw [He.out.1, He.out.2, Hv.out]; rfl, rfl⟩
        · have He := Lib.hid (half_over HM.out (by rw [Hh.out, if_neg Hc.out]; omega))
          have hq' : 1000000000000 < n := by omega
          have e1 : (n != 0) = true := by rw [bne_iff_ne]; omega
          clear hq
          go_wp2_with fail
          go_ret2
          exact ⟨by rw [He.out.1, He.out.2]; rfl, rfl⟩
  · have em : (mayE a b c != 0) = true := by rw [bne_iff_ne]; exact hm
    have He := Lib.hid (half_bad hm)
    clear hm
    go_enter Try.func19, Try.ntmps19
    go_wp2_with (go_at_call 26; refine (rmay_any _ _ _ _).mono ?_; rintro e w' ⟨rfl, rfl⟩)
    go_ret2
    exact ⟨by rw [He.out.1, He.out.2]; rfl, rfl⟩

theorem rrest_any (a b c : Int) (w : World) : Calls Try.prog 21 #[.int .i64 a, .int .i64 b, .int .i64 c] w fun e w' => e = .returned (.tuple #[.int .i64 (restV a b c), .int .i64 (floorE a b c)]) ∧ w = w' := by
  by_cases hf : floorE a b c = 0
  · have ef : (floorE a b c != 0) = false := by rw [hf]; rfl
    have hm : mayE a b c = 0 := by
      by_cases h : mayE a b c = 0
      · exact h
      · rw [(floor_bad h).1] at hf; exact hf
    have hok : mayOk a b c := by rcases may_three a b c with h | h | h <;> first | exact h.2 | omega
    have hq : a * b / c ≤ 1000000000000 := by
      rcases (by omega : 1000000000000 < a * b / c ∨ a * b / c ≤ 1000000000000) with h | h
      · rw [(floor_over hm h).1] at hf; omega
      · exact h
    have Hv : Hid (restV a b c = a * b % c) := Lib.hid (by unfold restV; rw [if_pos hf])
    have HK := Lib.hid hok
    have HQ := Lib.hid hq
    have HF := Lib.hid hf
    clear hf hm hok hq
    go_enter Try.func21, Try.ntmps21
    go_wp2_with (go_at_call 17; refine (rfloor_any _ _ _ _).mono ?_; rintro e w' ⟨rfl, rfl⟩)
    refine (rdiv_open _ _ _ _ HK.out).mono ?_
    rintro e w' ⟨n, r, rfl, hnr, rfl⟩
    have Hr : Hid (r = a * b % c) := Lib.hid (by
      have := HQ.out
      rcases div_says a b c with ⟨h1, h2, h3⟩ | ⟨h1, h2, h3⟩
      · omega
      · rw [hnr.out.2, h2])
    go_wp2_with fail
    go_ret2
    exact ⟨by rw [Hv.out, HF.out, ← Hr.out]; rfl, rfl⟩
  · have ef : (floorE a b c != 0) = true := by rw [bne_iff_ne]; exact hf
    have Hv : Hid (restV a b c = 0) := Lib.hid (by unfold restV; rw [if_neg hf])
    clear hf
    go_enter Try.func21, Try.ntmps21
    go_wp2_with (go_at_call 17; refine (rfloor_any _ _ _ _).mono ?_; rintro e w' ⟨rfl, rfl⟩)
    go_ret2
    exact ⟨by rw [Hv.out]; rfl, rfl⟩
end Go.Proofs.Ythnigakljpcbpaa
