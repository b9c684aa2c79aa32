/- The document's Check, Grade, Of and Span of cuts: for every slice of numbers, in every world. -/
import Derived.Test.YteeaaibcdbfmfaaWant17
import Derived.Test.YteeaaibcdbfmfaaRq16
import Derived.BigQuiet
import Derived.OwnWalk
namespace Go.Proofs.Yteeaaibcdbfmfaa
open Go.RowKit

/-- Three cells of a slice. -/
theorem three_at17 {B : Nat} {w : World} {a : Option Addr} {xs : List Int} (h : Ints B w a xs) (hl : xs.length = 3) : ∃ b off x y z, a = some ⟨b, off, none⟩ ∧ b < B ∧ xs = [x, y, z] ∧ w.cell? ⟨b, off, none⟩ = some (.int .i64 x) ∧ w.cell? ⟨b, off + 1, none⟩ = some (.int .i64 y) ∧ w.cell? ⟨b, off + 2, none⟩ = some (.int .i64 z) := by
  match xs, hl with
  | [x, y, z], _ =>
    rcases h with h | ⟨b, off, rfl, hB, hc⟩
    · cases h
    · exact ⟨b, off, x, y, z, rfl, hB, rfl, hc 0 (by simp), hc 1 (by simp), hc 2 (by simp)⟩
theorem cuts_three {x y z : Int} : Cuts [x, y, z] ↔ 0 ≤ x ∧ x ≤ y ∧ y ≤ z ∧ z ≤ 8000 := ⟨fun h => h.2, fun h => ⟨rfl, h⟩⟩
set_option maxHeartbeats 2000000 in
theorem rcheck17_any (a : Option Addr) (cap : Nat) (xs : List Int) (B : Nat) (w : World) (hx : Ints B w a xs) (hn : xs.length ≤ 1000000) :
    Calls Try.prog 13 #[.slice a xs.length cap] w fun e w' => e = .returned (.int .i64 (cutsE xs)) ∧ ∃ m, w' = w.drewN m := by
  by_cases h3 : xs.length ≠ 3
  · have d0 : ((xs.length : Int) != 3) = true := by rw [bne_iff_ne]; omega
    have HE : Hid (cutsE xs = 36) := Lib.hid (cuts_no fun q => h3 q.1)
    clear h3 hx
    go_enter Try.func13, Try.ntmps13
    go_upto_region 1 with fail
    go_quiet (fail)
    go_wp2
    go_ret
    exact ⟨by rw [HE.out]; rfl, _, rfl⟩
  obtain ⟨b, off, x, y, z, rfl, hB, rfl, c0, c1, c2⟩ := three_at17 hx (Decidable.not_not.1 h3)
  clear hx h3 hn hB
  show Calls Try.prog 13 #[.slice (some ⟨b, off, none⟩) 3 cap] w _
  have i0 : (0 : Int) < 3 := by omega
  have i1 : (1 : Int) < 3 := by omega
  have i2 : (2 : Int) < 3 := by omega
  by_cases q1 : x < 0
  · have d1 : decide (x < 0) = true := decide_eq_true q1
    have HE : Hid (cutsE [x, y, z] = 36) := Lib.hid (cuts_no fun q => by have := cuts_three.1 q; omega)
    clear q1
    go_enter Try.func13, Try.ntmps13
    go_upto_region 1 with fail
    go_quiet (fail)
    go_wp2
    go_ret
    exact ⟨by rw [HE.out]; rfl, _, rfl⟩
  have d1 : decide (x < 0) = false := decide_eq_false q1
  by_cases q2 : y < x
  · have d2 : decide (y < x) = true := decide_eq_true q2
    have HE : Hid (cutsE [x, y, z] = 36) := Lib.hid (cuts_no fun q => by have := cuts_three.1 q; omega)
    clear q1 q2
    go_enter Try.func13, Try.ntmps13
    go_upto_region 1 with fail
    go_quiet (fail)
    go_wp2
    go_ret
    exact ⟨by rw [HE.out]; rfl, _, rfl⟩
  have d2 : decide (y < x) = false := decide_eq_false q2
  by_cases q3 : z < y
  · have d3 : decide (z < y) = true := decide_eq_true q3
    have HE : Hid (cutsE [x, y, z] = 36) := Lib.hid (cuts_no fun q => by have := cuts_three.1 q; omega)
    clear q1 q2 q3
    go_enter Try.func13, Try.ntmps13
    go_upto_region 1 with fail
    go_quiet (fail)
    go_wp2
    go_ret
    exact ⟨by rw [HE.out]; rfl, _, rfl⟩
  have d3 : decide (z < y) = false := decide_eq_false q3
  by_cases q4 : 8000 < z
  · have d4 : decide (8000 < z) = true := decide_eq_true q4
    have HE : Hid (cutsE [x, y, z] = 36) := Lib.hid (cuts_no fun q => by have := cuts_three.1 q; omega)
    clear q1 q2 q3 q4
    go_enter Try.func13, Try.ntmps13
    go_upto_region 1 with fail
    go_quiet (fail)
    go_wp2
    go_ret
    exact ⟨by rw [HE.out]; rfl, _, rfl⟩
  have d4 : decide (8000 < z) = false := decide_eq_false q4
  have HE : Hid (cutsE [x, y, z] = 0) := Lib.hid (cuts_yes (cuts_three.2 (by omega)))
  clear q1 q2 q3 q4
  go_enter Try.func13, Try.ntmps13
  go_upto_region 1 with fail
  go_quiet (fail)
  go_wp2
  go_ret
  exact ⟨by rw [HE.out]; rfl, _, rfl⟩
theorem rcheck17_on (a : Option Addr) (cap : Nat) (xs : List Int) (w : World) (hx : Ints w.heap.size w a xs) (hn : xs.length ≤ 1000000) (m : Nat) :
    Calls Try.prog 13 #[.slice a xs.length cap] (w.drewN m) fun e w' => e = .returned (.int .i64 (cutsE xs)) ∧ ∃ m', w' = w.drewN m' := by
  refine (rcheck17_any a cap xs _ (w.drewN m) (hx.below (drawn_below (Below.refl _ _) m)) hn).mono ?_
  rintro e w' ⟨rfl, m', rfl⟩
  exact ⟨rfl, m + m', drew_more16 _ _ _⟩
theorem grade_at {l : List Int} {s : Int} {k : Nat} (hk : k < 3) (hp : ∀ j, j < k → numAt l j < s) (h : s ≤ numAt l k) : gradeN l s = k := by
  unfold gradeN
  rcases (by omega : k = 0 ∨ k = 1 ∨ k = 2) with rfl | rfl | rfl
  · rw [if_pos h]
  · have h0 := hp 0 (by omega)
    rw [if_neg (by omega), if_pos h]
  · have h0 := hp 0 (by omega)
    have h1 := hp 1 (by omega)
    rw [if_neg (by omega), if_neg (by omega), if_pos h]
theorem grade_top {l : List Int} {s : Int} (hp : ∀ j, j < 3 → numAt l j < s) : gradeN l s = 3 := by
  have h0 := hp 0 (by omega)
  have h1 := hp 1 (by omega)
  have h2 := hp 2 (by omega)
  unfold gradeN
  rw [if_neg (by omega), if_neg (by omega), if_neg (by omega)]
set_option maxHeartbeats 1000000 in
theorem rgrade17_any (a : Option Addr) (cap : Nat) (xs : List Int) (s : Int) (B : Nat) (w : World) (hx : Ints B w a xs) (h3 : xs.length = 3) :
    Calls Try.prog 21 #[.slice a xs.length cap, .int .i64 s] w fun e w' => e = .returned (.int .i64 (gradeN xs s : Int)) ∧ w = w' := by
  have HX := Lib.hid hx
  have H3 := Lib.hid h3
  clear hx h3
  go_enter Try.func21, Try.ntmps21
  go_wp2
  go_loopw [5] (fun i wr => ∃ k : Nat, i = .int .i64 k ∧ wr = w ∧ k ≤ 3 ∧ Hid (∀ j, j < k → numAt xs j < s)) (fun i _ => 3 - (intOf i).toNat)
  case atStart => exact ⟨0, rfl, rfl, by omega, Lib.hid fun j h => absurd h (by omega)⟩
  case round =>
    obtain ⟨k, rfl, rfl, hk, hr⟩ := hrel
    by_cases hlt : k < 3
    · have h3 := H3.out
      rcases HX.out with h | ⟨b, off, rfl, _, hc⟩
      · exfalso; rw [h] at h3; simp at h3
      have hx := hc k (by omega)
      clear hc
      have i0 : decide ((k : Int) < 3) = true := decide_eq_true (by omega)
      have i1 : (k : Int) < (xs.length : Int) := by omega
      have i3 : (0 : Int) ≤ (k : Int) := by omega
      clear h3
      by_cases q1 : s ≤ numAt xs k
      · have d1 : decide (s ≤ numAt xs k) = true := decide_eq_true q1
        have HE : Hid (gradeN xs s = k) := Lib.hid (grade_at hlt hr.out q1)
        clear q1
        go_wp2
        go_ret
        exact ⟨by rw [HE.out]; rfl, rfl⟩
      · have d1 : decide (s ≤ numAt xs k) = false := decide_eq_false q1
        have HN : Hid (∀ j, j < k + 1 → numAt xs j < s) := Lib.hid fun j hj => by
          rcases (by omega : j < k ∨ j = k) with h | h
          · exact hr.out j h
          · rw [h]; omega
        clear q1
        go_wp2
        go_roundw
        case rel => exact ⟨k + 1, by go_num, by first | rfl | trivial, by omega, HN⟩
        case measure => simp [intOf]; omega
    · obtain rfl : k = 3 := by omega
      have HE : Hid (gradeN xs s = 3) := Lib.hid (grade_top hr.out)
      go_wp2
      go_ret
      exact ⟨by rw [HE.out]; rfl, rfl⟩
set_option maxHeartbeats 1000000 in
theorem rof17_any (a : Option Addr) (cap : Nat) (xs : List Int) (s : Int) (w : World) (hx : Ints w.heap.size w a xs) (hn : xs.length ≤ 1000000) :
    Calls Try.prog 9 #[.slice a xs.length cap, .int .i64 s] w fun e w' => e = .returned (.tuple #[.int .i64 (ofV17 xs s), .int .i64 (ofE17 xs s)]) ∧ ∃ m, w' = w.drewN m := by
  have HC := Lib.hid (rcheck17_any a cap xs _ w hx hn)
  have HX := Lib.hid hx
  clear hx
  by_cases hA : ¬ Cuts xs
  · rw [cuts_no hA] at HC
    have HV := Lib.hid (of17_no (s := s) hA)
    clear hA
    go_enter Try.func9, Try.ntmps9
    go_wp2_with (go_at_call 13; refine HC.out.mono ?_; rintro e w2 ⟨rfl, m2, rfl⟩)
    go_ret2
    exact ⟨by rw [HV.out.1, HV.out.2]; rfl, _, rfl⟩
  have hA := Decidable.not_not.1 hA
  rw [cuts_yes hA] at HC
  have HA := Lib.hid hA
  clear hA
  by_cases q1 : s < 0
  · have d1 : decide (s < 0) = true := decide_eq_true q1
    have HV := Lib.hid (of17_out (s := s) HA.out fun q => by have := q.1; omega)
    clear q1
    go_enter Try.func9, Try.ntmps9
    go_wp2_with (go_at_call 13; refine HC.out.mono ?_; rintro e w2 ⟨rfl, m2, rfl⟩)
    go_ret2
    exact ⟨by rw [HV.out.1, HV.out.2]; rfl, _, rfl⟩
  have d1 : decide (s < 0) = false := decide_eq_false q1
  by_cases q2 : 8000 < s
  · have d2 : decide (8000 < s) = true := decide_eq_true q2
    have HV := Lib.hid (of17_out (s := s) HA.out fun q => by have := q.2; omega)
    clear q1 q2
    go_enter Try.func9, Try.ntmps9
    go_wp2_with (go_at_call 13; refine HC.out.mono ?_; rintro e w2 ⟨rfl, m2, rfl⟩)
    go_ret2
    exact ⟨by rw [HV.out.1, HV.out.2]; rfl, _, rfl⟩
  have d2 : decide (8000 < s) = false := decide_eq_false q2
  have HV := Lib.hid (of17_yes (s := s) HA.out ⟨by omega, by omega⟩)
  have HG : Hid (∀ m, Calls Try.prog 21 #[.slice a xs.length cap, .int .i64 s] (w.drewN m) fun e w' => e = .returned (.int .i64 (gradeN xs s : Int)) ∧ w.drewN m = w') := Lib.hid fun m => rgrade17_any a cap xs s _ (w.drewN m) (HX.out.below (drawn_below (Below.refl _ _) m)) HA.out.1
  clear q1 q2
  go_enter Try.func9, Try.ntmps9
  go_wp2_with (first
    | (go_at_call 13; refine HC.out.mono ?_; rintro e w2 ⟨rfl, m2, rfl⟩)
    | (go_at_call 21; refine (HG.out _).mono ?_; rintro e w3 ⟨rfl, rfl⟩))
  go_ret2
  exact ⟨by rw [HV.out.1, HV.out.2]; rfl, _, rfl⟩
set_option maxHeartbeats 2000000 in
theorem rspan17_any (a : Option Addr) (cap : Nat) (xs : List Int) (g : Int) (w : World) (hx : Ints w.heap.size w a xs) (hn : xs.length ≤ 1000000) :
    Calls Try.prog 11 #[.slice a xs.length cap, .int .i64 g] w fun e w' => e = .returned (.tuple #[.int .i64 (spanLo xs g), .int .i64 (spanHi xs g), .int .i64 (spanE xs g)]) ∧ ∃ m, w' = w.drewN m := by
  have HC := Lib.hid (rcheck17_any a cap xs _ w hx hn)
  have HX := Lib.hid hx
  clear hx
  by_cases hA : ¬ Cuts xs
  · rw [cuts_no hA] at HC
    have HV := Lib.hid (span_no (g := g) hA)
    clear hA
    go_enter Try.func11, Try.ntmps11
    go_wp2_with (go_at_call 13; refine HC.out.mono ?_; rintro e w2 ⟨rfl, m2, rfl⟩)
    go_ret3
    exact ⟨by rw [HV.out.1, HV.out.2.1, HV.out.2.2]; rfl, _, rfl⟩
  have hA := Decidable.not_not.1 hA
  rw [cuts_yes hA] at HC
  have HA := Lib.hid hA
  clear hA
  by_cases q1 : g < 0
  · have d1 : decide (g < 0) = true := decide_eq_true q1
    have HV := Lib.hid (span_out (g := g) HA.out fun q => by have := q.1; omega)
    clear q1
    go_enter Try.func11, Try.ntmps11
    go_wp2_with (go_at_call 13; refine HC.out.mono ?_; rintro e w2 ⟨rfl, m2, rfl⟩)
    go_ret3
    exact ⟨by rw [HV.out.1, HV.out.2.1, HV.out.2.2]; rfl, _, rfl⟩
  have d1 : decide (g < 0) = false := decide_eq_false q1
  by_cases q2 : 3 < g
  · have d2 : decide (3 < g) = true := decide_eq_true q2
    have HV := Lib.hid (span_out (g := g) HA.out fun q => by have := q.2; omega)
    clear q1 q2
    go_enter Try.func11, Try.ntmps11
    go_wp2_with (go_at_call 13; refine HC.out.mono ?_; rintro e w2 ⟨rfl, m2, rfl⟩)
    go_ret3
    exact ⟨by rw [HV.out.1, HV.out.2.1, HV.out.2.2]; rfl, _, rfl⟩
  have d2 : decide (3 < g) = false := decide_eq_false q2
  have HGR : Hid (Grade17 g) := Lib.hid ⟨by omega, by omega⟩
  have HS : Hid (spanE xs g = 0) := Lib.hid (span_yes HA.out HGR.out).1
  have HG : Hid (∀ (m : Nat) (s : Int), Calls Try.prog 21 #[.slice a xs.length cap, .int .i64 s] (w.drewN m) fun e w' => e = .returned (.int .i64 (gradeN xs s : Int)) ∧ w.drewN m = w') := Lib.hid fun m s => rgrade17_any a cap xs s _ (w.drewN m) (HX.out.below (drawn_below (Below.refl _ _) m)) HA.out.1
  clear q1 q2
  go_enter Try.func11, Try.ntmps11
  go_wp2_with (go_at_call 13; refine HC.out.mono ?_; rintro e w2 ⟨rfl, m2, rfl⟩)
  go_loopw [7, 8, 9] (fun lo hi i wr => ∃ k : Nat, ∃ L H : Int, lo = .int .i64 L ∧ hi = .int .i64 H ∧ i = .int .i64 k ∧ wr = w.drewN m2 ∧ k ≤ 8001 ∧ Hid (L = loTo xs g k ∧ H = hiTo xs g k)) (fun _ _ i _ => 8001 - (intOf i).toNat)
  case atStart => exact ⟨0, 1, 0, rfl, rfl, rfl, rfl, by omega, Lib.hid (by have := span_start (h := HA.out) xs g HGR.out; exact ⟨this.1.symm, this.2.symm⟩)⟩
  case round =>
    obtain ⟨k, L, H, rfl, rfl, rfl, rfl, hk, hr⟩ := hrel
    by_cases hlt : k ≤ 8000
    · have i0 : decide ((k : Int) ≤ 8000) = true := decide_eq_true (by omega)
      have i3 : (0 : Int) ≤ (k : Int) := by omega
      have hk1 : k + 1 ≤ 8001 := by omega
      have hst := span_step (k := k) HA.out HGR.out hlt
      rw [← hr.out.1, ← hr.out.2] at hst
      have hg := HG.out m2 (k : Int)
      generalize (gradeN xs (k : Int) : Int) = G at *
      by_cases q1 : G = g
      · have d3 : (G == g) = true := by rw [beq_iff_eq]; exact q1
        rw [if_pos q1, if_pos q1] at hst
        by_cases q2 : H < L
        · have d4 : decide (H < L) = true := decide_eq_true q2
          rw [if_pos q2] at hst
          have HN : Hid ((k : Int) = loTo xs g (k + 1) ∧ (k : Int) = hiTo xs g (k + 1)) := Lib.hid ⟨hst.1.symm, hst.2.symm⟩
          clear q1 q2 hst hlt
          go_wp2_with (go_at_call 21; refine hg.mono ?_; rintro e w3 ⟨rfl, rfl⟩)
          go_roundw
          case rel => exact ⟨k + 1, _, _, rfl, rfl, by go_num, by first | rfl | trivial, hk1, HN⟩
          case measure => simp [intOf]; omega
        · have d4 : decide (H < L) = false := decide_eq_false q2
          rw [if_neg q2] at hst
          have HN : Hid (L = loTo xs g (k + 1) ∧ (k : Int) = hiTo xs g (k + 1)) := Lib.hid ⟨hst.1.symm, hst.2.symm⟩
          clear q1 q2 hst hlt
          go_wp2_with (go_at_call 21; refine hg.mono ?_; rintro e w3 ⟨rfl, rfl⟩)
          go_roundw
          case rel => exact ⟨k + 1, _, _, rfl, rfl, by go_num, by first | rfl | trivial, hk1, HN⟩
          case measure => simp [intOf]; omega
      · have d3 : (G == g) = false := by rw [beq_eq_false_iff_ne]; exact q1
        rw [if_neg q1, if_neg q1] at hst
        have HN : Hid (L = loTo xs g (k + 1) ∧ H = hiTo xs g (k + 1)) := Lib.hid ⟨hst.1.symm, hst.2.symm⟩
        clear q1 hst hlt
        go_wp2_with (go_at_call 21; refine hg.mono ?_; rintro e w3 ⟨rfl, rfl⟩)
        go_roundw
        case rel => exact ⟨k + 1, _, _, rfl, rfl, by go_num, by first | rfl | trivial, hk1, HN⟩
        case measure => simp [intOf]; omega
    · obtain rfl : k = 8001 := by omega
      have hd := span_done HA.out HGR.out
      have HL : Hid (L = spanLo xs g ∧ H = spanHi xs g) := Lib.hid ⟨by rw [hr.out.1, hd.1], by rw [hr.out.2, hd.2]⟩
      clear hd
      go_wp2
      go_ret3
      exact ⟨by rw [HS.out, ← HL.out.1, ← HL.out.2]; rfl, _, rfl⟩
end Go.Proofs.Yteeaaibcdbfmfaa
