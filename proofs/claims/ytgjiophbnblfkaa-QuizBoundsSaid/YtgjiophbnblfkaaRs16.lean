/- The document's Score and Answers: for every slice of numbers, in every world. -/
import Derived.Test.YtgjiophbnblfkaaRf16
namespace Go.Proofs.Ytgjiophbnblfkaa
open Go.RowKit

theorem mem_at {l : List Int} {x : Int} : x ∈ l ↔ ∃ j, j < l.length ∧ numAt l j = x := by
  constructor
  · intro h
    obtain ⟨j, hj, e⟩ := List.getElem_of_mem h
    refine ⟨j, hj, ?_⟩
    unfold numAt
    rw [List.getD_eq_getElem?_getD, List.getElem?_eq_getElem hj]
    exact e
  · rintro ⟨j, hj, rfl⟩
    exact num_mem l j hj
/-- Numbers of questions, as far as a slice of them is walked. -/
def Within (n : Nat) (fs : List Int) : Prop := ∀ k, k < fs.length → ∃ j : Nat, numAt fs k = j ∧ j < n
theorem failV_within (l : List Int) (a : Int) : Within l.length (failV l a) := by
  intro k hk
  unfold failV at hk ⊢
  split at hk
  · rename_i h
    rw [if_pos h]
    obtain ⟨i, h1, h2, _⟩ := (noes_mem a l.length _).1 (num_mem _ k hk)
    exact ⟨i, h1, h2⟩
  · simp at hk
theorem failV_len {l : List Int} {a : Int} (_ : l.length ≤ 1000000) : (failV l a).length ≤ l.length := by
  unfold failV
  split
  · exact noes_len a l.length
  · simp
theorem failV_asks {l : List Int} {a : Int} (h : 0 < (failV l a).length) : Asks l := by
  unfold failV at h
  split at h
  · rename_i q; exact q.1
  · simp at h
theorem sum_take (l fs : List Int) {k : Nat} (h : k < fs.length) : sumF l (fs.take (k + 1)) = sumF l (fs.take k) + numAt l (numAt fs k).toNat := by
  rw [take_more fs k h, sumF_more]
theorem sum_take_small {l fs : List Int} (hA : ∀ j, j < l.length → AskAt l j) (hW : Within l.length fs) (k : Nat) (hk : k ≤ fs.length) : 0 ≤ sumF l (fs.take k) ∧ sumF l (fs.take k) ≤ 1000 * k := by
  induction k with
  | zero => simp [sumF]
  | succ k ih =>
    have h1 := ih (by omega)
    obtain ⟨j, hj, hjn⟩ := hW k (by omega)
    have h2 := hA j hjn
    unfold AskAt at h2
    rw [sum_take l fs (by omega), hj, Int.toNat_natCast]
    omega
set_option maxHeartbeats 1000000 in
theorem rscore16_any (a : Option Addr) (cap : Nat) (xs : List Int) (m : Int) (w : World) (hx : Ints w.heap.size w a xs) (hn : xs.length ≤ 1000000) (hwf : (Lit.int .i64 m).wf = true) :
    Calls Try.prog 8 #[.slice a xs.length cap, .int .i64 m] w fun e w' => e = .returned (.tuple #[.int .i64 (scoreV xs m), .int .i64 (failE xs m)]) ∧ Below w.heap.size w w' := by
  have HF := Lib.hid (rfailed16_any a cap xs m w hx hn hwf)
  have HX := Lib.hid hx
  have HS : Hid (scoreV xs m = sumF xs (failV xs m)) := Lib.hid rfl
  have HL := Lib.hid (failV_len (a := m) hn)
  have HW := Lib.hid (failV_within xs m)
  have HA : Hid (0 < (failV xs m).length → Asks xs) := Lib.hid failV_asks
  clear hx hwf
  generalize failV xs m = fs at *
  generalize failE xs m = E at *
  go_enter Try.func8, Try.ntmps8
  go_wp2_with (go_at_call 10; refine HF.out.mono ?_; rintro e w2 ⟨a2, c2, rfl, hc2, hi2, hb2⟩; have HI := Lib.hid hi2; have HB := Lib.hid hb2; clear hc2 hi2 hb2)
  go_loopw [8, 9] (fun s8 s9 wr => ∃ k : Nat, s8 = .int .i64 (sumF xs (fs.take k)) ∧ s9 = .int .i64 k ∧ wr = w2 ∧ k ≤ fs.length) (fun _ i _ => fs.length - (intOf i).toNat)
  case atStart => exact ⟨0, rfl, rfl, rfl, by omega⟩
  case round =>
    obtain ⟨k, rfl, rfl, rfl, hk⟩ := hrel
    by_cases hlt : k < fs.length
    · have hA := HA.out (by omega)
      have hl := HL.out
      have h8 := hA.2.1
      have hs := sum_take_small hA.2.2 HW.out k hk
      have hs2 := sum_take_small hA.2.2 HW.out (k + 1) (by omega)
      have hst := sum_take xs fs hlt
      obtain ⟨j, hj, hjn⟩ := HW.out k hlt
      rcases HI.out with h | ⟨b2, o2, rfl, _, hc2⟩
      · exfalso; rw [h] at hlt; simp at hlt
      rcases HX.out.below HB.out with h | ⟨b, off, rfl, _, hc⟩
      · exfalso; rw [h] at hjn; simp at hjn
      have c2 := hc2 k hlt
      have c0 := hc j hjn
      rw [hj, Int.toNat_natCast] at hst
      rw [hj] at c2
      have i1 : (k : Int) < (fs.length : Int) := by omega
      have i3 : (0 : Int) ≤ (k : Int) := by omega
      have i4 : (j : Int) < (xs.length : Int) := by omega
      have i5 : (0 : Int) ≤ (j : Int) := by omega
      have e1 : IntKind.i64.wrap (sumF xs (fs.take k) + numAt xs j) = sumF xs (fs.take (k + 1)) := by rw [← hst]; exact IntWalk.i64_in _ (by omega)
      clear hst hs hs2 hc hc2 hA hj
      go_wp2
      go_roundw
      case rel => exact ⟨k + 1, by first | rfl | trivial, by first | go_num | trivial, by first | rfl | trivial, by omega⟩
      case measure => simp [intOf]; omega
    · obtain rfl : k = fs.length := by omega
      go_wp2
      go_ret2
      exact ⟨by rw [HS.out, List.take_length]; rfl, HB.out⟩
theorem fails_lt {n : Nat} {f : List Int} (h : Fails n f) {i j : Nat} (hij : i < j) (hj : j < f.length) : numAt f i < numAt f j := by
  induction j with
  | zero => omega
  | succ j ih =>
    have h1 := (h (j + 1) hj).2.2 (by omega)
    rw [Nat.add_sub_cancel] at h1
    rcases (by omega : i < j ∨ i = j) with q | q
    · have := ih q (by omega); omega
    · rw [q]; exact h1
theorem ansTo_small (f : List Int) (k : Nat) : 0 ≤ ansTo f k ∧ ansTo f k < ((2 ^ k : Nat) : Int) := by
  induction k with
  | zero => exact ⟨Int.le_refl _, (by decide : (0 : Int) < ((2 ^ 0 : Nat) : Int))⟩
  | succ k ih =>
    have e : (2 ^ (k + 1) : Nat) = 2 * 2 ^ k := by rw [Nat.pow_succ]; omega
    have hp := Nat.two_pow_pos k
    rw [ansTo, e]
    split <;> omega
/-- How far the failed ones are passed when question i is at hand. -/
structure Passed (f : List Int) (i p : Nat) : Prop where
  le : p ≤ f.length
  low : ∀ j, j < p → numAt f j < i
  high : ∀ j, p ≤ j → j < f.length → (i : Int) ≤ numAt f j
theorem Passed.hit {n : Nat} {f : List Int} (h : Fails n f) {i p : Nat} (hp : Passed f i p) (hlt : p < f.length) (e : numAt f p = i) : Passed f (i + 1) (p + 1) ∧ ansTo f (i + 1) = ansTo f i := by
  refine ⟨⟨by omega, fun j hj => ?_, fun j h1 h2 => ?_⟩, ?_⟩
  · rcases (by omega : j < p ∨ j = p) with q | q
    · have := hp.low j q; omega
    · rw [q, e]; omega
  · have := fails_lt h (i := p) (j := j) (by omega) h2
    omega
  · rw [ansTo, if_pos (mem_at.2 ⟨p, hlt, e⟩)]
theorem Passed.miss {n : Nat} {f : List Int} (h : Fails n f) {i p : Nat} (hp : Passed f i p) (e : p < f.length → numAt f p ≠ i) : Passed f (i + 1) p ∧ ansTo f (i + 1) = ansTo f i + ((2 ^ i : Nat) : Int) := by
  have up : ∀ j, p ≤ j → j < f.length → (i : Int) + 1 ≤ numAt f j := fun j h1 h2 => by
    have h3 := hp.high p (Nat.le_refl _) (by omega)
    have h4 := e (by omega)
    rcases (by omega : p < j ∨ p = j) with q | q
    · have := fails_lt h q h2; omega
    · rw [← q]; omega
  refine ⟨⟨hp.le, fun j hj => by have := hp.low j hj; omega, fun j h1 h2 => by have := up j h1 h2; omega⟩, ?_⟩
  rw [ansTo, if_neg]
  intro hm
  obtain ⟨j, hj, ej⟩ := mem_at.1 hm
  rcases (by omega : j < p ∨ p ≤ j) with q | q
  · have := hp.low j q; omega
  · have := up j q hj; omega
set_option maxHeartbeats 2000000 in
theorem ranswers16_any (a : Option Addr) (cap : Nat) (xs : List Int) (b : Option Addr) (cap' : Nat) (fs : List Int) (w : World) (hx : Ints w.heap.size w a xs) (hn : xs.length ≤ 1000000) (hf : Ints w.heap.size w b fs) (hn2 : fs.length ≤ 1000000) :
    Calls Try.prog 12 #[.slice a xs.length cap, .slice b fs.length cap'] w fun e w' => e = .returned (.tuple #[.int .i64 (ansV xs fs), .int .i64 (ansE xs fs)]) ∧ ∃ m, w' = w.drewN m := by
  have HC := Lib.hid (rcheck16_any a cap xs _ w hx hn)
  have HX := Lib.hid hf
  clear hx hf
  by_cases hA : ¬ Asks xs
  · rw [asks_no hA] at HC
    have HV := Lib.hid (ans_no (f := fs) hA)
    clear hA
    go_enter Try.func12, Try.ntmps12
    go_wp2_with (go_at_call 14; refine HC.out.mono ?_; rintro e w2 ⟨rfl, m2, rfl⟩)
    go_ret2
    exact ⟨by rw [HV.out.1, HV.out.2]; rfl, _, rfl⟩
  have hA := Decidable.not_not.1 hA
  rw [asks_yes hA] at HC
  have HA := Lib.hid hA
  have h8 := hA.2.1
  clear hA
  go_enter Try.func12, Try.ntmps12
  go_wp2_with (go_at_call 14; refine HC.out.mono ?_; rintro e w2 ⟨rfl, m2, rfl⟩)
  go_loopw [6] (fun i wr => ∃ k m : Nat, i = .int .i64 k ∧ wr = w.drewN m ∧ k ≤ fs.length ∧ Hid (∀ j, j < k → FailAt xs.length fs j)) (fun i _ => fs.length - (intOf i).toNat)
  case atStart => exact ⟨0, m2, rfl, rfl, by omega, Lib.hid fun j h => absurd h (by omega)⟩
  case round =>
    obtain ⟨k, m, rfl, rfl, hk, hr⟩ := hrel
    by_cases hlt : k < fs.length
    · rcases HX.out with h | ⟨b, off, rfl, hB, hc⟩
      · exfalso; rw [h] at hlt; simp at hlt
      have hx := hc k hlt
      have HCC := Lib.hid hc
      clear hc
      have i1 : (k : Int) < (fs.length : Int) := by omega
      have i3 : (0 : Int) ≤ (k : Int) := by omega
      have HBAD : Hid (¬ FailAt xs.length fs k → ansE xs fs = 2 ∧ ansV xs fs = 0) := Lib.hid fun q => ans_out HA.out fun z => q (z k hlt)
      by_cases q1 : numAt fs k < 0
      · have q1' : decide (numAt fs k < 0) = true := decide_eq_true q1
        have HV := Lib.hid (HBAD.out fun z => by have := z.1; omega)
        clear q1
        go_upto_region 6 with fail
        go_quiet (fail)
        go_wp2
        go_ret2
        refine ⟨by rw [HV.out.1, HV.out.2]; rfl, ?_⟩; first | exact ⟨_, rfl⟩ | exact ⟨_, drew_more16 _ _ _⟩
      have q1' : decide (numAt fs k < 0) = false := decide_eq_false q1
      by_cases q2 : (xs.length : Int) ≤ numAt fs k
      · have q2' : decide ((xs.length : Int) ≤ numAt fs k) = true := decide_eq_true q2
        have HV := Lib.hid (HBAD.out fun z => by have := z.2.1; omega)
        clear q1 q2
        go_upto_region 6 with fail
        go_quiet (fail)
        go_wp2
        go_ret2
        refine ⟨by rw [HV.out.1, HV.out.2]; rfl, ?_⟩; first | exact ⟨_, rfl⟩ | exact ⟨_, drew_more16 _ _ _⟩
      have q2' : decide ((xs.length : Int) ≤ numAt fs k) = false := decide_eq_false q2
      rcases Nat.eq_zero_or_pos k with hk0 | hk0
      · subst hk0
        have hx0 : w.cell? ⟨b, off, none⟩ = some (.int .i64 (numAt fs 0)) := by simpa using hx
        have HN : Hid (∀ j, j < 1 → FailAt xs.length fs j) := Lib.hid fun j hj => by
          obtain rfl : j = 0 := by omega
          exact ⟨by omega, by omega, fun h => absurd h (by omega)⟩
        clear hx q1 q2
        go_upto_region 6 with fail
        go_quiet (fail)
        go_wp2
        go_roundw
        case rel => exact ⟨1, _, rfl, by first | rfl | exact drew_more16 _ _ _, by omega, HN⟩
        case measure => simp [intOf]; omega
      · obtain ⟨j, rfl⟩ : ∃ j, k = j + 1 := ⟨k - 1, by omega⟩
        have hy := HCC.out j (by omega)
        have i4 : (j : Int) < (fs.length : Int) := by omega
        have i5 : (0 : Int) ≤ (j : Int) := by omega
        have i6 : decide ((0 : Int) < (j : Int) + 1) = true := decide_eq_true (by omega)
        have i7 : IntKind.i64.wrap ((j : Int) + 1 - 1) = (j : Int) := by rw [Int.add_sub_cancel]; exact IntWalk.i64_in _ (by omega)
        by_cases q3 : numAt fs (j + 1) ≤ numAt fs j
        · have d3 : decide (numAt fs (j + 1) ≤ numAt fs j) = true := decide_eq_true q3
          have HV := Lib.hid (HBAD.out fun z => by have := z.2.2 (by omega); rw [Nat.add_sub_cancel] at this; omega)
          clear q1 q2 q3
          go_upto_region 6 with fail
          go_quiet (fail)
          go_wp2
          go_ret2
          refine ⟨by rw [HV.out.1, HV.out.2]; rfl, ?_⟩; first | exact ⟨_, rfl⟩ | exact ⟨_, drew_more16 _ _ _⟩
        · have d3 : decide (numAt fs (j + 1) ≤ numAt fs j) = false := decide_eq_false q3
          have HN : Hid (∀ i, i < j + 1 + 1 → FailAt xs.length fs i) := Lib.hid fun i hi => by
            rcases (by omega : i < j + 1 ∨ i = j + 1) with h | h
            · exact hr.out i h
            · rw [h]; exact ⟨by omega, by omega, fun _ => by rw [Nat.add_sub_cancel]; omega⟩
          clear q1 q2 q3
          go_upto_region 6 with fail
          go_quiet (fail)
          go_wp2
          go_roundw
          case rel => exact ⟨j + 1 + 1, _, by go_num, by first | rfl | exact drew_more16 _ _ _, by omega, HN⟩
          case measure => simp [intOf]; omega
    · obtain rfl : k = fs.length := by omega
      have HFS : Hid (Fails xs.length fs) := Lib.hid hr.out
      have HV := Lib.hid (ans_yes HA.out HFS.out)
      go_wp2
      go_loopw [7, 8, 9, 10] (fun s7 s8 s9 s10 wr => ∃ i p : Nat, s7 = .int .i64 (ansTo fs i) ∧ s8 = .int .i64 ((2 ^ i : Nat) : Int) ∧ s9 = .int .i64 p ∧ s10 = .int .i64 i ∧ wr = w.drewN m ∧ i ≤ xs.length ∧ Hid (Passed fs i p)) (fun _ _ _ i _ => xs.length - (intOf i).toNat)
      case atStart => exact ⟨0, 0, rfl, rfl, rfl, rfl, rfl, by omega, Lib.hid ⟨by omega, fun j hj => absurd hj (by omega), fun j _ h2 => by have := (HFS.out j h2).1; omega⟩⟩
      case round =>
        obtain ⟨i, p, rfl, rfl, rfl, rfl, rfl, hi, HP⟩ := hrel
        have hsm := ansTo_small fs i
        have hpw := pow_small (n := i) (by omega)
        have hp0 := Nat.two_pow_pos i
        by_cases hlt : i < xs.length
        · have i1 : (i : Int) < (xs.length : Int) := by omega
          have i3 : (0 : Int) ≤ (i : Int) := by omega
          have e2 : IntKind.i64.wrap (2 * ((2 ^ i : Nat) : Int)) = ((2 ^ (i + 1) : Nat) : Int) := by rw [IntWalk.i64_in _ (by omega), Nat.pow_succ]; omega
          have e1 : IntKind.i64.wrap (ansTo fs i + ((2 ^ i : Nat) : Int)) = ansTo fs i + ((2 ^ i : Nat) : Int) := IntWalk.i64_in _ (by omega)
          clear hsm hpw hp0
          generalize hT : ((2 ^ i : Nat) : Int) = T at *
          generalize hT2 : ((2 ^ (i + 1) : Nat) : Int) = T2 at *
          by_cases hp : p < fs.length
          · rcases HX.out with h | ⟨b, off, rfl, hB, hc⟩
            · exfalso; rw [h] at hp; simp at hp
            have hx := hc p hp
            clear hc
            have j1 : (p : Int) < (fs.length : Int) := by omega
            have j3 : (0 : Int) ≤ (p : Int) := by omega
            by_cases he : numAt fs p = i
            · have d1 : (numAt fs p == (i : Int)) = true := by rw [he]; simp
              have HN := Lib.hid (HP.out.hit HFS.out hp he)
              have ha : ansTo fs (i + 1) = ansTo fs i := HN.out.2
              clear he
              go_wp2
              go_roundw
              case rel => exact ⟨i + 1, p + 1, by rw [HN.out.2], by rw [hT2], by go_num, by go_num, by first | rfl | trivial, by omega, Lib.hid HN.out.1⟩
              case measure => simp [intOf]; omega
            · have d1 : (numAt fs p == (i : Int)) = false := by rw [beq_eq_false_iff_ne]; exact he
              have HN := Lib.hid (HP.out.miss HFS.out fun _ => he)
              clear he
              go_wp2
              go_roundw
              case rel => exact ⟨i + 1, p, by rw [HN.out.2, hT], by rw [hT2], by first | rfl | trivial, by go_num, by first | rfl | trivial, by omega, Lib.hid HN.out.1⟩
              case measure => simp [intOf]; omega
          · have j1 : decide ((p : Int) < (fs.length : Int)) = false := decide_eq_false (by omega)
            have j1' : decide (p < fs.length) = false := decide_eq_false hp
            have HN := Lib.hid (HP.out.miss HFS.out fun q => absurd q hp)
            clear hp
            go_wp2
            go_roundw
            case rel => exact ⟨i + 1, p, by rw [HN.out.2, hT], by rw [hT2], by first | rfl | trivial, by go_num, by first | rfl | trivial, by omega, Lib.hid HN.out.1⟩
            case measure => simp [intOf]; omega
        · obtain rfl : i = xs.length := by omega
          go_wp2
          go_ret2
          refine ⟨by rw [HV.out.1, HV.out.2]; rfl, ?_⟩; first | exact ⟨_, rfl⟩ | exact ⟨_, drew_more16 _ _ _⟩
end Go.Proofs.Ytgjiophbnblfkaa
