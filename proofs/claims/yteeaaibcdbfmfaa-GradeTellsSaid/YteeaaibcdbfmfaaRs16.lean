/- The document's Score and Answers: for every slice of numbers, in every world. -/
import Derived.Test.YteeaaibcdbfmfaaRf16
namespace Go.Proofs.Yteeaaibcdbfmfaa
open Go.RowKit

theorem mem_at {l : List Int} {x : Int} : x ∈ l ↔ ∃ j, j < l.length ∧ numAt l j = x := by
  constructor
  · intro h
    obtain ⟨j, hj, e⟩ := List.getElem_of_mem h
    refine ⟨j, hj, ?_⟩
    unfold numAt
    rw [List.getD_eq_getElem?_getD, List.getElem?_eq_getElem hj]
    exact e
  · rintro ⟨j, hj, rfl⟩
    exact num_mem l j hj
/-- Numbers of questions, as far as a slice of them is walked. -/
def Within (n : Nat) (fs : List Int) : Prop := ∀ k, k < fs.length → ∃ j : Nat, numAt fs k = j ∧ j < n
theorem failV_within (l : List Int) (a : Int) : Within l.length (failV l a) := by
  intro k hk
  unfold failV at hk ⊢
  split at hk
  · rename_i h
    rw [if_pos h]
    obtain ⟨i, h1, h2, _⟩ := (noes_mem a l.length _).1 (num_mem _ k hk)
    exact ⟨i, h1, h2⟩
  · simp at hk
theorem failV_len {l : List Int} {a : Int} (_ : l.length ≤ 1000000) : (failV l a).length ≤ l.length := by
  unfold failV
  split
  · exact noes_len a l.length
  · simp
theorem failV_asks {l : List Int} {a : Int} (h : 0 < (failV l a).length) : Asks l := by
  unfold failV at h
  split at h
  · rename_i q; exact q.1
  · simp at h
theorem sum_take (l fs : List Int) {k : Nat} (h : k < fs.length) : sumF l (fs.take (k + 1)) = sumF l (fs.take k) + numAt l (numAt fs k).toNat := by
  rw [take_more fs k h, sumF_more]
theorem sum_take_small {l fs : List Int} (hA : ∀ j, j < l.length → AskAt l j) (hW : Within l.length fs) (k : Nat) (hk : k ≤ fs.length) : 0 ≤ sumF l (fs.take k) ∧ sumF l (fs.take k) ≤ 1000 * k := by
  induction k with
  | zero => simp [sumF]
  | succ k ih =>
    have h1 := ih (by omega)
    obtain ⟨j, hj, hjn⟩ := hW k (by omega)
    have h2 := hA j hjn
    unfold AskAt at h2
    rw [sum_take l fs (by omega), hj, Int.toNat_natCast]
    omega
set_option maxHeartbeats 1000000 in
theorem rscore16_any (a : Option Addr) (cap : Nat) (xs : List Int) (m : Int) (w : World) (hx : Ints w.heap.size w a xs) (hn : xs.length ≤ 1000000) (hwf : (Lit.int .i64 m).wf = true) :
    Calls Try.prog 26 #[.slice a xs.length cap, .int .i64 m] w fun e w' => e = .returned (.tuple #[.int .i64 (scoreV xs m), .int .i64 (failE xs m)]) ∧ Below w.heap.size w w' := by
  have HF := Lib.hid (rfailed16_any a cap xs m w hx hn hwf)
  have HX := Lib.hid hx
  have HS : Hid (scoreV xs m = sumF xs (failV xs m)) := Lib.hid rfl
  have HL := Lib.hid (failV_len (a := m) hn)
  have HW := Lib.hid (failV_within xs m)
  have HA : Hid (0 < (failV xs m).length → Asks xs) := Lib.hid failV_asks
  clear hx hwf
  generalize failV xs m = fs at *
  generalize failE xs m = E at *
  go_enter Try.func26, Try.ntmps26
  go_wp2_with (go_at_call 31; refine HF.out.mono ?_; rintro e w2 ⟨a2, c2, rfl, hc2, hi2, hb2⟩; have HI := Lib.hid hi2; have HB := Lib.hid hb2; clear hc2 hi2 hb2)
  go_loopw [8, 9] (fun s8 s9 wr => ∃ k : Nat, s8 = .int .i64 (sumF xs (fs.take k)) ∧ s9 = .int .i64 k ∧ wr = w2 ∧ k ≤ fs.length) (fun _ i _ => fs.length - (intOf i).toNat)
  case atStart => exact ⟨0, rfl, rfl, rfl, by omega⟩
  case round =>
    obtain ⟨k, rfl, rfl, rfl, hk⟩ := hrel
    by_cases hlt : k < fs.length
    · have hA := HA.out (by omega)
      have hl := HL.out
      have h8 := hA.2.1
      have hs := sum_take_small hA.2.2 HW.out k hk
      have hs2 := sum_take_small hA.2.2 HW.out (k + 1) (by omega)
      have hst := sum_take xs fs hlt
      obtain ⟨j, hj, hjn⟩ := HW.out k hlt
      rcases HI.out with h | ⟨b2, o2, rfl, _, hc2⟩
      · exfalso; rw [h] at hlt; simp at hlt
      rcases HX.out.below HB.out with h | ⟨b, off, rfl, _, hc⟩
      · exfalso; rw [h] at hjn; simp at hjn
      have c2 := hc2 k hlt
      have c0 := hc j hjn
      rw [hj, Int.toNat_natCast] at hst
      rw [hj] at c2
      have i1 : (k : Int) < (fs.length : Int) := by omega
      have i3 : (0 : Int) ≤ (k : Int) := by omega
      have i4 : (j : Int) < (xs.length : Int) := by omega
      have i5 : (0 : Int) ≤ (j : Int) := by omega
      have e1 : IntKind.i64.wrap (sumF xs (fs.take k) + numAt xs j) = sumF xs (fs.take (k + 1)) := by rw [← hst]; exact IntWalk.i64_in _ (by omega)
      clear hst hs hs2 hc hc2 hA hj
      go_wp2
      go_roundw
      case rel => exact ⟨k + 1, by first | rfl | trivial, by first | go_num | trivial, by first | rfl | trivial, by omega⟩
      case measure => simp [intOf]; omega
    · obtain rfl : k = fs.length := by omega
      go_wp2
      go_ret2
      exact ⟨by rw [HS.out, List.take_length]; rfl, HB.out⟩
theorem fails_lt {n : Nat} {f : List Int} (h : Fails n f) {i j : Nat} (hij : i < j) (hj : j < f.length) : numAt f i < numAt f j := by
  induction j with
  | zero => omega
  | succ j ih =>
    have h1 := (h (j + 1) hj).2.2 (by omega)
    rw [Nat.add_sub_cancel] at h1
    rcases (by omega : i < j ∨ i = j) with q | q
    · have := ih q (by omega); omega
    · rw [q]; exact h1
theorem ansTo_small (f : List Int) (k : Nat) : 0 ≤ ansTo f k ∧ ansTo f k < ((2 ^ k : Nat) : Int) := by
  induction k with
  | zero => exact ⟨Int.le_refl _, (by decide : (0 : Int) < ((2 ^ 0 : Nat) : Int))⟩
  | succ k ih =>
    have e : (2 ^ (k + 1) : Nat) = 2 * 2 ^ k := by rw [Nat.pow_succ]; omega
    have hp := Nat.two_pow_pos k
    rw [ansTo, e]
    split <;> omega
/-- How far the failed ones are passed when question i is at hand. -/
structure Passed (f : List Int) (i p : Nat) : Prop where
  le : p ≤ f.length
  low : ∀ j, j < p → numAt f j < i
  high : ∀ j, p ≤ j → j < f.length → (i : Int) ≤ numAt f j
theorem Passed.hit {n : Nat} {f : List Int} (h : Fails n f) {i p : Nat} (hp : Passed f i p) (hlt : p < f.length) (e : numAt f p = i) : Passed f (i + 1) (p + 1) ∧ ansTo f (i + 1) = ansTo f i := by
  refine ⟨⟨by omega, fun j hj => ?_, fun j h1 h2 => ?_⟩, ?_⟩
  · rcases (by omega : j < p ∨ j = p) with q | q
    · have := hp.low j q; omega
    · rw [q, e]; omega
  · have := fails_lt h (i := p) (j := j) (by omega) h2
    omega
  · rw [ansTo, if_pos (mem_at.2 ⟨p, hlt, e⟩)]
theorem Passed.miss {n : Nat} {f : List Int} (h : Fails n f) {i p : Nat} (hp : Passed f i p) (e : p < f.length → numAt f p ≠ i) : Passed f (i + 1) p ∧ ansTo f (i + 1) = ansTo f i + ((2 ^ i : Nat) : Int) := by
  have up : ∀ j, p ≤ j → j < f.length → (i : Int) + 1 ≤ numAt f j := fun j h1 h2 => by
    have h3 := hp.high p (Nat.le_refl _) (by omega)
    have h4 := e (by omega)
    rcases (by omega : p < j ∨ p = j) with q | q
    · have := fails_lt h q h2; omega
    · rw [← q]; omega
  refine ⟨⟨hp.le, fun j hj => by have := hp.low j hj; omega, fun j h1 h2 => by have := up j h1 h2; omega⟩, ?_⟩
  rw [ansTo, if_neg]
  intro hm
  obtain ⟨j, hj, ej⟩ := mem_at.1 hm
  rcases (by omega : j < p ∨ p ≤ j) with q | q
  · have := hp.low j q; omega
  · have := up j q hj; omega
end Go.Proofs.Yteeaaibcdbfmfaa
