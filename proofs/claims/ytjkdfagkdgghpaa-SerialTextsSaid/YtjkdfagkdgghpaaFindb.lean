/- The document's own Find, and the law's test for few and short texts, for every row of texts. -/
import Derived.Test.YtjkdfagkdgghpaaFind
namespace Go.Proofs.Ytjkdfagkdgghpaa
open Go.RowKit

set_option maxHeartbeats 2000000 in
theorem rfind_some (b off cap : Nat) (xs : List ByteArray) (s : ByteArray) (w : World) (hn : xs.length ≤ 4611686018427387904) (hB : b < w.heap.size) (hc : ∀ j, j < xs.length → w.cell? ⟨b, off + j, none⟩ = some (.string (textAt xs j))) :
    Calls Try.prog 21 #[.slice (some ⟨b, off, none⟩) xs.length cap, .string s] w fun e w' => e = .returned (.tuple #[.int .i64 (findI xs s), .bool (findB xs s)]) ∧ Below w.heap.size w w' := by
  have ht : Texts w.heap.size w (some ⟨b, off, none⟩) xs := Or.inr ⟨b, off, rfl, hB, hc⟩
  have HT := Lib.hid ht
  have HC := Lib.hid hc
  clear hc ht
  go_enter Try.func21, Try.ntmps21
  go_wp2
  go_loop [6] (fun i => ∃ k : Nat, k ≤ xs.length ∧ i = .int .i64 k ∧ seek xs s (xs.length - k) k = seekOf xs s) (fun i => xs.length - (intOf i).toNat)
  case atStart => exact ⟨0, by omega, rfl, rfl⟩
  case round =>
    obtain ⟨k, hk, rfl, hse⟩ := hrel
    have Hse := Lib.hid hse
    clear hse
    by_cases hlt : k < xs.length
    · have hcell := HC.out k hlt
      by_cases he : ((textAt xs k).toList == s.toList) = true
      · have hr : seekOf xs s = k := by rw [← Hse.out, seek_hit xs s _ k (by omega) he]
        have Hr : Hid (findI xs s = k ∧ findB xs s = true) := Lib.hid ⟨by unfold findI; rw [hr, if_pos (by omega)], by unfold findB; rw [hr]; simp⟩
        clear hr
        go_wp2
        go_ret2
        exact ⟨by rw [Hr.out.1, Hr.out.2]; rfl, Below.refl _ _⟩
      · have he : ((textAt xs k).toList == s.toList) = false := by simpa using he
        have Hr : Hid (seek xs s (xs.length - (k + 1)) (k + 1) = seekOf xs s) := Lib.hid (by rw [← Hse.out, seek_miss xs s (xs.length - k) k (by omega) he, Nat.sub_add_eq])
        go_wp2
        go_round
        case rel => exact ⟨k + 1, by omega, by go_num, Hr.out⟩
        case measure => simp [intOf]; omega
    · obtain rfl : k = xs.length := by omega
      have hr : seekOf xs s = -1 := by rw [← Hse.out, Nat.sub_self]; rfl
      have hfB : findB xs s = false := by unfold findB; rw [hr]; rfl
      by_cases h0 : rowOf xs = 0
      · have e0 : (rowOf xs != 0) = false := by rw [h0]; rfl
        have Hr : Hid (findI xs s = underOf xs s ∧ findB xs s = false) := Lib.hid ⟨by unfold findI; rw [hr, if_neg (by omega), if_pos h0], hfB⟩
        clear hr hfB h0
        go_wp2_with (go_at_call 23; refine (rrow_any _ _ _ _ hn HT.out).mono ?_; rintro e w1 ⟨rfl, b1⟩)
        have HC1 : Hid (∀ j, j < xs.length → w1.cell? ⟨b, off + j, none⟩ = some (.string (textAt xs j))) := Lib.hid fun j hj => (b1.cell (p := ⟨b, off + j, none⟩) hB).trans (HC.out j hj)
        go_loop [7] (fun i => ∃ k : Nat, k ≤ xs.length ∧ i = .int .i64 k ∧ under xs s (xs.length - k) k = underOf xs s) (fun i => xs.length - (intOf i).toNat)
        case atStart => exact ⟨0, by omega, rfl, rfl⟩
        case round =>
          obtain ⟨k, hk, rfl, hse⟩ := hrel
          have Hu := Lib.hid hse
          clear hse
          by_cases hlt : k < xs.length
          · have hcell := HC1.out k hlt
            by_cases he : Op.bytesLess (textAt xs k).toList s.toList = true
            · have Hu2 : Hid (under xs s (xs.length - (k + 1)) (k + 1) = underOf xs s) := Lib.hid (by rw [← Hu.out, under_on xs s (xs.length - k) k (by omega) he, Nat.sub_add_eq])
              go_wp2
              go_round
              case rel => exact ⟨k + 1, by omega, by go_num, Hu2.out⟩
              case measure => simp [intOf]; omega
            · have he : Op.bytesLess (textAt xs k).toList s.toList = false := by simpa using he
              have Hu2 : Hid (underOf xs s = k) := Lib.hid (by rw [← Hu.out, under_end xs s _ k (Or.inr he)])
              go_wp2
              go_ret2
              exact ⟨by rw [Hr.out.1, Hr.out.2, Hu2.out]; rfl, b1⟩
          · obtain rfl : k = xs.length := by omega
            have Hu2 : Hid (underOf xs s = xs.length) := Lib.hid (by rw [← Hu.out, Nat.sub_self]; rfl)
            go_wp2
            go_ret2
            exact ⟨by rw [Hr.out.1, Hr.out.2, Hu2.out]; rfl, b1⟩
      · have e0 : (rowOf xs != 0) = true := by rw [bne_iff_ne]; exact h0
        have Hr : Hid (findI xs s = 0 ∧ findB xs s = false) := Lib.hid ⟨by unfold findI; rw [hr, if_neg (by omega), if_neg h0], hfB⟩
        clear hr hfB h0
        go_wp2_with (go_at_call 23; refine (rrow_any _ _ _ _ hn HT.out).mono ?_; rintro e w1 ⟨rfl, b1⟩)
        go_ret2
        exact ⟨by rw [Hr.out.1, Hr.out.2]; rfl, b1⟩
theorem rfind_none (a : Option Addr) (cap : Nat) (s : ByteArray) (w : World) :
    Calls Try.prog 21 #[.slice a 0 cap, .string s] w fun e w' => e = .returned (.tuple #[.int .i64 (findI [] s), .bool (findB [] s)]) ∧ Below w.heap.size w w' := by
  go_enter Try.func21, Try.ntmps21
  go_wp2
  go_loop [6] (fun i => i = .int .i64 0) (fun _ => 0)
  case atStart => rfl
  case round =>
    obtain rfl := hrel
    have e0 : (rowOf [] != 0) = false := rfl
    go_wp2_with (go_at_call 23; refine (rrow_any _ _ [] _ (by simp) (Or.inl rfl)).mono ?_; rintro e w1 ⟨rfl, b1⟩)
    go_loop [7] (fun i => i = .int .i64 0) (fun _ => 0)
    case atStart => rfl
    case round =>
      obtain rfl := hrel
      go_wp2
      go_ret2
      exact ⟨rfl, b1⟩
theorem rfind_any (a : Option Addr) (cap : Nat) (xs : List ByteArray) (s : ByteArray) (w : World) (hn : xs.length ≤ 4611686018427387904) (ht : Texts w.heap.size w a xs) :
    Calls Try.prog 21 #[.slice a xs.length cap, .string s] w fun e w' => e = .returned (.tuple #[.int .i64 (findI xs s), .bool (findB xs s)]) ∧ Below w.heap.size w w' := by
  rcases ht with rfl | ⟨b, off, rfl, hB, hc⟩
  · exact rfind_none a cap s w
  · exact rfind_some b off cap xs s w hn hB hc

def fewFrom (xs : List ByteArray) : Nat → Nat → Bool
  | 0, _ => true
  | n + 1, i => if 100 < (textAt xs i).size then false else fewFrom xs n (i + 1)
def fewB (xs : List ByteArray) : Bool := if 100 < xs.length then false else fewFrom xs xs.length 0
set_option maxHeartbeats 1000000 in
theorem few_some (b off cap : Nat) (xs : List ByteArray) (w : World) (hn : xs.length ≤ 9223372036854775807) (hc : ∀ j, j < xs.length → w.cell? ⟨b, off + j, none⟩ = some (.string (textAt xs j))) :
    Calls Try.prog 19 #[.slice (some ⟨b, off, none⟩) xs.length cap] w fun e w' => e = .returned (.bool (fewB xs)) ∧ w = w' := by
  have HC := Lib.hid hc
  clear hc
  by_cases h1 : 100 < xs.length
  · have Hf : Hid (fewB xs = false) := Lib.hid (by unfold fewB; rw [if_pos h1])
    have h1' : (100 : Int) < (xs.length : Int) := by omega
    go_enter Try.func19, Try.ntmps19
    go_wp2
    go_ret
    exact ⟨by rw [Hf.out]; rfl, rfl⟩
  · have Hf : Hid (fewB xs = fewFrom xs xs.length 0) := Lib.hid (by unfold fewB; rw [if_neg h1])
    go_enter Try.func19, Try.ntmps19
    go_wp2
    go_loop [3] (fun i => ∃ k : Nat, k ≤ xs.length ∧ i = .int .i64 k ∧ fewFrom xs (xs.length - k) k = fewB xs) (fun i => xs.length - (intOf i).toNat)
    case atStart => exact ⟨0, by omega, rfl, Hf.out.symm⟩
    case round =>
      obtain ⟨k, hk, rfl, hse⟩ := hrel
      have Hse := Lib.hid hse
      clear hse
      by_cases hlt : k < xs.length
      · have hcell := HC.out k hlt
        obtain ⟨m, hm⟩ : ∃ m, xs.length - k = m + 1 := ⟨xs.length - k - 1, by omega⟩
        have Hm : Hid (xs.length - (k + 1) = m) := Lib.hid (by omega)
        by_cases hl : 100 < (textAt xs k).size
        · have hl' : (100 : Int) < ((textAt xs k).size : Int) := by omega
          have Hr : Hid (fewB xs = false) := Lib.hid (by rw [← Hse.out, hm]; simp only [fewFrom]; rw [if_pos hl])
          clear hm
          go_wp2
          go_ret
          exact ⟨by rw [Hr.out]; rfl, rfl⟩
        · have hl' : ((textAt xs k).size : Int) ≤ 100 := by omega
          have Hr : Hid (fewFrom xs (xs.length - (k + 1)) (k + 1) = fewB xs) := Lib.hid (by rw [← Hse.out, hm, Hm.out]; simp only [fewFrom]; rw [if_neg hl])
          clear hm
          go_wp2
          go_round
          case rel => exact ⟨k + 1, by omega, by go_num, Hr.out⟩
          case measure => simp [intOf]; omega
      · obtain rfl : k = xs.length := by omega
        have Hr : Hid (fewB xs = true) := Lib.hid (by rw [← Hse.out, Nat.sub_self]; rfl)
        go_wp2
        go_ret
        exact ⟨by rw [Hr.out]; rfl, rfl⟩
theorem few_none (a : Option Addr) (cap : Nat) (w : World) :
    Calls Try.prog 19 #[.slice a 0 cap] w fun e w' => e = .returned (.bool (fewB [])) ∧ w = w' := by
  go_enter Try.func19, Try.ntmps19
  go_wp2
  go_loop [3] (fun i => i = .int .i64 0) (fun _ => 0)
  case atStart => rfl
  case round =>
    obtain rfl := hrel
    go_wp2
    go_ret
    exact ⟨rfl, rfl⟩
theorem few_any (a : Option Addr) (cap : Nat) (xs : List ByteArray) (w : World) (hn : xs.length ≤ 9223372036854775807) (ht : Texts w.heap.size w a xs) :
    Calls Try.prog 19 #[.slice a xs.length cap] w fun e w' => e = .returned (.bool (fewB xs)) ∧ w = w' := by
  rcases ht with rfl | ⟨b, off, rfl, hB, hc⟩
  · exact few_none a cap w
  · exact few_some b off cap xs w hn hc
end Go.Proofs.Ytjkdfagkdgghpaa
