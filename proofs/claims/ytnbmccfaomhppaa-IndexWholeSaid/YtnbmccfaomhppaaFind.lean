/- Finding a text in a row of texts: the library's two searches, serial.Find and the document's own Find, for every row of texts. -/
import Derived.Test.YtnbmccfaomhppaaOrd
namespace Go.Proofs.Ytnbmccfaomhppaa
open Go.RowKit

theorem cnan_any (s : ByteArray) (w : World) : Calls Try.prog 76 #[.string s] w fun e w' => e = .returned (.bool false) ∧ w = w' := by
  go_enter Try.func76, Try.ntmps76
  go_wp2
  go_ret
  first | exact ⟨rfl, rfl⟩ | exact ⟨by simp, rfl⟩
theorem snan_any (s : ByteArray) (w : World) : Calls Try.prog 73 #[.string s] w fun e w' => e = .returned (.bool false) ∧ w = w' := by
  go_enter Try.func73, Try.ntmps73
  go_wp2
  go_ret
  first | exact ⟨rfl, rfl⟩ | exact ⟨by simp, rfl⟩
theorem less_any (s t : ByteArray) (w : World) : Calls Try.prog 72 #[.string s, .string t] w fun e w' => e = .returned (.bool (Op.bytesLess s.toList t.toList)) ∧ w = w' := by
  go_enter Try.func72, Try.ntmps72
  go_wp2_with (go_at_call 76; refine (cnan_any _ _).mono ?_; rintro e w' ⟨rfl, rfl⟩)
  go_ret
  exact ⟨rfl, rfl⟩

/-- What the search by halves knows at a round's head. -/
def Between (xs : List ByteArray) (s : ByteArray) (i j : Value) : Prop :=
  ∃ p q : Nat, i = .int .i64 p ∧ j = .int .i64 q ∧ p ≤ q ∧ q ≤ xs.length ∧ (∀ a, a < p → Op.bytesLess (textAt xs a).toList s.toList = true) ∧ (∀ a, q ≤ a → a < xs.length → Op.bytesLess (textAt xs a).toList s.toList = false)

set_option maxHeartbeats 2000000 in
theorem halves_some (b off cap : Nat) (xs : List ByteArray) (s : ByteArray) (w : World) (hn : xs.length ≤ 4611686018427387904) (hs : rowOf xs = 0) (hc : ∀ j, j < xs.length → w.cell? ⟨b, off + j, none⟩ = some (.string (textAt xs j))) :
    Calls Try.prog 61 #[.slice (some ⟨b, off, none⟩) xs.length cap, .string s] w fun e w' => e = .returned (.tuple #[.int .i64 (findI xs s), .bool (findB xs s)]) ∧ w = w' := by
  have HC := Lib.hid hc
  have HS := Lib.hid hs
  clear hc hs
  go_enter Try.func61, Try.ntmps61
  go_wp2
  go_loop [7, 8] (fun i j => Between xs s i j) (fun i j => (intOf j).toNat - (intOf i).toNat)
  case atStart => exact ⟨0, xs.length, rfl, rfl, by omega, by omega, fun a h => absurd h (by omega), fun a h1 h2 => absurd h2 (by omega)⟩
  case round =>
    obtain ⟨p, q, rfl, rfl, hpq, hq, hlo, hhi⟩ := hrel
    have Hlo := Lib.hid hlo
    have Hhi := Lib.hid hhi
    clear hlo hhi
    by_cases hlt : p < q
    · have hcell := HC.out ((p + q) / 2) (by omega)
      have hm1 : p ≤ (p + q) / 2 := by omega
      have hm2 : (p + q) / 2 < q := by omega
      have Hup := Lib.hid (fun a h1 h2 h3 => not_less_up xs HS.out s ((p + q) / 2) a h1 h2 h3)
      have Hdn := Lib.hid (fun a h1 h2 h3 => less_down xs HS.out s a ((p + q) / 2) h1 h2 h3)
      by_cases hl : Op.bytesLess (textAt xs ((p + q) / 2)).toList s.toList = true
      · have Hl := Lib.hid hl
        go_wp2_with (go_at_call 72; refine (less_any _ _ _).mono ?_; rintro e w' ⟨rfl, rfl⟩)
        go_round
        case rel => exact ⟨(p + q) / 2 + 1, q, by go_num, rfl, by omega, hq, fun a ha => Hdn.out a (by omega) (by omega) Hl.out, Hhi.out⟩
        case measure => simp [intOf]; omega
      · have hl : Op.bytesLess (textAt xs ((p + q) / 2)).toList s.toList = false := by simpa using hl
        have Hl := Lib.hid hl
        go_wp2_with (go_at_call 72; refine (less_any _ _ _).mono ?_; rintro e w' ⟨rfl, rfl⟩)
        go_round
        case rel => exact ⟨p, (p + q) / 2, rfl, by go_num, by omega, by omega, Hlo.out, fun a h1 h2 => Hup.out a h1 h2 Hl.out⟩
        case measure => simp [intOf]; omega
    · have hpq2 : q ≤ p := by omega
      obtain rfl : p = q := by omega
      have Hres := Lib.hid (search_says xs s HS.out p hq Hlo.out Hhi.out)
      by_cases hpn : p < xs.length
      · have hcell := HC.out p hpn
        by_cases he : ((textAt xs p).toList == s.toList) = true
        · have He := Lib.hid he
          go_wp2_with (go_at_call 73; refine (snan_any _ _).mono ?_; rintro e w' ⟨rfl, rfl⟩)
          go_ret2
          exact ⟨by rw [Hres.out.1, Hres.out.2, He.out, decide_eq_true hpn]; rfl, rfl⟩
        · have he : ((textAt xs p).toList == s.toList) = false := by simpa using he
          have He := Lib.hid he
          go_wp2_with (go_at_call 73; refine (snan_any _ _).mono ?_; rintro e w' ⟨rfl, rfl⟩)
          go_ret2
          exact ⟨by rw [Hres.out.1, Hres.out.2, He.out, decide_eq_true hpn]; rfl, rfl⟩
      · have hpn2 : xs.length ≤ p := by omega
        have hd : decide (p < xs.length) = false := by simp; omega
        go_wp2_with (go_at_call 73; refine (snan_any _ _).mono ?_; rintro e w' ⟨rfl, rfl⟩)
        go_ret2
        exact ⟨by rw [Hres.out.1, Hres.out.2, decide_eq_false hpn]; rfl, rfl⟩

theorem halves_none (a : Option Addr) (cap : Nat) (s : ByteArray) (w : World) :
    Calls Try.prog 61 #[.slice a 0 cap, .string s] w fun e w' => e = .returned (.tuple #[.int .i64 (findI [] s), .bool (findB [] s)]) ∧ w = w' := by
  go_enter Try.func61, Try.ntmps61
  go_wp2
  go_loop [7, 8] (fun i j => i = .int .i64 0 ∧ j = .int .i64 0) (fun _ _ => 0)
  case atStart => exact ⟨rfl, rfl⟩
  case round =>
    obtain ⟨rfl, rfl⟩ := hrel
    go_wp2
    go_ret2
    exact ⟨rfl, rfl⟩

theorem halves_any (a : Option Addr) (cap : Nat) (xs : List ByteArray) (s : ByteArray) (w : World) (hn : xs.length ≤ 4611686018427387904) (hs : rowOf xs = 0) (ht : Texts w.heap.size w a xs) :
    Calls Try.prog 61 #[.slice a xs.length cap, .string s] w fun e w' => e = .returned (.tuple #[.int .i64 (findI xs s), .bool (findB xs s)]) ∧ w = w' := by
  rcases ht with rfl | ⟨b, off, rfl, hB, hc⟩
  · exact halves_none a cap s w
  · exact halves_some b off cap xs s w hn hs hc

theorem seek_le (xs : List ByteArray) (s : ByteArray) (n : Nat) : ∀ i, -1 ≤ seek xs s n i ∧ seek xs s n i < i + n ∨ seek xs s n i = -1 := by
  induction n with
  | zero => intro i; exact Or.inr rfl
  | succ n ih =>
    intro i
    simp only [seek]
    split
    · omega
    · have := ih (i + 1); omega

set_option maxHeartbeats 1000000 in
theorem index_some (b off cap : Nat) (xs : List ByteArray) (s : ByteArray) (w : World) (hn : xs.length ≤ 4611686018427387904) (hc : ∀ j, j < xs.length → w.cell? ⟨b, off + j, none⟩ = some (.string (textAt xs j))) :
    Calls Try.prog 62 #[.slice (some ⟨b, off, none⟩) xs.length cap, .string s] w fun e w' => e = .returned (.int .i64 (seekOf xs s)) ∧ w = w' := by
  have HC := Lib.hid hc
  clear hc
  go_enter Try.func62, Try.ntmps62
  go_wp2
  go_loop [8] (fun i => ∃ k : Nat, k ≤ xs.length ∧ i = .int .i64 k ∧ seek xs s (xs.length - k) k = seekOf xs s) (fun i => xs.length - (intOf i).toNat)
  case atStart => exact ⟨0, by omega, rfl, rfl⟩
  case round =>
    obtain ⟨k, hk, rfl, hse⟩ := hrel
    have Hse := Lib.hid hse
    clear hse
    by_cases hlt : k < xs.length
    · have hcell := HC.out k hlt
      by_cases he : ((textAt xs k).toList == s.toList) = true
      · have he2 : (s.toList == (textAt xs k).toList) = true := by rw [beq_iff_eq] at he ⊢; exact he.symm
        have Hr : Hid (seekOf xs s = k) := Lib.hid (by rw [← Hse.out, seek_hit xs s _ k (by omega) he])
        go_wp2
        go_ret
        exact ⟨by rw [Hr.out]; rfl, rfl⟩
      · have he : ((textAt xs k).toList == s.toList) = false := by simpa using he
        have he2 : (s.toList == (textAt xs k).toList) = false := by rw [beq_eq_false_iff_ne] at he ⊢; exact fun e => he e.symm
        have Hr : Hid (seek xs s (xs.length - (k + 1)) (k + 1) = seekOf xs s) := Lib.hid (by rw [← Hse.out, seek_miss xs s (xs.length - k) k (by omega) he, Nat.sub_add_eq])
        go_wp2
        go_round
        case rel => exact ⟨k + 1, by omega, by go_num, Hr.out⟩
        case measure => simp [intOf]; omega
    · obtain rfl : k = xs.length := by omega
      have Hr : Hid (seekOf xs s = -1) := Lib.hid (by rw [← Hse.out, Nat.sub_self]; rfl)
      go_wp2
      go_ret
      exact ⟨by rw [Hr.out]; rfl, rfl⟩
theorem index_none (a : Option Addr) (cap : Nat) (s : ByteArray) (w : World) :
    Calls Try.prog 62 #[.slice a 0 cap, .string s] w fun e w' => e = .returned (.int .i64 (seekOf [] s)) ∧ w = w' := by
  go_enter Try.func62, Try.ntmps62
  go_wp2
  go_loop [8] (fun i => i = .int .i64 0) (fun _ => 0)
  case atStart => rfl
  case round =>
    obtain rfl := hrel
    go_wp2
    go_ret
    exact ⟨rfl, rfl⟩
theorem index_any (a : Option Addr) (cap : Nat) (xs : List ByteArray) (s : ByteArray) (w : World) (hn : xs.length ≤ 4611686018427387904) (ht : Texts w.heap.size w a xs) :
    Calls Try.prog 62 #[.slice a xs.length cap, .string s] w fun e w' => e = .returned (.int .i64 (seekOf xs s)) ∧ w = w' := by
  rcases ht with rfl | ⟨b, off, rfl, hB, hc⟩
  · exact index_none a cap s w
  · exact index_some b off cap xs s w hn hc

theorem Texts.up {B B' : Nat} {w : World} {a : Option Addr} {xs : List ByteArray} (h : Texts B w a xs) (hB : B ≤ B') : Texts B' w a xs := by
  rcases h with h | ⟨b, off, ha, hb, hc⟩
  · exact Or.inl h
  · exact Or.inr ⟨b, off, ha, by omega, hc⟩

set_option maxHeartbeats 1000000 in
theorem find_any (a : Option Addr) (cap : Nat) (xs : List ByteArray) (s : ByteArray) (w : World) (hn : xs.length ≤ 4611686018427387904) (ht : Texts w.heap.size w a xs) :
    Calls Try.prog 46 #[.slice a xs.length cap, .string s] w fun e w' => e = .returned (.tuple #[.int .i64 (findI xs s), .bool (findB xs s)]) ∧ Below w.heap.size w w' := by
  by_cases hr : rowOf xs = 0
  · have e0 : (rowOf xs == 0) = true := by rw [hr]; rfl
    have HR := Lib.hid hr
    clear hr
    go_enter Try.func46, Try.ntmps46
    go_wp2_with (first | (go_at_call 25; refine (row_any _ _ _ _ hn ht).mono ?_; rintro e w1 ⟨rfl, b1⟩) | (go_at_call 61; refine (halves_any _ _ _ _ _ hn HR.out ((ht.below b1).up b1.size)).mono ?_; rintro e w2 ⟨rfl, rfl⟩))
    go_ret2
    exact ⟨rfl, b1⟩
  · have e0 : (rowOf xs == 0) = false := by rw [beq_eq_false_iff_ne]; exact hr
    by_cases hk : 0 ≤ seekOf xs s
    · have Hi : Hid (findI xs s = seekOf xs s ∧ findB xs s = true) := Lib.hid ⟨by unfold findI; rw [if_pos hk], decide_eq_true hk⟩
      clear hr
      go_enter Try.func46, Try.ntmps46
      go_wp2_with (first | (go_at_call 25; refine (row_any _ _ _ _ hn ht).mono ?_; rintro e w1 ⟨rfl, b1⟩) | (go_at_call 62; refine (index_any _ _ _ _ _ hn ((ht.below b1).up b1.size)).mono ?_; rintro e w2 ⟨rfl, rfl⟩))
      go_ret2
      exact ⟨by rw [Hi.out.1, Hi.out.2]; rfl, b1⟩
    · have hk2 : seekOf xs s < 0 := by omega
      have Hi : Hid (findI xs s = 0 ∧ findB xs s = false) := Lib.hid ⟨by unfold findI; rw [if_neg hk, if_neg hr], decide_eq_false hk⟩
      clear hr hk
      go_enter Try.func46, Try.ntmps46
      go_wp2_with (first | (go_at_call 25; refine (row_any _ _ _ _ hn ht).mono ?_; rintro e w1 ⟨rfl, b1⟩) | (go_at_call 62; refine (index_any _ _ _ _ _ hn ((ht.below b1).up b1.size)).mono ?_; rintro e w2 ⟨rfl, rfl⟩))
      go_ret2
      exact ⟨by rw [Hi.out.1, Hi.out.2]; rfl, b1⟩
end Go.Proofs.Ytnbmccfaomhppaa
