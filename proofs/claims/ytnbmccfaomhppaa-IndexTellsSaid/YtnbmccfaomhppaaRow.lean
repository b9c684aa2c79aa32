/- Rows of texts: what the plain words say of them, and serial.Row and the document's own Row, for every row of texts. -/
import Derived.Test.YtnbmccfaomhppaaRefc
import Derived.WalkLawsBesides
import Derived.WalkSpells
import Derived.Deep.QuietTactic
import Derived.BigQuiet
namespace Go.Proofs.Ytnbmccfaomhppaa
open Go.RowKit

theorem below_drewN {B : Nat} {a w : World} (h : Below B a w) (n : Nat) : Below B a (w.drewN n) := ⟨h.os, h.tape, h.output, h.size, h.block⟩
def ltS (a b : ByteArray) : Bool := Op.bytesLess a.toList b.toList
def eqS (a b : ByteArray) : Bool := a.toList == b.toList
def textAt (xs : List ByteArray) (i : Nat) : ByteArray := xs.getD i ByteArray.empty
/-- What is wrong with the text at a place, of those behind it nothing is asked. -/
def stepOf (xs : List ByteArray) (i : Nat) : Int :=
  if checkOf (textAt xs i).data.toList = 9 then 9 else if 0 < i ∧ (Op.bytesLess (textAt xs i).toList (textAt xs (i - 1)).toList || (textAt xs i).toList == (textAt xs (i - 1)).toList) = true then 32 else 0
def rowFrom (xs : List ByteArray) : Nat → Nat → Int
  | 0, _ => 0
  | n + 1, i => if stepOf xs i = 0 then rowFrom xs n (i + 1) else stepOf xs i
def rowOf (xs : List ByteArray) : Int := rowFrom xs xs.length 0

theorem check_two (l : List UInt8) : checkOf l = 0 ∨ checkOf l = 9 := by unfold checkOf; split <;> simp
theorem rowFrom_stop (xs : List ByteArray) (n i : Nat) (h : 0 < n) (hs : stepOf xs i ≠ 0) : rowFrom xs n i = stepOf xs i := by
  obtain ⟨m, rfl⟩ : ∃ m, n = m + 1 := ⟨n - 1, by omega⟩
  simp only [rowFrom]; rw [if_neg hs]
theorem rowFrom_go (xs : List ByteArray) (n i : Nat) (h : 0 < n) (hs : stepOf xs i = 0) : rowFrom xs n i = rowFrom xs (n - 1) (i + 1) := by
  obtain ⟨m, rfl⟩ : ∃ m, n = m + 1 := ⟨n - 1, by omega⟩
  simp only [rowFrom]; rw [if_pos hs]; rfl

/-- A slice value whose elements are just these texts; its cells lie below block B. -/
def Texts (B : Nat) (w : World) (a : Option Addr) (xs : List ByteArray) : Prop :=
  xs = [] ∨ ∃ b off, a = some ⟨b, off, none⟩ ∧ b < B ∧ ∀ j, j < xs.length → w.cell? ⟨b, off + j, none⟩ = some (.string (textAt xs j))
theorem Texts.below {B : Nat} {w w' : World} {a : Option Addr} {xs : List ByteArray} (h : Texts B w a xs) (hb : Below B w w') : Texts B w' a xs := by
  rcases h with h | ⟨b, off, ha, hB, hc⟩
  · exact Or.inl h
  · exact Or.inr ⟨b, off, ha, hB, fun j hj => (hb.cell (p := ⟨b, off + j, none⟩) hB).trans (hc j hj)⟩

set_option maxHeartbeats 1000000 in
theorem row_some (b off cap : Nat) (xs : List ByteArray) (w : World) (hn : xs.length ≤ 4611686018427387904) (hB : b < w.heap.size) (hc : ∀ j, j < xs.length → w.cell? ⟨b, off + j, none⟩ = some (.string (textAt xs j))) :
    Calls Try.prog 25 #[.slice (some ⟨b, off, none⟩) xs.length cap] w fun e w' => e = .returned (.int .i64 (rowOf xs)) ∧ Below w.heap.size w w' := by
  have HC := Lib.hid hc
  clear hc
  go_enter Try.func25, Try.ntmps25
  go_wp2
  go_loopw [8] (fun i wr => ∃ k : Nat, k ≤ xs.length ∧ i = .int .i64 k ∧ Below w.heap.size w wr ∧ rowFrom xs (xs.length - k) k = rowOf xs) (fun i _ => xs.length - (intOf i).toNat)
  case atStart => exact ⟨0, by omega, rfl, Below.refl _ _, rfl⟩
  case round =>
    obtain ⟨k, hk, rfl, hbw, hrow⟩ := hrel
    by_cases hlt : k < xs.length
    · have hcell : wr.cell? ⟨b, off + k, none⟩ = some (.string (textAt xs k)) := (hbw.cell (p := ⟨b, off + k, none⟩) hB).trans (HC.out k hlt)
      have Hrow := Lib.hid hrow
      clear hrow
      rcases check_two (textAt xs k).data.toList with h0 | h0
      · have e0 : (checkOf (textAt xs k).data.toList != 0) = false := by rw [h0]; rfl
        have H0 := Lib.hid h0
        clear h0
        by_cases hk0 : 0 < k
        · have hB2 := hbw
          by_cases hle : (Op.bytesLess (textAt xs k).toList (textAt xs (k - 1)).toList || (textAt xs k).toList == (textAt xs (k - 1)).toList) = true
          · have hs : stepOf xs k = 32 := by unfold stepOf; rw [if_neg (by rw [H0.out]; decide), if_pos ⟨hk0, hle⟩]
            have He : Hid (rowOf xs = 32) := Lib.hid (by rw [← Hrow.out, rowFrom_stop xs _ k (by omega) (by rw [hs]; decide), hs])
            clear hs
            go_wp2_with (go_at_call 28; refine (check_any _ _).mono ?_; rintro e w2 ⟨rfl, b2⟩; have hc2 : w2.cell? ⟨b, off + (k - 1), none⟩ = some (.string (textAt xs (k - 1))) := ((hbw.trans (b2.mono hbw.size)).cell (p := ⟨b, off + (k - 1), none⟩) hB).trans (HC.out (k - 1) (by omega)))
            go_ret
            exact ⟨by rw [He.out]; rfl, hbw.trans (b2.mono hbw.size)⟩
          · have hle : (Op.bytesLess (textAt xs k).toList (textAt xs (k - 1)).toList || (textAt xs k).toList == (textAt xs (k - 1)).toList) = false := by simpa using hle
            have hs : stepOf xs k = 0 := by unfold stepOf; rw [if_neg (by rw [H0.out]; decide), if_neg (by rw [hle]; simp)]
            have He : Hid (rowFrom xs (xs.length - (k + 1)) (k + 1) = rowOf xs) := Lib.hid (by rw [← Hrow.out, rowFrom_go xs (xs.length - k) k (by omega) hs, Nat.sub_add_eq])
            clear hs
            go_wp2_with (go_at_call 28; refine (check_any _ _).mono ?_; rintro e w2 ⟨rfl, b2⟩; have hc2 : w2.cell? ⟨b, off + (k - 1), none⟩ = some (.string (textAt xs (k - 1))) := ((hbw.trans (b2.mono hbw.size)).cell (p := ⟨b, off + (k - 1), none⟩) hB).trans (HC.out (k - 1) (by omega)))
            go_roundw
            case rel => exact ⟨k + 1, by omega, by go_num, hbw.trans (b2.mono hbw.size), He.out⟩
            case measure => simp [intOf]; omega
        · have hk1 : k < 1 := by omega
          have hs : stepOf xs k = 0 := by unfold stepOf; rw [if_neg (by rw [H0.out]; decide), if_neg (by omega)]
          have He : Hid (rowFrom xs (xs.length - (k + 1)) (k + 1) = rowOf xs) := Lib.hid (by rw [← Hrow.out, rowFrom_go xs (xs.length - k) k (by omega) hs, Nat.sub_add_eq])
          clear hs hk0
          go_wp2_with (go_at_call 28; refine (check_any _ _).mono ?_; rintro e w2 ⟨rfl, b2⟩)
          go_roundw
          case rel => exact ⟨k + 1, by omega, by go_num, hbw.trans (b2.mono hbw.size), He.out⟩
          case measure => simp [intOf]; omega
      · have e0 : (checkOf (textAt xs k).data.toList != 0) = true := by rw [h0]; rfl
        have hs : stepOf xs k = 9 := by unfold stepOf; rw [if_pos h0]
        have He : Hid (rowOf xs = checkOf (textAt xs k).data.toList) := Lib.hid (by rw [← Hrow.out, rowFrom_stop xs _ k (by omega) (by rw [hs]; decide), hs, h0])
        clear hs h0
        go_wp2_with (go_at_call 28; refine (check_any _ _).mono ?_; rintro e w2 ⟨rfl, b2⟩)
        go_ret
        exact ⟨by rw [He.out]; rfl, hbw.trans (b2.mono hbw.size)⟩
    · obtain rfl : k = xs.length := by omega
      have He : Hid (rowOf xs = 0) := Lib.hid (by rw [← hrow, Nat.sub_self]; rfl)
      clear hrow
      go_wp2
      go_ret
      exact ⟨by rw [He.out]; rfl, hbw⟩

theorem row_none (a : Option Addr) (cap : Nat) (w : World) :
    Calls Try.prog 25 #[.slice a 0 cap] w fun e w' => e = .returned (.int .i64 (rowOf [])) ∧ Below w.heap.size w w' := by
  go_enter Try.func25, Try.ntmps25
  go_wp2
  go_loopw [8] (fun i wr => i = .int .i64 0 ∧ wr = w) (fun _ _ => 0)
  case atStart => exact ⟨rfl, rfl⟩
  case round =>
    obtain ⟨rfl, rfl⟩ := hrel
    go_wp2
    go_ret
    exact ⟨rfl, Below.refl _ _⟩

theorem row_any (a : Option Addr) (cap : Nat) (xs : List ByteArray) (w : World) (hn : xs.length ≤ 4611686018427387904) (ht : Texts w.heap.size w a xs) :
    Calls Try.prog 25 #[.slice a xs.length cap] w fun e w' => e = .returned (.int .i64 (rowOf xs)) ∧ Below w.heap.size w w' := by
  rcases ht with rfl | ⟨b, off, rfl, hB, hc⟩
  · exact row_none a cap w
  · exact row_some b off cap xs w hn hB hc

set_option maxHeartbeats 1000000 in
theorem rrow_some (b off cap : Nat) (xs : List ByteArray) (w : World) (hn : xs.length ≤ 4611686018427387904) (hB : b < w.heap.size) (hc : ∀ j, j < xs.length → w.cell? ⟨b, off + j, none⟩ = some (.string (textAt xs j))) :
    Calls Try.prog 23 #[.slice (some ⟨b, off, none⟩) xs.length cap] w fun e w' => e = .returned (.int .i64 (rowOf xs)) ∧ Below w.heap.size w w' := by
  have HC := Lib.hid hc
  clear hc
  go_enter Try.func23, Try.ntmps23
  go_wp2
  go_loopw [3] (fun i wr => ∃ k : Nat, k ≤ xs.length ∧ i = .int .i64 k ∧ Below w.heap.size w wr ∧ rowFrom xs (xs.length - k) k = rowOf xs) (fun i _ => xs.length - (intOf i).toNat)
  case atStart => exact ⟨0, by omega, rfl, Below.refl _ _, rfl⟩
  case round =>
    obtain ⟨k, hk, rfl, hbw, hrow⟩ := hrel
    by_cases hlt : k < xs.length
    · have hcell : wr.cell? ⟨b, off + k, none⟩ = some (.string (textAt xs k)) := (hbw.cell (p := ⟨b, off + k, none⟩) hB).trans (HC.out k hlt)
      have Hrow := Lib.hid hrow
      clear hrow
      rcases check_two (textAt xs k).data.toList with h0 | h0
      · have e0 : (checkOf (textAt xs k).data.toList != 0) = false := by rw [h0]; rfl
        have H0 := Lib.hid h0
        clear h0
        by_cases hk0 : 0 < k
        · by_cases hle : (Op.bytesLess (textAt xs k).toList (textAt xs (k - 1)).toList || (textAt xs k).toList == (textAt xs (k - 1)).toList) = true
          · have hs : stepOf xs k = 32 := by unfold stepOf; rw [if_neg (by rw [H0.out]; decide), if_pos ⟨hk0, hle⟩]
            have He : Hid (rowOf xs = 32) := Lib.hid (by rw [← Hrow.out, rowFrom_stop xs _ k (by omega) (by rw [hs]; decide), hs])
            clear hs
            go_wp2_with (go_at_call 33; refine (rcheck_any _ _).mono ?_; rintro e w2 ⟨rfl, b2⟩; have hc2 : w2.cell? ⟨b, off + (k - 1), none⟩ = some (.string (textAt xs (k - 1))) := ((hbw.trans (b2.mono hbw.size)).cell (p := ⟨b, off + (k - 1), none⟩) hB).trans (HC.out (k - 1) (by omega)); have hc3 : w2.cell? ⟨b, off + k, none⟩ = some (.string (textAt xs k)) := ((hbw.trans (b2.mono hbw.size)).cell (p := ⟨b, off + k, none⟩) hB).trans (HC.out k hlt))
            go_quiet (fail)
            go_wp2
            go_ret
            exact ⟨by rw [He.out]; rfl, below_drewN (hbw.trans (b2.mono hbw.size)) _⟩
          · have hle : (Op.bytesLess (textAt xs k).toList (textAt xs (k - 1)).toList || (textAt xs k).toList == (textAt xs (k - 1)).toList) = false := by simpa using hle
            have hs : stepOf xs k = 0 := by unfold stepOf; rw [if_neg (by rw [H0.out]; decide), if_neg (by rw [hle]; simp)]
            have He : Hid (rowFrom xs (xs.length - (k + 1)) (k + 1) = rowOf xs) := Lib.hid (by rw [← Hrow.out, rowFrom_go xs (xs.length - k) k (by omega) hs, Nat.sub_add_eq])
            clear hs
            go_wp2_with (go_at_call 33; refine (rcheck_any _ _).mono ?_; rintro e w2 ⟨rfl, b2⟩; have hc2 : w2.cell? ⟨b, off + (k - 1), none⟩ = some (.string (textAt xs (k - 1))) := ((hbw.trans (b2.mono hbw.size)).cell (p := ⟨b, off + (k - 1), none⟩) hB).trans (HC.out (k - 1) (by omega)); have hc3 : w2.cell? ⟨b, off + k, none⟩ = some (.string (textAt xs k)) := ((hbw.trans (b2.mono hbw.size)).cell (p := ⟨b, off + k, none⟩) hB).trans (HC.out k hlt))
            go_quiet (fail)
            go_wp2
            go_roundw
            case rel => exact ⟨k + 1, by omega, by go_num, below_drewN (hbw.trans (b2.mono hbw.size)) _, He.out⟩
            case measure => simp [intOf]; omega
        · have hk1 : decide (0 < k) = false := by simp; omega
          have hk2 : k < 1 := by omega
          have hs : stepOf xs k = 0 := by unfold stepOf; rw [if_neg (by rw [H0.out]; decide), if_neg (by omega)]
          have He : Hid (rowFrom xs (xs.length - (k + 1)) (k + 1) = rowOf xs) := Lib.hid (by rw [← Hrow.out, rowFrom_go xs (xs.length - k) k (by omega) hs, Nat.sub_add_eq])
          clear hs hk0
          go_wp2_with (go_at_call 33; refine (rcheck_any _ _).mono ?_; rintro e w2 ⟨rfl, b2⟩)
          go_quiet (fail)
          go_wp2
          go_roundw
          case rel => exact ⟨k + 1, by omega, by go_num, below_drewN (hbw.trans (b2.mono hbw.size)) _, He.out⟩
          case measure => simp [intOf]; omega
      · have e0 : (checkOf (textAt xs k).data.toList != 0) = true := by rw [h0]; rfl
        have hs : stepOf xs k = 9 := by unfold stepOf; rw [if_pos h0]
        have He : Hid (rowOf xs = 9) := Lib.hid (by rw [← Hrow.out, rowFrom_stop xs _ k (by omega) (by rw [hs]; decide), hs])
        clear hs h0
        go_wp2_with (go_at_call 33; refine (rcheck_any _ _).mono ?_; rintro e w2 ⟨rfl, b2⟩)
        go_ret
        exact ⟨by rw [He.out]; rfl, hbw.trans (b2.mono hbw.size)⟩
    · obtain rfl : k = xs.length := by omega
      have He : Hid (rowOf xs = 0) := Lib.hid (by rw [← hrow, Nat.sub_self]; rfl)
      clear hrow
      go_wp2
      go_ret
      exact ⟨by rw [He.out]; rfl, hbw⟩

theorem rrow_none (a : Option Addr) (cap : Nat) (w : World) :
    Calls Try.prog 23 #[.slice a 0 cap] w fun e w' => e = .returned (.int .i64 (rowOf [])) ∧ Below w.heap.size w w' := by
  go_enter Try.func23, Try.ntmps23
  go_wp2
  go_loopw [3] (fun i wr => i = .int .i64 0 ∧ wr = w) (fun _ _ => 0)
  case atStart => exact ⟨rfl, rfl⟩
  case round =>
    obtain ⟨rfl, rfl⟩ := hrel
    go_wp2
    go_ret
    exact ⟨rfl, Below.refl _ _⟩

theorem rrow_any (a : Option Addr) (cap : Nat) (xs : List ByteArray) (w : World) (hn : xs.length ≤ 4611686018427387904) (ht : Texts w.heap.size w a xs) :
    Calls Try.prog 23 #[.slice a xs.length cap] w fun e w' => e = .returned (.int .i64 (rowOf xs)) ∧ Below w.heap.size w w' := by
  rcases ht with rfl | ⟨b, off, rfl, hB, hc⟩
  · exact rrow_none a cap w
  · exact rrow_some b off cap xs w hn hB hc
end Go.Proofs.Ytnbmccfaomhppaa
