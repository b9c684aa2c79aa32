/- serial.Mark answers for every text of whatever bytes just what the plain words say; it leaves what lay there. -/
import Derived.Test.YtnbmccfaomhppaaCheck
import Derived.Test.YtnbmccfaomhppaaRows
import Derived.Test.YtnbmccfaomhppaaShelf
import Derived.Test.YtnbmccfaomhppaaProg
import Derived.Lib.RuneBytes
import Derived.WalkKit
import Derived.BigCall
import Derived.Outline
import Derived.Lib.FrozenHead2
import Derived.Lib.OthersKept
import Derived.Lib.Builder
namespace Go.Proofs.Ytnbmccfaomhppaa
open Go.RowKit

def symAt (i : Int) : Int := if i < 10 then 48 + i else if i < 36 then 55 + i else 42
def numOf (n : Int) : List UInt8 → Int
  | [] => n
  | c :: l => numOf (if c.toNat = 45 then n else (n + valueOf (c.toNat : Int)) * 2 % 37) l
def markR (l : List UInt8) : Int := if serialB okC l then symAt ((38 - numOf 0 l) % 37) else 0
theorem numOf_snoc (n : Int) (l : List UInt8) (c : UInt8) : numOf n (l ++ [c]) = if c.toNat = 45 then numOf n l else (numOf n l + valueOf (c.toNat : Int)) * 2 % 37 := by
  induction l generalizing n with
  | nil => rfl
  | cons x l ih => simp only [List.cons_append, numOf, ih]
theorem value_le (r : Int) : -1 ≤ valueOf r ∧ valueOf r ≤ 36 := by
  unfold valueOf
  split
  · omega
  · split
    · omega
    · split <;> omega
theorem numOf_bd (l : List UInt8) : 0 ≤ numOf 0 l ∧ numOf 0 l < 37 := by
  have h : ∀ (l : List UInt8) (n : Int), 0 ≤ n → n < 37 → 0 ≤ numOf n l ∧ numOf n l < 37 := by
    intro l
    induction l with
    | nil => intro n h1 h2; exact ⟨h1, h2⟩
    | cons c l ih =>
      intro n h1 h2
      simp only [numOf]
      split
      · exact ih n h1 h2
      · exact ih _ (by omega) (by omega)
  exact h l 0 (by omega) (by omega)
theorem value_okC {c : UInt8} (h : okC c = true) (hd : ¬ c.toNat = 45) : 0 ≤ valueOf (c.toNat : Int) ∧ valueOf (c.toNat : Int) ≤ 35 := by
  unfold okC at h
  simp at h
  unfold valueOf
  split
  · omega
  · split
    · omega
    · split <;> omega
theorem class_dash {c : UInt8} (h : okC c = true) : (classOf (c.toNat : Int) != 3) = !decide (c.toNat = 45) := by
  unfold okC at h
  simp at h
  unfold classOf
  by_cases h1 : (97 ≤ (c.toNat : Int) ∧ (c.toNat : Int) ≤ 122) ∨ (65 ≤ (c.toNat : Int) ∧ (c.toNat : Int) ≤ 90)
  · rw [if_pos h1, decide_eq_false (by omega)]; rfl
  · rw [if_neg h1]
    by_cases h2 : 48 ≤ (c.toNat : Int) ∧ (c.toNat : Int) ≤ 57
    · rw [if_pos h2, decide_eq_false (by omega)]; rfl
    · rw [if_neg h2, if_pos (by omega), decide_eq_true (by omega)]; rfl
/-- In a serial every sign may stand. -/
theorem run_all (ok : UInt8 → Bool) (l : List UInt8) (d : Bool) (h : (run ok d l).isSome = true) : ∀ c ∈ l, ok c = true := by
  induction l generalizing d with
  | nil => intro c hc; cases hc
  | cons x l ih =>
    intro c hc
    simp only [run] at h
    split at h
    · rename_i hx
      rcases List.mem_cons.1 hc with rfl | hc
      · simp at hx; exact hx.1
      · exact ih _ h c hc
    · cases h
theorem serial_all {ok : UInt8 → Bool} {l : List UInt8} (h : serialB ok l = true) : ∀ c ∈ l, ok c = true := by
  unfold serialB at h
  simp at h
  exact run_all ok l true (by rw [h.2]; rfl)
theorem okC_ascii {c : UInt8} (h : okC c = true) : c.toNat < 128 := by
  rcases Nat.lt_or_ge c.toNat 128 with h' | h'
  · exact h'
  · rw [okC_high h'] at h; cases h

set_option maxRecDepth 100000 in
theorem sym_index (j : Int) (h0 : 0 ≤ j) (h1 : j < 37) (w : World) : (Instr.index 9 (.string ⟨#[48, 49, 50, 51, 52, 53, 54, 55, 56, 57, 65, 66, 67, 68, 69, 70, 71, 72, 73, 74, 75, 76, 77, 78, 79, 80, 81, 82, 83, 84, 85, 86, 87, 88, 89, 90, 42]⟩) (.int .i64 j)).run Try.prog w = .ok (.int .u8 (symAt j)) w := by
  have : j = 0 ∨ j = 1 ∨ j = 2 ∨ j = 3 ∨ j = 4 ∨ j = 5 ∨ j = 6 ∨ j = 7 ∨ j = 8 ∨ j = 9 ∨ j = 10 ∨ j = 11 ∨ j = 12 ∨ j = 13 ∨ j = 14 ∨ j = 15 ∨ j = 16 ∨ j = 17 ∨ j = 18 ∨ j = 19 ∨ j = 20 ∨ j = 21 ∨ j = 22 ∨ j = 23 ∨ j = 24 ∨ j = 25 ∨ j = 26 ∨ j = 27 ∨ j = 28 ∨ j = 29 ∨ j = 30 ∨ j = 31 ∨ j = 32 ∨ j = 33 ∨ j = 34 ∨ j = 35 ∨ j = 36 := by omega
  rcases this with rfl | rfl | rfl | rfl | rfl | rfl | rfl | rfl | rfl | rfl | rfl | rfl | rfl | rfl | rfl | rfl | rfl | rfl | rfl | rfl | rfl | rfl | rfl | rfl | rfl | rfl | rfl | rfl | rfl | rfl | rfl | rfl | rfl | rfl | rfl | rfl | rfl <;> rfl
theorem symAt_bd (j : Int) (h0 : 0 ≤ j) (h1 : j < 37) : 42 ≤ symAt j ∧ symAt j ≤ 90 := by
  unfold symAt
  split
  · omega
  · split <;> omega

end Go.Proofs.Ytnbmccfaomhppaa
namespace Go.Proofs.Ytnbmccfaomhppaa
open Go.RowKit

theorem run_high (ok : UInt8 → Bool) (hok : ∀ c : UInt8, 128 ≤ c.toNat → ok c = false) (l : List UInt8) (d : Bool) (h : ∃ c ∈ l, 128 ≤ c.toNat) : run ok d l = none := by
  induction l generalizing d with
  | nil => obtain ⟨c, hc, _⟩ := h; cases hc
  | cons x l ih =>
    obtain ⟨c, hc, hh⟩ := h
    rcases List.mem_cons.1 hc with rfl | hc
    · simp only [run]; rw [hok _ hh]; rfl
    · simp only [run]
      split
      · exact ih _ ⟨c, hc, hh⟩
      · rfl
theorem cap_toNat (c : UInt8) : ((cap c).toNat : Int) = capOf (c.toNat : Int) := by
  unfold cap capOf
  by_cases h : 97 ≤ c.toNat ∧ c.toNat ≤ 122
  · rw [if_pos h, if_pos (by omega), UInt8.toNat_sub_of_le _ _ (by rw [UInt8.le_iff_toNat_le]; show 32 ≤ c.toNat; omega)]
    show ((c.toNat - 32 : Nat) : Int) = _
    omega
  · rw [if_neg h, if_neg (by omega)]
theorem okC_cap (c : UInt8) : okC (cap c) = okF c := by
  have h := cap_toNat c
  unfold okF okC
  unfold capOf at h
  rw [Bool.eq_iff_iff]
  by_cases hc : 97 ≤ c.toNat ∧ c.toNat ≤ 122
  · rw [if_pos (by omega)] at h
    simp; omega
  · rw [if_neg (by omega)] at h
    simp; omega
theorem cap_dash (c : UInt8) : decide ((cap c).toNat = 45) = decide (c.toNat = 45) := by
  have h := cap_toNat c
  unfold capOf at h
  rw [Bool.eq_iff_iff]
  by_cases hc : 97 ≤ c.toNat ∧ c.toNat ≤ 122
  · rw [if_pos (by omega)] at h
    simp; omega
  · rw [if_neg (by omega)] at h
    simp; omega
theorem run_cap (l : List UInt8) (d : Bool) : run okC d (l.map cap) = run okF d l := by
  induction l generalizing d with
  | nil => rfl
  | cons c l ih => simp only [List.map_cons, run, okC_cap, cap_dash, ih]
theorem serial_cap (l : List UInt8) : serialB okC (l.map cap) = serialB okF l := by
  unfold serialB; rw [run_cap, List.length_map]
theorem check_cap (l : List UInt8) : checkOf (l.map cap) = foldE l := by unfold checkOf foldE; rw [serial_cap]
theorem high_byte (r : Int) (h : 128 ≤ r) (h2 : r ≤ 2147483647) : ∃ c ∈ Lib.encodeRune r, 128 ≤ c.toNat := by
  have hz : ∃ x ∈ Lib.encodeRuneZ r, 128 ≤ x ∧ x < 256 := by
    unfold Lib.encodeRuneZ
    rw [if_neg (by omega)]
    split
    · exact ⟨_, List.mem_cons_self .., by omega⟩
    · split
      · exact ⟨_, List.mem_cons_self .., by omega⟩
      · split
        · exact ⟨_, List.mem_cons_self .., by omega⟩
        · exact ⟨_, List.mem_cons_self .., by omega⟩
  obtain ⟨x, hx, h1, h3⟩ := hz
  refine ⟨x.toNat.toUInt8, List.mem_map.2 ⟨x, hx, rfl⟩, ?_⟩
  have : x.toNat.toUInt8.toNat = x.toNat := by
    show x.toNat % 256 = x.toNat
    omega
  omega
theorem encode_cap (c : UInt8) (h : c.toNat < 128) : Lib.encodeRune (capOf (c.toNat : Int)) = [cap c] := by
  rw [← cap_toNat]
  have hl : (cap c).toNat ≤ 127 := by
    have := cap_toNat c
    unfold capOf at this
    split at this <;> omega
  unfold Lib.encodeRune
  rw [Lib.encodeRuneZ_one (by omega) (by omega)]
  simp
theorem fold_none {l : List UInt8} (h : serialB okF l = false) : foldL l = [] ∧ foldE l = 9 := by
  unfold foldL foldE; rw [h]; exact ⟨rfl, rfl⟩
theorem fold_some {l : List UInt8} (h : serialB okF l = true) : foldL l = l.map cap ∧ foldE l = 0 := by
  unfold foldL foldE; rw [h]; exact ⟨rfl, rfl⟩
theorem fold_long {l : List UInt8} (h : 16 < l.length) : serialB okF l = false := by
  unfold serialB; rw [decide_eq_false (by omega)]; rfl
theorem fold_high {l : List UInt8} (h : ∃ c ∈ l, 128 ≤ c.toNat) : serialB okF l = false := by
  unfold serialB; rw [run_high okF (fun c hc => okF_high hc) l true h]; simp
theorem check_high {l : List UInt8} (h : ∃ c ∈ l, 128 ≤ c.toNat) : checkOf l = 9 := by
  exact check_none (run_high okC (fun c hc => okC_high hc) l true h)

/-- What the builder holds when the signs up to a place are read: each of them, as a capital; or some sign that no serial has, as the text itself does. -/
def Held (s : ByteArray) (pos : Nat) (acc : List UInt8) : Prop :=
  acc = (s.data.toList.take pos).map cap ∨ ((∃ c ∈ acc, 128 ≤ c.toNat) ∧ ∃ c ∈ s.data.toList, 128 ≤ c.toNat)

end Go.Proofs.Ytnbmccfaomhppaa
