/- serial.Fold answers for every text of whatever bytes just what the plain words say; it leaves what lay there. -/
import Derived.Test.YtkflpkcggjpbfaaBuild
import Derived.Test.YtkflpkcggjpbfaaCheck
import Derived.Lib.RuneBytes
namespace Go.Proofs.Ytkflpkcggjpbfaa
open Go.RowKit

theorem run_high (ok : UInt8 → Bool) (hok : ∀ c : UInt8, 128 ≤ c.toNat → ok c = false) (l : List UInt8) (d : Bool) (h : ∃ c ∈ l, 128 ≤ c.toNat) : run ok d l = none := by
  induction l generalizing d with
  | nil => obtain ⟨c, hc, _⟩ := h; cases hc
  | cons x l ih =>
    obtain ⟨c, hc, hh⟩ := h
    rcases List.mem_cons.1 hc with rfl | hc
    · simp only [run]; rw [hok _ hh]; rfl
    · simp only [run]
      split
      · exact ih _ ⟨c, hc, hh⟩
      · rfl
theorem cap_toNat (c : UInt8) : ((cap c).toNat : Int) = capOf (c.toNat : Int) := by
  unfold cap capOf
  by_cases h : 97 ≤ c.toNat ∧ c.toNat ≤ 122
  · rw [if_pos h, if_pos (by omega), UInt8.toNat_sub_of_le _ _ (by rw [UInt8.le_iff_toNat_le]; show 32 ≤ c.toNat; omega)]
    show ((c.toNat - 32 : Nat) : Int) = _
    omega
  · rw [if_neg h, if_neg (by omega)]
theorem okC_cap (c : UInt8) : okC (cap c) = okF c := by
  have h := cap_toNat c
  unfold okF okC
  unfold capOf at h
  rw [Bool.eq_iff_iff]
  by_cases hc : 97 ≤ c.toNat ∧ c.toNat ≤ 122
  · rw [if_pos (by omega)] at h
    simp; omega
  · rw [if_neg (by omega)] at h
    simp; omega
theorem cap_dash (c : UInt8) : decide ((cap c).toNat = 45) = decide (c.toNat = 45) := by
  have h := cap_toNat c
  unfold capOf at h
  rw [Bool.eq_iff_iff]
  by_cases hc : 97 ≤ c.toNat ∧ c.toNat ≤ 122
  · rw [if_pos (by omega)] at h
    simp; omega
  · rw [if_neg (by omega)] at h
    simp; omega
theorem run_cap (l : List UInt8) (d : Bool) : run okC d (l.map cap) = run okF d l := by
  induction l generalizing d with
  | nil => rfl
  | cons c l ih => simp only [List.map_cons, run, okC_cap, cap_dash, ih]
theorem serial_cap (l : List UInt8) : serialB okC (l.map cap) = serialB okF l := by
  unfold serialB; rw [run_cap, List.length_map]
theorem check_cap (l : List UInt8) : checkOf (l.map cap) = foldE l := by unfold checkOf foldE; rw [serial_cap]
theorem high_byte (r : Int) (h : 128 ≤ r) (h2 : r ≤ 2147483647) : ∃ c ∈ Lib.encodeRune r, 128 ≤ c.toNat := by
  have hz : ∃ x ∈ Lib.encodeRuneZ r, 128 ≤ x ∧ x < 256 := by
    unfold Lib.encodeRuneZ
    rw [if_neg (by omega)]
    split
    · exact ⟨_, List.mem_cons_self .., by omega⟩
    · split
      · exact ⟨_, List.mem_cons_self .., by omega⟩
      · split
        · exact ⟨_, List.mem_cons_self .., by omega⟩
        · exact ⟨_, List.mem_cons_self .., by omega⟩
  obtain ⟨x, hx, h1, h3⟩ := hz
  refine ⟨x.toNat.toUInt8, List.mem_map.2 ⟨x, hx, rfl⟩, ?_⟩
  have : x.toNat.toUInt8.toNat = x.toNat := by
    show x.toNat % 256 = x.toNat
    omega
  omega
theorem encode_cap (c : UInt8) (h : c.toNat < 128) : Lib.encodeRune (capOf (c.toNat : Int)) = [cap c] := by
  rw [← cap_toNat]
  have hl : (cap c).toNat ≤ 127 := by
    have := cap_toNat c
    unfold capOf at this
    split at this <;> omega
  unfold Lib.encodeRune
  rw [Lib.encodeRuneZ_one (by omega) (by omega)]
  simp
theorem fold_none {l : List UInt8} (h : serialB okF l = false) : foldL l = [] ∧ foldE l = 9 := by
  unfold foldL foldE; rw [h]; exact ⟨rfl, rfl⟩
theorem fold_some {l : List UInt8} (h : serialB okF l = true) : foldL l = l.map cap ∧ foldE l = 0 := by
  unfold foldL foldE; rw [h]; exact ⟨rfl, rfl⟩
theorem fold_long {l : List UInt8} (h : 16 < l.length) : serialB okF l = false := by
  unfold serialB; rw [decide_eq_false (by omega)]; rfl
theorem fold_high {l : List UInt8} (h : ∃ c ∈ l, 128 ≤ c.toNat) : serialB okF l = false := by
  unfold serialB; rw [run_high okF (fun c hc => okF_high hc) l true h]; simp
theorem check_high {l : List UInt8} (h : ∃ c ∈ l, 128 ≤ c.toNat) : checkOf l = 9 := by
  exact check_none (run_high okC (fun c hc => okC_high hc) l true h)

/-- What the builder holds when the signs up to a place are read: each of them, as a capital; or some sign that no serial has, as the text itself does. -/
def Held (s : ByteArray) (pos : Nat) (acc : List UInt8) : Prop :=
  acc = (s.data.toList.take pos).map cap ∨ ((∃ c ∈ acc, 128 ≤ c.toNat) ∧ ∃ c ∈ s.data.toList, 128 ≤ c.toNat)

end Go.Proofs.Ytkflpkcggjpbfaa
