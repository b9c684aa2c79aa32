/- What TrailFalls asks of its devices, in plain words; and worlds with two devices. -/
import Derived.Test.YtdomcgbfpinpoaaGreatDoorMWrite8
import Derived.Test.YtdomcgbfpinpoaaGreatDoorTrD11
import Derived.Test.YtdomcgbfpinpoaaGreatDoorTrE11
namespace Go.Proofs.YtdomcgbfpinpoaaGreatDoor
open Go.RowKit Go.Maps

theorem still_read_all {d : Dv} {C : List UInt8} (h : Still d 200 C) : d.readE 0 200 = 0 ∧ (d.readT 0 200).data.toList = C := by
  have hc := h.clen
  obtain ⟨r1, r2⟩ := h.read 0 200 (by omega) (by omega)
  rw [show ((0 : Nat) : Int) = 0 from rfl, show ((200 : Nat) : Int) = 200 from rfl] at r1 r2
  rw [Nat.mul_zero, List.drop_zero, List.take_of_length_le (by omega)] at r2
  exact ⟨r1, r2⟩
theorem still_load_all {d : Dv} {C : List UInt8} (h : Still d 200 C) (ep : Int) : d.loadE 0 200 = 0 ∧ d.loadV 0 200 ep = scanV C ep := by
  have hc := h.clen
  obtain ⟨l1, l2⟩ := Still.load h 0 200 ep area_over
  rw [show ((0 : Nat) : Int) = 0 from rfl, show ((200 : Nat) : Int) = 200 from rfl] at l1 l2
  rw [Nat.mul_zero, List.drop_zero, List.take_of_length_le (by omega)] at l2
  exact ⟨l1, l2⟩
theorem falls_told {d : Dv} {xs : List (List UInt8)} (hS : Short11 xs) {j : Nat} (hj : j + 1 = xs.length) (h : Over d (xs.take j)) (a : Int) (ha : 1 ≤ a) (keep : List Bool) (torn cut : Int) :
    ∃ was now left : List UInt8, was.length = 12800 ∧ now.length = 12800 ∧ left.length = 12800 ∧
      (d.readE 0 200 = 0 ∧ (d.readT 0 200).data.toList = was) ∧
      ((d.app 0 200 (sumN (xs.take j) : Nat) 2 ((j : Int) + 1) (rowAt xs j)).readE 0 200 = 0 ∧ ((d.app 0 200 (sumN (xs.take j) : Nat) 2 ((j : Int) + 1) (rowAt xs j)).readT 0 200).data.toList = now) ∧
      ((((d.arm a).app 0 200 (sumN (xs.take j) : Nat) 2 ((j : Int) + 1) (rowAt xs j)).off.boot keep torn cut).readE 0 200 = 0 ∧ ((((d.arm a).app 0 200 (sumN (xs.take j) : Nat) 2 ((j : Int) + 1) (rowAt xs j)).off.boot keep torn cut).readT 0 200).data.toList = left) ∧
      ((((d.arm a).app 0 200 (sumN (xs.take j) : Nat) 2 ((j : Int) + 1) (rowAt xs j)).off.boot keep torn cut).loadE 0 200 = 0 ∧ (((d.arm a).app 0 200 (sumN (xs.take j) : Nat) 2 ((j : Int) + 1) (rowAt xs j)).off.boot keep torn cut).loadV 0 200 2 = scanV left 2) ∧
      d.armE a = 0 ∧
      (¬ Mixed left was now (sumN (xs.take j)) → ((scanV left 2).1 = xs.take j ∧ (d.arm a).appE 0 200 (sumN (xs.take j) : Nat) 2 ((j : Int) + 1) (rowAt xs j) ≠ 0) ∨ (scanV left 2).1 = xs) := by
  have hjl : j < xs.length := by omega
  obtain ⟨t1, t2, t3, t4, t5⟩ := short_step hS hjl
  have h20 := hS.1
  have hall : xs.take j ++ [rowAt xs j] = xs := by rw [← take_more11 hjl]; exact List.take_of_length_le (by omega)
  have hp : Puts 2 0 (xs.take j ++ [rowAt xs j]) := by rw [hall]; exact puts_short (by omega) hS.2 0 (by omega)
  have hw : wrong10 2 (((xs.take j).length : Int) + 1) (rowAt xs j).length = 0 := by
    unfold wrong10
    rw [t1, if_pos ⟨by omega, by omega, by omega⟩, if_neg (by omega)]
  obtain ⟨was, now, left, q1, q2, q3, s1, s2, s3, hm⟩ := over_falls h (rowAt xs j) hp hw (by omega) a ha keep torn cut
  rw [t1] at s2 s3 hm
  rw [hall] at hm
  refine ⟨was, now, left, q1, q2, q3, still_read_all s1, still_read_all s2, still_read_all s3, still_load_all s3 2, ?_, fun hx => ?_⟩
  · unfold Dv.armE
    rw [s1.on, if_neg (by simp), if_neg (by omega)]
  · rcases hm hx with ⟨r1, r2⟩ | r1
    · exact Or.inl ⟨by rw [r1], r2⟩
    · exact Or.inr (by rw [r1])

/-- A change of another device, which is newer than all that lay there. -/
theorem But.over11 {b g m b2 g2 m2 : Nat} {V0 x y : World} (h : But b g m V0 x) (k : But b2 g2 m2 x y) (hb : V0.heap.size ≤ b2) (hg : V0.heap.size ≤ g2) (hm : V0.heap.size ≤ m2) : But b g m V0 y :=
  ⟨k.os.trans h.os, k.tape.trans h.tape, k.output.trans h.output, Nat.le_trans h.size k.size, fun i hi h1 h2 h3 => (k.block i (Nat.lt_of_lt_of_le hi h.size) (by omega) (by omega) (by omega)).trans (h.block i hi h1 h2 h3)⟩
end Go.Proofs.YtdomcgbfpinpoaaGreatDoor
