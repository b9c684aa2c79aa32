/- Pieces of texts, and texts by their bytes. -/
import Derived.Test.YtkefbgjbgblalaaProg
import Derived.WalkKit
namespace Go.Proofs.Ytkefbgjbgblalaa
open Go.RowKit

theorem cut_to (u : ByteArray) (i : Int) (h0 : 0 ≤ i) (h1 : i ≤ u.size) (W : World) : (Instr.slice 9 (.string u) none (some (.int .i64 i)) none).run Try.prog W = .ok (.string (u.extract 0 i.toNat)) W := by
  simp [Instr.slice, Instr.sliceBounds, Instr.sliceBound, asIntOf, run_underlying Try.underlying9, h0, h1]
theorem cut_from (u : ByteArray) (i : Int) (h0 : 0 ≤ i) (h1 : i ≤ u.size) (W : World) : (Instr.slice 9 (.string u) (some (.int .i64 i)) none none).run Try.prog W = .ok (.string (u.extract i.toNat u.size)) W := by
  simp [Instr.slice, Instr.sliceBounds, Instr.sliceBound, asIntOf, run_underlying Try.underlying9, h0, h1]
theorem cut_mid (u : ByteArray) (i j : Int) (h0 : 0 ≤ i) (h1 : i ≤ j) (h2 : j ≤ u.size) (W : World) : (Instr.slice 9 (.string u) (some (.int .i64 i)) (some (.int .i64 j)) none).run Try.prog W = .ok (.string (u.extract i.toNat j.toNat)) W := by
  have h4 : 0 ≤ j := by omega
  simp [Instr.slice, Instr.sliceBounds, Instr.sliceBound, asIntOf, run_underlying Try.underlying9, h0, h2, h4]
  intro h; omega
theorem cut_list (s : ByteArray) (a b : Nat) : (s.extract a b).data.toList = (s.data.toList.drop a).take (b - a) := by
  rw [ByteArray.data_extract, Array.toList_extract, List.extract_eq_take_drop]
theorem text_eq {s t : ByteArray} (h : s.data.toList = t.data.toList) : s = t := by
  cases s; cases t; congr 1; exact Array.ext' h
theorem text_size (s : ByteArray) : s.data.toList.length = s.size := by simp
end Go.Proofs.Ytkefbgjbgblalaa
