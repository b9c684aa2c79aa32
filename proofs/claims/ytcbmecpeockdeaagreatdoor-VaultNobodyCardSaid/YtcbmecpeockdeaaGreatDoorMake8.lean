/- The program's New, for every number. -/
import Derived.Test.YtcbmecpeockdeaaGreatDoorPut8
namespace Go.Proofs.YtcbmecpeockdeaaGreatDoor
open Go.RowKit Go.Maps

theorem rep_at (n : Nat) (z : Value) (j : Nat) (h : j < n) : (⟨List.replicate n z⟩ : Array Value)[j]! = z := by
  rw [getElem!_pos _ j (by simpa using h)]; simp
theorem made_now (n : Nat) : (madeCells (arrV zero64).cells (n * 64)).toList = nowCells (List.replicate n sec0) := by
  have hf : FitL (List.replicate n sec0) := fun c hc => by rw [List.eq_of_mem_replicate hc]; exact ⟨rfl, rfl⟩
  have hl := now_len hf
  rw [List.length_replicate] at hl
  have hz : bytesV zero64 = List.replicate 64 (.int .u8 0) := by unfold bytesV zero64; simp
  have hb : ∀ j, j < 64 → (bytesV zero64)[j]? = some (.int .u8 0) := fun j hj => by rw [hz, List.getElem?_replicate, if_pos hj]
  refine List.ext_getElem? fun i => ?_
  by_cases hi : i < n * 64
  · have e := now_at hf (k := i / 64) (j := i % 64) (by rw [List.length_replicate]; omega) (by omega)
    rw [show i / 64 * 64 + i % 64 = i by omega] at e
    rw [e, List.getD_eq_getElem?_getD, List.getElem?_replicate, if_pos (by omega)]
    show _ = (bytesV zero64)[i % 64]?
    rw [hb _ (by omega)]
    unfold madeCells
    rw [Array.getElem?_toList, Array.getElem?_map, Array.getElem?_range, if_pos hi]
    show some ((arrV zero64).cells[i % 64]!) = _
    have h2 : ∀ j, j < 64 → (arrV zero64).cells[j]! = .int .u8 0 := fun j hj => by
      show (⟨bytesV zero64⟩ : Array Value)[j]! = _
      rw [hz]; exact rep_at 64 _ j hj
    rw [h2 _ (by omega)]
  · rw [List.getElem?_eq_none (by rw [Array.length_toList, size_madeCells]; omega), List.getElem?_eq_none (by rw [hl]; omega)]

theorem dv_new_ok (n : Nat) (h0 : 1 ≤ n) (h1 : n ≤ 2000) : (Dv.new n).Ok :=
  ⟨Dv.Fit.new n, fun c hc _ => by rw [List.eq_of_mem_replicate hc]; rfl, by unfold Dv.new; simp; omega, by unfold Dv.new; simp; omega, Int.le_refl _, by show (0 : Int) ≤ _; omega, Int.le_refl _⟩

set_option maxRecDepth 100000 in
set_option maxHeartbeats 1000000 in
theorem pnew_any (n : Int) (hn0 : 1 ≤ n) (hn1 : n ≤ 2000) (w : World) :
    Calls Tryz.prog 15 #[.int .i64 n] w fun e w' => ∃ b g cap m, e = .returned (.tuple #[.pointer (some ⟨b, 0, none⟩), .int .i64 0]) ∧ PDev w' b g cap m (Dv.new n.toNat) ∧ w.heap.size ≤ b ∧ w.heap.size ≤ g ∧ w.heap.size ≤ m ∧ Below w.heap.size w w' := by
  obtain ⟨k, rfl⟩ : ∃ k : Nat, n = k := ⟨n.toNat, by omega⟩
  obtain ⟨Z, hZ⟩ : ∃ Z, Z = madeCells (arrV zero64).cells (k * 64) := ⟨_, rfl⟩
  obtain ⟨i0, hi, hz0, hz1, hz2⟩ := info_parts infoArr
  have hmk : ∀ W : World, (Instr.makeSlice 70 (.int .i64 k) (.int .i64 k)).run Tryz.prog W = .ok (.slice (some ⟨W.heap.size, 0, none⟩) k k) (W.alloc (.cells Z 102)) := fun W => by
    have h := run_make (P := Tryz.prog) W 70 102 i0 (arrV zero64) Tryz.underlying70 hi hz0 .i64 .i64 k k (by omega) (Int.le_refl _) (by rw [hz2]; omega) (by omega)
    rw [Int.toNat_natCast, hz1, ← hZ] at h
    exact h
  have hmm := @run_makeMap Tryz.prog
  have d1 : decide ((k : Int) < 1) = false := decide_eq_false (by omega)
  have d2 : decide ((2000 : Int) < (k : Int)) = false := decide_eq_false (by omega)
  have HZ := Lib.hid hZ
  clear hZ hi hz0 hz1 hz2
  go_enter Tryz.func15, Tryz.ntmps15
  go_wp2
  go_ret2
  have hnow := HZ.out
  refine ⟨w.heap.size + 1 + 1, w.heap.size, k, w.heap.size + 1, rfl, ⟨?_, ?_, ?_⟩, by omega, Nat.le_refl _, by omega, ?_⟩
  · have e : (Dv.new (k : Int).toNat).cells.length = k := by unfold Dv.new; simp
    rw [e]
    have h := heap_alloc_new ((w.alloc (.cells Z 102)).alloc (.map #[] 0)) (.cells #[.slice (some ⟨w.heap.size, 0, none⟩) k k, .map (some (w.heap.size + 1)), .int .i64 0, .int .i64 0, .bool true] 73)
    have hs : ((w.alloc (.cells Z 102)).alloc (.map #[] 0)).heap.size = w.heap.size + 1 + 1 := by simp
    rw [hs] at h
    exact h
  · have e : (Dv.new (k : Int).toNat).cells = List.replicate k sec0 := by unfold Dv.new; simp
    rw [e]
    refine ⟨Z.toList, ?_, by simp, by unfold maxLen; omega, ?_, ?_⟩
    · rw [Below.heap_alloc _ _ _ (by simp; omega), Below.heap_alloc _ _ _ (by simp), heap_alloc_new]
    · rw [hnow, made_now, now_len (fun c hc => by rw [List.eq_of_mem_replicate hc]; exact ⟨rfl, rfl⟩), List.length_replicate]
    · rw [hnow, made_now, List.length_replicate]
      exact List.take_of_length_le (by rw [now_len (fun c hc => by rw [List.eq_of_mem_replicate hc]; exact ⟨rfl, rfl⟩), List.length_replicate]; exact Nat.le_refl _)
  · refine ⟨.map [], ?_, Keeps.empty (fun c hc => ?_)⟩
    · have h := World.ownsMap_made (H := Value) (w.alloc (.cells Z 102)) Tryz.prog 3 tokR
      have hs : (w.alloc (.cells Z 102)).heap.size = w.heap.size + 1 := by simp
      rw [hs] at h
      exact h.alloc _
    · unfold Dv.new at hc; rw [List.eq_of_mem_replicate hc]; rfl
  · exact (((Below.refl _ w).alloc (Nat.le_refl _) _).alloc (by simp) _).alloc (by simp; omega) _

theorem pnew_bad (n : Int) (hn : ¬ (1 ≤ n ∧ n ≤ 2000)) (w : World) :
    Calls Tryz.prog 15 #[.int .i64 n] w fun e w' => e = .returned (.tuple #[.pointer none, .int .i64 2]) ∧ w = w' := by
  by_cases h1 : n < 1
  · have d1 : decide (n < 1) = true := decide_eq_true h1
    clear hn h1
    go_enter Tryz.func15, Tryz.ntmps15
    go_wp2
    go_ret2
    exact ⟨rfl, rfl⟩
  · have d1 : decide (n < 1) = false := decide_eq_false h1
    have d2 : decide (2000 < n) = true := decide_eq_true (by omega)
    clear hn h1
    go_enter Tryz.func15, Tryz.ntmps15
    go_wp2
    go_ret2
    exact ⟨rfl, rfl⟩
end Go.Proofs.YtcbmecpeockdeaaGreatDoor
