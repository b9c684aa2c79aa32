/- The document's own empty and New, and what the laws fill texts with, in every world. -/
import Derived.Test.YtocengdojdeiiaaRef8e
import Derived.Test.YtocengdojdeiiaaByteRow
namespace Go.Proofs.Ytocengdojdeiiaa
open Go.RowKit

theorem rempty_any (w : World) : Calls Try.prog 27 #[] w fun e w' => e = .returned (.string zero64) ∧ Below w.heap.size w w' := by
  have hmk : ∀ W : World, (Instr.makeSlice 78 (.int .i64 64) (.int .i64 64)).run Try.prog W = .ok (.slice (some ⟨W.heap.size, 0, none⟩) 64 64) (W.alloc (.cells (madeCells #[.int .u8 0] 64) 5)) := fun W => run_make_row' (P := Try.prog) 78 5 (.int .u8 0) 1 Try.underlying78 infoU8 rfl .i64 .i64 64 (by omega) (by omega) W
  have hcv : ∀ W : World, (convert 78 9 (.slice (some ⟨W.heap.size, 0, none⟩) 64 64)).run Try.prog (W.alloc (.cells (madeCells #[.int .u8 0] 64) 5)) = .ok (.string zero64) (W.alloc (.cells (madeCells #[.int .u8 0] 64) 5)) := fun W => by
    have h := byteRow_text (w := W.alloc (.cells (madeCells #[.int .u8 0] 64) 5)) (g := W.heap.size) (l := List.replicate 64 0) (fr := (0, 0)) (by rw [← byteRow_made]; exact heap_alloc_new _ _) 64
    rw [List.length_replicate] at h
    exact h
  go_enter Try.func27, Try.ntmps27
  go_wp2
  go_ret
  exact ⟨rfl, (Below.refl _ w).alloc (Nat.le_refl _) _⟩

def fillT (n : Nat) (b : UInt8) : ByteArray := ⟨(List.replicate (64 * n) b).toArray⟩
theorem fillT_size (n : Nat) (b : UInt8) : (fillT n b).size = 64 * n := by
  show (List.replicate (64 * n) b).toArray.size = _
  simp
set_option maxHeartbeats 1000000 in
theorem filled_any (n : Nat) (b : UInt8) (hn : n ≤ 3000) (w : World) : Calls Try.prog 20 #[.int .i64 n, .int .u8 b.toNat] w fun e w' => e = .returned (.string (fillT n b)) ∧ Below w.heap.size w w' := by
  obtain ⟨m, hm⟩ : ∃ m, 64 * n = m := ⟨_, rfl⟩
  have hm2 : 64 * (n : Int) = (m : Int) := by omega
  have hml : m ≤ 192000 := by omega
  have HF : Hid (fillT n b = ⟨(List.replicate m b).toArray⟩) := Lib.hid (by unfold fillT; rw [hm])
  have hmk := run_make_row' (P := Try.prog) 78 5 (.int .u8 0) 1 Try.underlying78 infoU8 rfl .i64 .i64 m (by omega) (by omega)
  have HX : Hid (madeCells #[Value.int .u8 0] m = byteRow (List.replicate 0 b ++ List.replicate (m - 0) 0)) := Lib.hid (byteRow_made m)
  clear hm
  go_enter Try.func20, Try.ntmps20
  go_wp2
  go_loopw [6] (fun i' wr => ∃ k : Nat, i' = .int .i64 k ∧ k ≤ m ∧ Hid (wr.heap[w.heap.size]? = some (.cells (byteRow (List.replicate k b ++ List.replicate (m - k) 0)) 5 (0, 0))) ∧ Hid (Below w.heap.size w wr)) (fun i _ => m - (intOf i).toNat)
  case atStart => exact ⟨0, rfl, by omega, Lib.hid (by rw [← HX.out]; exact heap_alloc_new _ _), Lib.hid ((Below.refl _ w).alloc (Nat.le_refl _) _)⟩
  case round =>
    obtain ⟨k, rfl, hk, hg, hb⟩ := hrel
    by_cases hlt : k < m
    · have i1 : (k : Int) < (m : Int) := by omega
      have hc := cell_of (j := k) hg.out (byteRow_at (List.replicate k b ++ List.replicate (m - k) 0) k (by simp; omega))
      have hf := frozen_of_row wr w.heap.size k _ _ hg.out
      have HS : Hid ((wr.setCell ⟨w.heap.size, k, none⟩ (.int .u8 b.toNat)).heap[w.heap.size]? = some (.cells (byteRow (List.replicate (k + 1) b ++ List.replicate (m - (k + 1)) 0)) 5 (0, 0))) := Lib.hid (by
        rw [heap_setCell_same wr w.heap.size k _ _ _ hg.out, byteRow_set]
        congr 3
        rw [List.set_append_right _ _ (by simp), List.length_replicate, Nat.sub_self, show m - k = (m - (k + 1)) + 1 by omega, List.replicate_succ, List.set_cons_zero, List.replicate_succ' , List.append_assoc]
        rfl)
      have HB2 : Hid (Below w.heap.size w (wr.setCell ⟨w.heap.size, k, none⟩ (.int .u8 b.toNat))) := Lib.hid (hb.out.setCell (p := ⟨w.heap.size, k, none⟩) (Nat.le_refl _) _)
      go_wp2
      go_roundw
      case rel => exact ⟨k + 1, by go_num, by omega, HS, HB2⟩
      case measure => simp [intOf]; omega
    · obtain rfl : k = m := by omega
      have hcv := byteRow_text hg.out k
      have hl : (List.replicate k b ++ List.replicate (k - k) 0).length = k := by simp
      have hl2 : List.replicate k b ++ List.replicate (k - k) (0 : UInt8) = List.replicate k b := by simp
      rw [hl, hl2, ← HF.out] at hcv
      clear hl hl2
      go_wp2
      go_ret
      exact ⟨rfl, hb.out⟩
end Go.Proofs.Ytocengdojdeiiaa
