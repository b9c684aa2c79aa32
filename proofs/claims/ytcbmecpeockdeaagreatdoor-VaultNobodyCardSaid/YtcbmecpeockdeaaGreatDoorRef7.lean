/- The document's own step, On, Of, four, Seal and Unseal, for every text and sum, in every world. -/
import Derived.Test.YtcbmecpeockdeaaGreatDoorMByte
import Derived.Test.YtcbmecpeockdeaaGreatDoorMCells
import Derived.Test.YtcbmecpeockdeaaGreatDoorRows
import Derived.WalkKit
import Derived.LoopTactic
import Derived.Outline
import Derived.Below
import Derived.Lib.Hide
import Derived.Deep.RegionWith
import Derived.Deep.DeepCutAuto
import Derived.RegionTactic
import Derived.BigRegion
import Derived.ChangeAlike
namespace Go.Proofs.YtcbmecpeockdeaaGreatDoor
open Go.RowKit

theorem bits8_take (c : UInt8) (j : Nat) (h : j < 8) : (bits8 c).take (j + 1) = (bits8 c).take j ++ [c.toNat / 2 ^ j % 2 == 1] := by
  rw [List.take_succ_eq_append_getElem (by rw [bits_len]; exact h)]
  have e : (bits8 c)[j]'(by rw [bits_len]; exact h) = (c.toNat / 2 ^ j % 2 == 1) := by
    simp [bits8, testBit_bool]
  rw [e]
theorem run_snoc (n : Nat) (l : List Bool) (b : Bool) : runB n (l ++ [b]) = stepB (runB n l) b := by rw [run_append7]; rfl
theorem xor32 (a b : Nat) (ha : a < 4294967296) (hb : b < 4294967296) : bits BinOp.xor IntKind.u32 (a : Int) (b : Int) = ((a ^^^ b : Nat) : Int) := by
  have e1 : ∀ c : Nat, c < 4294967296 → (BitVec.ofInt 32 (c : Int)).toNat = c := fun c h => by rw [BitVec.toNat_ofInt]; omega
  show IntKind.u32.wrap ((BitVec.ofInt 32 (a : Int) ^^^ BitVec.ofInt 32 (b : Int)).toNat : Int) = _
  rw [BitVec.toNat_xor, e1 a ha, e1 b hb]
  have := Nat.xor_lt_two_pow (n := 32) (show a < 2 ^ 32 by omega) (show b < 2 ^ 32 by omega)
  exact IntWalk.u32_in _ (by omega)

theorem reg_take (n : Nat) (l : List UInt8) (j : Nat) (h : j < l.length) : regOn n (l.take (j + 1)) = runB (regOn n (l.take j)) (bits8 l[j]) := by
  rw [List.take_succ_eq_append_getElem h, reg_snoc]

/-- A text of four bytes, made of a literal of four bytes in the newest block. -/
theorem conv_four (W : World) (x y z u : Int) : (convert 51 9 (.slice (some ⟨W.heap.size, 0, none⟩) 4 4)).run Tryz.prog (W.alloc (.cells #[.int .u8 x, .int .u8 y, .int .u8 z, .int .u8 u] 5)) = .ok (.string ⟨#[UInt8.ofNat x.toNat, UInt8.ofNat y.toNat, UInt8.ofNat z.toNat, UInt8.ofNat u.toNat]⟩) (W.alloc (.cells #[.int .u8 x, .int .u8 y, .int .u8 z, .int .u8 u] 5)) := by
  rw [run_convert_bytes_string (P := Tryz.prog) _ 51 9 5 _ _ _ Tryz.underlying51 Tryz.underlying5 Tryz.underlying9]
  have hl : (loadCells ⟨W.heap.size, 0, none⟩ 4).run Tryz.prog (W.alloc (.cells #[.int .u8 x, .int .u8 y, .int .u8 z, .int .u8 u] 5)) = .ok ([x, y, z, u].map (Value.int .u8)).toArray (W.alloc (.cells #[.int .u8 x, .int .u8 y, .int .u8 z, .int .u8 u] 5)) :=
    run_loadCells_list (P := Tryz.prog) _ ⟨W.heap.size, 0, none⟩ ([x, y, z, u].map (Value.int .u8)) (fun j v hj => by
      match j, hj with
      | 0, hj => simp at hj; subst hj; simp [Addr.add]
      | 1, hj => simp at hj; subst hj; simp [Addr.add]
      | 2, hj => simp at hj; subst hj; simp [Addr.add]
      | 3, hj => simp at hj; subst hj; simp [Addr.add])
  exact (run_bytesToString (P := Tryz.prog) _ _ 4 4 [x, y, z, u] hl).trans rfl

def fourT (n : Nat) : ByteArray := ⟨(fourL n).toArray⟩
theorem fourT_list (n : Nat) : (fourT n).data.toList = fourL n := rfl
theorem fourT_size (n : Nat) : (fourT n).size = 4 := rfl
theorem cat_four (s : ByteArray) (n : Nat) : (s ++ fourT n).data.toList = s.data.toList ++ fourL n := by
  rw [← fourT_list]; simp
theorem four_same (n : Nat) (u : ByteArray) : ((fourT n).toList == u.toList) = decide (fourL n = u.data.toList) := by
  rw [ByteArray.toList_eq, ByteArray.toList_eq, Bool.eq_iff_iff, beq_iff_eq, decide_eq_true_iff, fourT_list]
end Go.Proofs.YtcbmecpeockdeaaGreatDoor
