/- The document's own Put, Get and Lay, for every number, text and place, in every world. -/
import Derived.Test.YtcbmecpeockdeaaGreatDoorMByte
import Derived.Test.YtcbmecpeockdeaaGreatDoorProg
import Derived.WalkKit
import Derived.WalkSpells
import Derived.WalkLawsBesides
import Derived.Below
import Derived.OneCell
import Derived.Lib.Hide
namespace Go.Proofs.YtcbmecpeockdeaaGreatDoor
open Go.RowKit

theorem be_cons (i n : Nat) : be (i + 1) n = UInt8.ofNat (n / 256 ^ i % 256) :: be i n := by
  induction i generalizing n with
  | zero => simp [be]
  | succ i ih =>
    rw [show be (i + 1 + 1) n = be (i + 1) (n / 256) ++ [UInt8.ofNat (n % 256)] from rfl, ih, Nat.div_div_eq_div_mul, ← Nat.pow_succ', List.cons_append]
    rfl
/-- A text of one byte, made of a literal of one byte in the newest block. -/
theorem conv_one5 (W : World) (x : Int) : (convert 51 9 (.slice (some ⟨W.heap.size, 0, none⟩) 1 1)).run Tryz.prog (W.alloc (.cells #[.int .u8 x] 5)) = .ok (.string ⟨#[UInt8.ofNat x.toNat]⟩) (W.alloc (.cells #[.int .u8 x] 5)) := by
  rw [run_convert_bytes_string (P := Tryz.prog) _ 51 9 5 _ _ _ Tryz.underlying51 Tryz.underlying5 Tryz.underlying9]
  have hl : (loadCells ⟨W.heap.size, 0, none⟩ 1).run Tryz.prog (W.alloc (.cells #[.int .u8 x] 5)) = .ok ([x].map (Value.int .u8)).toArray (W.alloc (.cells #[.int .u8 x] 5)) :=
    run_loadCells_list (P := Tryz.prog) _ ⟨W.heap.size, 0, none⟩ ([x].map (Value.int .u8)) (fun j v hj => by
      match j, hj with
      | 0, hj => simp at hj; subst hj; simp [Addr.add])
  exact (run_bytesToString (P := Tryz.prog) _ _ 1 1 [x] hl).trans rfl

theorem val_take_more (l : List UInt8) (p j : Nat) (h : p + j < l.length) : val ((l.drop p).take (j + 1)) = 256 * val ((l.drop p).take j) + (l[p + j]).toNat := by
  rw [List.take_succ_eq_append_getElem (by simp; omega), val_snoc, List.getElem_drop]
theorem val_take_le (l : List UInt8) {j k : Nat} (h : j ≤ k) : val (l.take j) ≤ val (l.take k) := by
  have e : l.take k = l.take j ++ (l.take k).drop j := by
    have := List.take_append_drop j (l.take k)
    rw [List.take_take, Nat.min_eq_left h] at this
    exact this.symm
  rw [e, val_append]
  have : 1 ≤ 256 ^ ((l.take k).drop j).length := Nat.pow_pos (by decide)
  have := Nat.mul_le_mul_left (val (l.take j)) this
  omega

end Go.Proofs.YtcbmecpeockdeaaGreatDoor
