/- The document's own Lay and Take, for every text and place, in every world. -/
import Derived.Test.YtpjahfobjnajcaaDoorBits5
namespace Go.Proofs.YtpjahfobjnajcaaDoor
open Go.RowKit

/-- A text of two bytes, made of a literal of two bytes in the newest block. -/
theorem conv_two5 (W : World) (x y : Int) : (convert 39 9 (.slice (some ⟨W.heap.size, 0, none⟩) 2 2)).run Tryd.prog (W.alloc (.cells #[.int .u8 x, .int .u8 y] 5)) = .ok (.string ⟨#[UInt8.ofNat x.toNat, UInt8.ofNat y.toNat]⟩) (W.alloc (.cells #[.int .u8 x, .int .u8 y] 5)) := by
  rw [run_convert_bytes_string (P := Tryd.prog) _ 39 9 5 _ _ _ Tryd.underlying39 Tryd.underlying5 Tryd.underlying9]
  have hl : (loadCells ⟨W.heap.size, 0, none⟩ 2).run Tryd.prog (W.alloc (.cells #[.int .u8 x, .int .u8 y] 5)) = .ok ([x, y].map (Value.int .u8)).toArray (W.alloc (.cells #[.int .u8 x, .int .u8 y] 5)) :=
    run_loadCells_list (P := Tryd.prog) _ ⟨W.heap.size, 0, none⟩ ([x, y].map (Value.int .u8)) (fun j v hj => by
      match j, hj with
      | 0, hj => simp at hj; subst hj; simp [Addr.add]
      | 1, hj => simp at hj; subst hj; simp [Addr.add])
  exact (run_bytesToString (P := Tryd.prog) _ _ 2 2 [x, y] hl).trans rfl

theorem extract_list (s : ByteArray) (a b : Nat) : (s.extract a b).data.toList = (s.data.toList.drop a).take (b - a) := by
  rw [ByteArray.data_extract, Array.toList_extract, List.extract_eq_take_drop]

end Go.Proofs.YtpjahfobjnajcaaDoor
