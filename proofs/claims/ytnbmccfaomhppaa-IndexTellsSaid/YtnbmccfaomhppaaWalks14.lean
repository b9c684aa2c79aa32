/- The four walks, as the closings want them, from what is wanted of the program's index. -/
import Derived.Test.YtnbmccfaomhppaaWake14
import Derived.Test.YtnbmccfaomhppaaWhole14
namespace Go.Proofs.Ytnbmccfaomhppaa
open Go.RowKit

theorem indexTells_from (H : Index14) (w : World) (ka : Option Addr) (kc : Nat) (ia : Option Addr) (ic : Nat) (K : List (List UInt8)) (I : List (List Int)) (hx : IxV w ka kc ia ic K I) (s : ByteArray) (n : Int) :
    Calls Try.prog 3 #[ixVal ka kc ia ic K I, .string s, .int .i64 n] w fun e w' => e = .returned (.bool true) ∧ Below w.heap.size w w' := by
  obtain ⟨v, rfl⟩ : ∃ v, s = tx v := ⟨s.data.toList, tx_of rfl⟩
  exact indexTells_main H (awake14 H) w ka kc ia ic K I hx v n
theorem indexAdds_from (H : Index14) (w : World) (ka : Option Addr) (kc : Nat) (ia : Option Addr) (ic : Nat) (K : List (List UInt8)) (I : List (List Int)) (hx : IxV w ka kc ia ic K I) (s : ByteArray) (b : Option Addr) (bc : Nat) (ns : List Int) (hi : Ints w.heap.size w b ns) :
    Calls Try.prog 4 #[ixVal ka kc ia ic K I, .string s, .slice b ns.length bc] w fun e w' => e = .returned (.bool true) ∧ Below w.heap.size w w' := by
  obtain ⟨v, rfl⟩ : ∃ v, s = tx v := ⟨s.data.toList, tx_of rfl⟩
  exact indexAdds_all H (awake14 H) w ka kc ia ic K I hx v b bc ns hi
theorem indexTurns_from (H : Index14) (w : World) (ka : Option Addr) (kc : Nat) (ia : Option Addr) (ic : Nat) (K : List (List UInt8)) (I : List (List Int)) (hx : IxV w ka kc ia ic K I) (s : ByteArray) (b : Option Addr) (bc : Nat) (ns : List Int) (hi : Ints w.heap.size w b ns) :
    Calls Try.prog 5 #[ixVal ka kc ia ic K I, .string s, .slice b ns.length bc] w fun e w' => e = .returned (.bool true) ∧ Below w.heap.size w w' := by
  obtain ⟨v, rfl⟩ : ∃ v, s = tx v := ⟨s.data.toList, tx_of rfl⟩
  exact indexTurns_all H (awake14 H) w ka kc ia ic K I hx v b bc ns hi
theorem indexWhole_from (H : Index14) (w : World) (ka : Option Addr) (kc : Nat) (ia : Option Addr) (ic : Nat) (K : List (List UInt8)) (I : List (List Int)) (hx : IxV w ka kc ia ic K I) (s : ByteArray) (n : Int) :
    Calls Try.prog 6 #[ixVal ka kc ia ic K I, .string s, .int .i64 n] w fun e w' => e = .returned (.bool true) ∧ Below w.heap.size w w' := by
  obtain ⟨v, rfl⟩ : ∃ v, s = tx v := ⟨s.data.toList, tx_of rfl⟩
  exact indexWhole_all H (awake14 H) w ka kc ia ic K I hx v n
end Go.Proofs.Ytnbmccfaomhppaa
