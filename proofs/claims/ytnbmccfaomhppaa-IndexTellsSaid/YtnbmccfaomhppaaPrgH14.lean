/- The program's index as the walks want it; and the four walks. -/
import Derived.Test.YtnbmccfaomhppaaMPrgF14
import Derived.Test.YtnbmccfaomhppaaWalks14
namespace Go.Proofs.Ytnbmccfaomhppaa
open Go.RowKit

theorem okL_of (o : Bool) (P : List Pr) (s : List UInt8) : okL o (ofP P s) = ofP (okL o P) s := by cases o <;> rfl
theorem okL_under (o : Bool) (P : List Pr) (n : Int) : okL o (underP P n) = underP (okL o P) n := by cases o <;> rfl
theorem index14 : Index14 where
  check := fun ka kc ia ic K I w hx hs => pcheck14_any ka kc ia ic K I w hx hs
  count := fun ka kc ia ic K I w hx hs => pcount14_any ka kc ia ic K I w hx hs
  of := fun ka kc ia ic K I s w hx hs => (pof14_any ka kc ia ic K I s w hx hs).mono (by
    rintro e w' ⟨a, c, rfl, _, hr, hb⟩
    rw [okL_of]
    exact ⟨a, c, rfl, (rw_intsO (P := fun _ => True) hr (fun _ _ => trivial)).ints, hb⟩)
  under := fun ka kc ia ic K I n w hx hs => (punder14_any ka kc ia ic K I n w hx hs).mono (by
    rintro e w' ⟨a, c, rfl, _, hr, hb⟩
    rw [okL_under]
    exact ⟨a, c, rfl, (txs_rw.2 hr).wide (Nat.zero_le _) (Nat.le_refl _), hb⟩)
  add := fun ka kc ia ic K I s b bc ns w hx hs hi hn => padd14_any ka kc ia ic K I s b bc ns w hx hs hi hn
  drop := fun ka kc ia ic K I s n w hx hs => pdrop14_any ka kc ia ic K I s n w hx hs
theorem indexTells_walk (w : World) (ka : Option Addr) (kc : Nat) (ia : Option Addr) (ic : Nat) (K : List (List UInt8)) (I : List (List Int)) (hx : IxV w ka kc ia ic K I) (s : ByteArray) (_hs : s.size ≤ maxLen) (n : Int) (_wf : (Lit.int .i64 n).wf = true) :
    Calls Try.prog 3 #[ixVal ka kc ia ic K I, .string s, .int .i64 n] w fun e w' => e = .returned (.bool true) ∧ Below w.heap.size w w' := indexTells_from index14 w ka kc ia ic K I hx s n
theorem indexAdds_walk (w : World) (ka : Option Addr) (kc : Nat) (ia : Option Addr) (ic : Nat) (K : List (List UInt8)) (I : List (List Int)) (hx : IxV w ka kc ia ic K I) (s : ByteArray) (_hs : s.size ≤ maxLen) (b : Option Addr) (bc : Nat) (ns : List Int) (_hm : ns.length ≤ maxLen) (hi : Ints w.heap.size w b ns) (_hc : ns.length ≤ bc) :
    Calls Try.prog 4 #[ixVal ka kc ia ic K I, .string s, .slice b ns.length bc] w fun e w' => e = .returned (.bool true) ∧ Below w.heap.size w w' := indexAdds_from index14 w ka kc ia ic K I hx s b bc ns hi
theorem indexTurns_walk (w : World) (ka : Option Addr) (kc : Nat) (ia : Option Addr) (ic : Nat) (K : List (List UInt8)) (I : List (List Int)) (hx : IxV w ka kc ia ic K I) (s : ByteArray) (_hs : s.size ≤ maxLen) (b : Option Addr) (bc : Nat) (ns : List Int) (_hm : ns.length ≤ maxLen) (hi : Ints w.heap.size w b ns) (_hc : ns.length ≤ bc) :
    Calls Try.prog 5 #[ixVal ka kc ia ic K I, .string s, .slice b ns.length bc] w fun e w' => e = .returned (.bool true) ∧ Below w.heap.size w w' := indexTurns_from index14 w ka kc ia ic K I hx s b bc ns hi
theorem indexWhole_walk (w : World) (ka : Option Addr) (kc : Nat) (ia : Option Addr) (ic : Nat) (K : List (List UInt8)) (I : List (List Int)) (hx : IxV w ka kc ia ic K I) (s : ByteArray) (_hs : s.size ≤ maxLen) (n : Int) (_wf : (Lit.int .i64 n).wf = true) :
    Calls Try.prog 6 #[ixVal ka kc ia ic K I, .string s, .int .i64 n] w fun e w' => e = .returned (.bool true) ∧ Below w.heap.size w w' := indexWhole_from index14 w ka kc ia ic K I hx s n
end Go.Proofs.Ytnbmccfaomhppaa
