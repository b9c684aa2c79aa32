/- The walk of QuizMore, from what is wanted of quiz's functions. -/
import Derived.Test.YteeaaibcdbfmfaaWalks16
namespace Go.Proofs.Yteeaaibcdbfmfaa
open Go.RowKit

/-- The last bit of a number. -/
theorem and_one16 (n : Int) : bits .and .i64 n 1 = n % 2 := by
  have e : (BitVec.ofInt 64 n &&& BitVec.ofInt 64 1).toNat = (n % 18446744073709551616).toNat % 2 := by
    rw [BitVec.toNat_and, BitVec.toNat_ofInt, show (BitVec.ofInt 64 1).toNat = 1 by decide, Nat.and_one_is_mod]
    rfl
  show IntKind.i64.wrap ((BitVec.ofInt 64 n &&& BitVec.ofInt 64 1).toNat : Nat) = n % 2
  rw [e, IntKind.wrap_i64]
  omega
end Go.Proofs.Yteeaaibcdbfmfaa
