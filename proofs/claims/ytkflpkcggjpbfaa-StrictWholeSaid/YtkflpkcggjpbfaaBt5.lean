/- The document's own calls, their texts said as lists of bytes. -/
import Derived.Test.YtkflpkcggjpbfaaRow5
namespace Go.Proofs.Ytkflpkcggjpbfaa
open Go.RowKit

theorem bytes_eq {a b : ByteArray} (h : a.data.toList = b.data.toList) : a = b := by
  cases a; cases b; simp at h; simp [h]
/-- Bytes as a text. -/
def bt (l : List UInt8) : ByteArray := ⟨l.toArray⟩
theorem bt_list (l : List UInt8) : (bt l).data.toList = l := by unfold bt; simp
theorem bt_of {t : ByteArray} {l : List UInt8} (h : t.data.toList = l) : t = bt l := bytes_eq (h.trans (bt_list l).symm)
theorem rlay_bt (s : ByteArray) (hs : s.size ≤ 4611686018427387904) (w : World) :
    Calls Try.prog 21 #[.string s] w fun e w' => e = .returned (.tuple #[.string (bt (layL s.data.toList)), .int .i64 (layE s.data.toList)]) ∧ Below w.heap.size w w' :=
  (rlay_any s hs w).mono fun _ _ ⟨t, he, ht, hb⟩ => ⟨by rw [he, bt_of ht.out], hb⟩
theorem rtake_bt (s : ByteArray) (hs : s.size ≤ 4611686018427387904) (p m : Int) (hp0 : -9223372036854775808 ≤ p) (hp1 : p ≤ 9223372036854775807) (w : World) :
    Calls Try.prog 54 #[.string s, .int .i64 p, .int .i64 m] w fun e w' => e = .returned (.tuple #[.string (bt (takeL s.data.toList p m)), .int .i64 (takeT s.data.toList p m), .int .i64 (takeE s.data.toList p m)]) ∧ w = w' :=
  (rtake_any s hs p m hp0 hp1 w).mono fun _ _ ⟨t, he, ht, hb⟩ => ⟨by rw [he, bt_of ht.out], hb⟩
end Go.Proofs.Ytkflpkcggjpbfaa
