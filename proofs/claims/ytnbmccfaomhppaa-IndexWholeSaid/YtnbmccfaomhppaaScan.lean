/- What the document says of a serial, in plain words over lists of bytes, and the contracts of the inner closure. -/
import Derived.Test.YtnbmccfaomhppaaLeaf
import Derived.Below
import Derived.OneCell
import Derived.Lib.Hide
namespace Go.Proofs.Ytnbmccfaomhppaa
open Go.RowKit

def okC (c : UInt8) : Bool := (decide (48 ≤ c.toNat) && decide (c.toNat ≤ 57)) || (decide (65 ≤ c.toNat) && decide (c.toNat ≤ 90)) || decide (c.toNat = 45)
def okF (c : UInt8) : Bool := okC c || (decide (97 ≤ c.toNat) && decide (c.toNat ≤ 122))
def cap (c : UInt8) : UInt8 := if 97 ≤ c.toNat ∧ c.toNat ≤ 122 then c - 32 else c
/-- Reads signs in order; tells whether the last one was a dash, or none where a sign may not stand. -/
def run (ok : UInt8 → Bool) : Bool → List UInt8 → Option Bool
  | d, [] => some d
  | d, c :: l => if ok c && !(decide (c.toNat = 45) && d) then run ok (decide (c.toNat = 45)) l else none
def serialB (ok : UInt8 → Bool) (l : List UInt8) : Bool := decide (l.length ≤ 16) && (run ok true l == some false)
def checkOf (l : List UInt8) : Int := if serialB okC l then 0 else 9
def foldL (l : List UInt8) : List UInt8 := if serialB okF l then l.map cap else []
def foldE (l : List UInt8) : Int := if serialB okF l then 0 else 9

theorem run_append (ok : UInt8 → Bool) (a b : List UInt8) (d : Bool) : run ok d (a ++ b) = (run ok d a).bind fun d' => run ok d' b := by
  induction a generalizing d with
  | nil => rfl
  | cons c l ih =>
    simp only [List.cons_append, run]
    split
    · exact ih _
    · rfl
theorem take_snoc (s : ByteArray) (k : Nat) (h : k < s.size) : s.data.toList.take (k + 1) = s.data.toList.take k ++ [s[k]] := by
  rw [List.take_succ_eq_append_getElem (by simpa using h)]; rfl
theorem take_drop_at (s : ByteArray) (k : Nat) (h : k < s.size) : s.data.toList = s.data.toList.take k ++ (s[k] :: s.data.toList.drop (k + 1)) := by
  have h1 := List.take_append_drop (k + 1) s.data.toList
  rw [take_snoc s k h] at h1
  simpa using h1.symm
theorem run_stop (ok : UInt8 → Bool) (s : ByteArray) (k : Nat) (h : k < s.size) (d : Bool) (hd : run ok true (s.data.toList.take k) = some d) (hs : (ok s[k] && !(decide (s[k].toNat = 45) && d)) = false) : run ok true s.data.toList = none := by
  rw [take_drop_at s k h, run_append, hd]
  simp only [Option.bind_some, run]
  rw [hs]; rfl
theorem run_go (ok : UInt8 → Bool) (s : ByteArray) (k : Nat) (h : k < s.size) (d : Bool) (hd : run ok true (s.data.toList.take k) = some d) (hs : (ok s[k] && !(decide (s[k].toNat = 45) && d)) = true) : run ok true (s.data.toList.take (k + 1)) = some (decide (s[k].toNat = 45)) := by
  rw [take_snoc s k h, run_append, hd]
  simp only [Option.bind_some, run]
  rw [hs]; rfl
theorem check_long {l : List UInt8} (h : 16 < l.length) : checkOf l = 9 := by
  unfold checkOf serialB; rw [decide_eq_false (by omega)]; rfl
theorem check_none {l : List UInt8} (h : run okC true l = none) : checkOf l = 9 := by
  unfold checkOf serialB; rw [h]; simp
theorem check_dash {l : List UInt8} (h : run okC true l = some true) : checkOf l = 9 := by
  unfold checkOf serialB; rw [h]; simp
theorem check_ok {l : List UInt8} (h1 : l.length ≤ 16) (h : run okC true l = some false) : checkOf l = 0 := by
  unfold checkOf serialB; rw [h, decide_eq_true h1]; rfl
theorem class_zero (c : UInt8) : (classOf (c.toNat : Int) = 0) ↔ okF c = false := by
  unfold classOf okF okC
  have := c.toNat_lt
  by_cases h1 : (97 ≤ (c.toNat : Int) ∧ (c.toNat : Int) ≤ 122) ∨ (65 ≤ (c.toNat : Int) ∧ (c.toNat : Int) ≤ 90)
  · rw [if_pos h1]; simp; omega
  · rw [if_neg h1]
    by_cases h2 : 48 ≤ (c.toNat : Int) ∧ (c.toNat : Int) ≤ 57
    · rw [if_pos h2]; simp; omega
    · rw [if_neg h2]
      by_cases h3 : (c.toNat : Int) = 45
      · rw [if_pos h3]; simp; omega
      · rw [if_neg h3]; simp; omega
theorem class_high {r : Int} (h : 128 ≤ r) : classOf r = 0 := by
  unfold classOf
  rw [if_neg (by omega), if_neg (by omega), if_neg (by omega)]
theorem okC_high {c : UInt8} (h : 128 ≤ c.toNat) : okC c = false := by unfold okC; simp; omega
theorem okF_high {c : UInt8} (h : 128 ≤ c.toNat) : okF c = false := by unfold okF; rw [okC_high h]; simp; omega
/-- The three tests of one round, in one: a sign may stand. -/
theorem okC_iff (c : UInt8) : okC c = (!(classOf (c.toNat : Int) == 0) && !lowB (c.toNat : Int)) := by
  rw [Bool.eq_iff_iff]
  simp [class_zero, lowB, okF, okC]
  omega

set_option maxHeartbeats 400000 in
theorem apart_any (r p : Int) (b : Nat) (w : World) (hc : w.cell? ⟨b, 0, none⟩ = some (.int .i32 p)) (hf : w.frozen? ⟨b, 0, none⟩ = false) :
    Calls Try.prog 54 #[.int .i32 r, .pointer (some ⟨b, 0, none⟩)] w fun e w' => e = .returned (.bool (!(r == 45) || !(p == 45))) ∧ w' = w.setCell ⟨b, 0, none⟩ (.int .i32 r) := by
  by_cases h1 : r = 45
  · subst h1
    by_cases h2 : p = 45
    · subst h2
      go_enter Try.func54, Try.ntmps54
      go_wp2
      go_ret
      exact ⟨rfl, rfl⟩
    · have e : (p == 45) = false := by simp [h2]
      have e' : (p != 45) = true := by simp [h2]
      clear h2
      go_enter Try.func54, Try.ntmps54
      go_wp2
      go_ret
      exact ⟨by rw [e]; rfl, rfl⟩
  · have e : (r == 45) = false := by simp [h1]
    have e' : (r != 45) = true := by simp [h1]
    clear h1
    go_enter Try.func54, Try.ntmps54
    go_wp2
    go_ret
    exact ⟨by rw [e]; rfl, rfl⟩

theorem made_any (w : World) : Calls Try.prog 39 #[] w fun e w' => e = .returned (.func (.func 54) #[] #[.pointer (some ⟨w.heap.size, 0, none⟩)]) ∧ w' = w.alloc (.cells #[.int .i32 45] 21) := by
  have hmf : ∀ (fn : Fn) (first cap : Array Value) (w : World), (Instr.makeFunc fn first cap).run Try.prog w = .ok (.func fn first cap) w := fun _ _ _ _ => rfl
  go_enter Try.func39, Try.ntmps39
  go_wp2
  go_ret
  exact ⟨rfl, rfl⟩
end Go.Proofs.Ytnbmccfaomhppaa
