/- The contracts of the small functions of layer 1 (classes and values of runes), each for every rune and in every world. -/
import Derived.Test.YteccahggahpeeaaRows
import Derived.Test.YteccahggahpeeaaShelf
import Derived.WalkKit
import Derived.LoopTactic
import Derived.Outline
import Derived.Deep.QuietTactic
import Derived.BigQuiet
import Derived.Below
import Derived.OneCell
import Derived.Lib.Hide
import Derived.Test.YteccahggahpeeaaProg
import Derived.BigCall
import Derived.Lib.FrozenHead2
import Derived.Lib.OthersKept
import Derived.Lib.Builder
import Derived.WalkLawsBesides
import Derived.WalkSpells
import Derived.Lib.RuneBytes
import Derived.Laws.IdiomStrings
import Derived.Lib.SmallJoins
import Derived.Laws.RangeAny
namespace Go.Proofs.Yteccahggahpeeaa
open Go.RowKit

theorem ret_int {k : IntKind} {a b : Int} (h : a = b) : Ending.returned (.int k a) = .returned (.int k b) := by rw [h]

def lowB (r : Int) : Bool := decide (97 ≤ r ∧ r ≤ 122)
def uppB (r : Int) : Bool := decide (65 ≤ r ∧ r ≤ 90)
def digB (r : Int) : Bool := decide (48 ≤ r ∧ r ≤ 57)
def classOf (r : Int) : Int := if (97 ≤ r ∧ r ≤ 122) ∨ (65 ≤ r ∧ r ≤ 90) then 1 else if 48 ≤ r ∧ r ≤ 57 then 2 else if r = 45 then 3 else 0
def valueOf (r : Int) : Int := if 48 ≤ r ∧ r ≤ 57 then r - 48 else if 65 ≤ r ∧ r ≤ 90 then r - 55 else if r = 42 then 36 else -1
def capOf (r : Int) : Int := if 97 ≤ r ∧ r ≤ 122 then r - 32 else r

theorem low_yes {r : Int} (h : 97 ≤ r ∧ r ≤ 122) : lowB r = true := by simp [lowB, h]
theorem low_no {r : Int} (h : ¬ (97 ≤ r ∧ r ≤ 122)) : lowB r = false := by simp [lowB]; omega
theorem upp_yes {r : Int} (h : 65 ≤ r ∧ r ≤ 90) : uppB r = true := by simp [uppB, h]
theorem upp_no {r : Int} (h : ¬ (65 ≤ r ∧ r ≤ 90)) : uppB r = false := by simp [uppB]; omega
theorem dig_yes {r : Int} (h : 48 ≤ r ∧ r ≤ 57) : digB r = true := by simp [digB, h]
theorem dig_no {r : Int} (h : ¬ (48 ≤ r ∧ r ≤ 57)) : digB r = false := by simp [digB]; omega

def longB (s : ByteArray) : Bool := decide ((16 : Int) < (s.size : Int))
end Go.Proofs.Yteccahggahpeeaa
namespace Go.Proofs.Yteccahggahpeeaa
open Go.RowKit

def okC (c : UInt8) : Bool := (decide (48 ≤ c.toNat) && decide (c.toNat ≤ 57)) || (decide (65 ≤ c.toNat) && decide (c.toNat ≤ 90)) || decide (c.toNat = 45)
def okF (c : UInt8) : Bool := okC c || (decide (97 ≤ c.toNat) && decide (c.toNat ≤ 122))
def cap (c : UInt8) : UInt8 := if 97 ≤ c.toNat ∧ c.toNat ≤ 122 then c - 32 else c
/-- Reads signs in order; tells whether the last one was a dash, or none where a sign may not stand. -/
def run (ok : UInt8 → Bool) : Bool → List UInt8 → Option Bool
  | d, [] => some d
  | d, c :: l => if ok c && !(decide (c.toNat = 45) && d) then run ok (decide (c.toNat = 45)) l else none
def serialB (ok : UInt8 → Bool) (l : List UInt8) : Bool := decide (l.length ≤ 16) && (run ok true l == some false)
def checkOf (l : List UInt8) : Int := if serialB okC l then 0 else 9
def foldL (l : List UInt8) : List UInt8 := if serialB okF l then l.map cap else []
def foldE (l : List UInt8) : Int := if serialB okF l then 0 else 9

theorem run_append (ok : UInt8 → Bool) (a b : List UInt8) (d : Bool) : run ok d (a ++ b) = (run ok d a).bind fun d' => run ok d' b := by
  induction a generalizing d with
  | nil => rfl
  | cons c l ih =>
    simp only [List.cons_append, run]
    split
    · exact ih _
    · rfl
theorem take_snoc (s : ByteArray) (k : Nat) (h : k < s.size) : s.data.toList.take (k + 1) = s.data.toList.take k ++ [s[k]] := by
  rw [List.take_succ_eq_append_getElem (by simpa using h)]; rfl
theorem take_drop_at (s : ByteArray) (k : Nat) (h : k < s.size) : s.data.toList = s.data.toList.take k ++ (s[k] :: s.data.toList.drop (k + 1)) := by
  have h1 := List.take_append_drop (k + 1) s.data.toList
  rw [take_snoc s k h] at h1
  simpa using h1.symm
theorem run_stop (ok : UInt8 → Bool) (s : ByteArray) (k : Nat) (h : k < s.size) (d : Bool) (hd : run ok true (s.data.toList.take k) = some d) (hs : (ok s[k] && !(decide (s[k].toNat = 45) && d)) = false) : run ok true s.data.toList = none := by
  rw [take_drop_at s k h, run_append, hd]
  simp only [Option.bind_some, run]
  rw [hs]; rfl
theorem run_go (ok : UInt8 → Bool) (s : ByteArray) (k : Nat) (h : k < s.size) (d : Bool) (hd : run ok true (s.data.toList.take k) = some d) (hs : (ok s[k] && !(decide (s[k].toNat = 45) && d)) = true) : run ok true (s.data.toList.take (k + 1)) = some (decide (s[k].toNat = 45)) := by
  rw [take_snoc s k h, run_append, hd]
  simp only [Option.bind_some, run]
  rw [hs]; rfl
theorem check_long {l : List UInt8} (h : 16 < l.length) : checkOf l = 9 := by
  unfold checkOf serialB; rw [decide_eq_false (by omega)]; rfl
theorem check_none {l : List UInt8} (h : run okC true l = none) : checkOf l = 9 := by
  unfold checkOf serialB; rw [h]; simp
theorem check_dash {l : List UInt8} (h : run okC true l = some true) : checkOf l = 9 := by
  unfold checkOf serialB; rw [h]; simp
theorem check_ok {l : List UInt8} (h1 : l.length ≤ 16) (h : run okC true l = some false) : checkOf l = 0 := by
  unfold checkOf serialB; rw [h, decide_eq_true h1]; rfl
theorem class_zero (c : UInt8) : (classOf (c.toNat : Int) = 0) ↔ okF c = false := by
  unfold classOf okF okC
  have := c.toNat_lt
  by_cases h1 : (97 ≤ (c.toNat : Int) ∧ (c.toNat : Int) ≤ 122) ∨ (65 ≤ (c.toNat : Int) ∧ (c.toNat : Int) ≤ 90)
  · rw [if_pos h1]; simp; omega
  · rw [if_neg h1]
    by_cases h2 : 48 ≤ (c.toNat : Int) ∧ (c.toNat : Int) ≤ 57
    · rw [if_pos h2]; simp; omega
    · rw [if_neg h2]
      by_cases h3 : (c.toNat : Int) = 45
      · rw [if_pos h3]; simp; omega
      · rw [if_neg h3]; simp; omega
theorem class_high {r : Int} (h : 128 ≤ r) : classOf r = 0 := by
  unfold classOf
  rw [if_neg (by omega), if_neg (by omega), if_neg (by omega)]
theorem okC_high {c : UInt8} (h : 128 ≤ c.toNat) : okC c = false := by unfold okC; simp; omega
theorem okF_high {c : UInt8} (h : 128 ≤ c.toNat) : okF c = false := by unfold okF; rw [okC_high h]; simp; omega
/-- The three tests of one round, in one: a sign may stand. -/
theorem okC_iff (c : UInt8) : okC c = (!(classOf (c.toNat : Int) == 0) && !lowB (c.toNat : Int)) := by
  rw [Bool.eq_iff_iff]
  simp [class_zero, lowB, okF, okC]
  omega

end Go.Proofs.Yteccahggahpeeaa
set_option linter.unusedVariables false
set_option maxRecDepth 100000
namespace Go.Proofs.Yteccahggahpeeaa
open Go.RowKit

theorem sizeBuilder : (Try.prog.info? 90).map (·.size) = some 2 := by kernel_rfl
theorem liesBuilder : liesAt Try.prog Try.prog.depth 90 (2 / Try.prog.cellsOf 90) 0 90 1 = true := by kernel_rfl

set_option maxHeartbeats 1000000 in
theorem copied_used (b : Nat) (w : World) (h0 : w.cell? ⟨b, 0, none⟩ = some (.pointer (some ⟨b, 0, none⟩))) :
    Calls Try.prog 66 #[.pointer (some ⟨b, 0, none⟩)] w fun e w' => e = .returned (.tuple #[]) ∧ w' = w := by
  obtain ⟨j, hj, _⟩ := Option.map_eq_some_iff.1 sizeBuilder
  go_enter Try.func66, Try.ntmps66
  go_wp2
  rw [Lib.run_neq_ptr_same w _ Try.underlying87 hj]
  go_wp2
  go_end0
  exact ⟨rfl, rfl⟩

set_option maxHeartbeats 1000000 in
theorem copied_fresh (b : Nat) (w : World) (h0 : w.cell? ⟨b, 0, none⟩ = some (.pointer none)) (hsh : w.shape? b = some (90, 2)) (hfz : w.frozen? ⟨b, 0, none⟩ = false) :
    Calls Try.prog 66 #[.pointer (some ⟨b, 0, none⟩)] w fun e w' => e = .returned (.tuple #[]) ∧ w' = w.setCell ⟨b, 0, none⟩ (.pointer (some ⟨b, 0, none⟩)) := by
  obtain ⟨j, hj, hjs⟩ := Option.map_eq_some_iff.1 sizeBuilder
  go_enter Try.func66, Try.ntmps66
  go_wp2
  rw [Lib.run_to_unsafe w ⟨b, 0, none⟩ Try.underlying87 Try.underlying156 hj (by rw [hjs]; decide) hsh (Nat.zero_lt_succ 1)]
  simp only [Result.andThen]
  rw [Oper.upon_value]
  go_wp2
  rw [run_callFunc_extern Try.func89 (by kernel_rfl) (by kernel_rfl) (by kernel_rfl) (e := Extern.AbiNoEscape.same) (by kernel_rfl)]
  rw [Lib.run_noEscape]
  simp only [Result.andThen]
  rw [Oper.upon_value]
  go_wp2
  rw [Lib.run_from_unsafe w ⟨b, 0, none⟩ Try.underlying156 Try.underlying87 hj hsh liesBuilder]
  simp only [Result.andThen]
  rw [Oper.upon_value]
  go_wp2
  go_end0
  exact ⟨rfl, rfl⟩

theorem copied_any (B b : Nat) (bs : List Value) (w : World) (h : Lib.IsBuilderF 90 5 B b bs w) :
    Calls Try.prog 66 #[.pointer (some ⟨b, 0, none⟩)] w fun e w' => e = .returned (.tuple #[]) ∧ (Lib.BuilderAtF 90 5 B b (.pointer (some ⟨b, 0, none⟩)) bs w' ∧ Below B w w' ∧ Lib.OthersKept 5 (some b) w w') := by
  rcases h with h | h
  · refine (copied_fresh b w h.cell0 h.shape h.frozen0).mono ?_
    rintro e w' ⟨rfl, rfl⟩
    exact ⟨rfl, h.used _, (Below.refl B w).setCell (p := ⟨b, 0, none⟩) h.1 _, (Lib.OthersKept.refl _ _ w).setCell ⟨b, 0, none⟩ rfl _⟩
  · refine (copied_used b w h.cell0).mono ?_
    rintro e w' ⟨rfl, rfl⟩
    exact ⟨rfl, h, Below.refl B _, Lib.OthersKept.refl _ _ _⟩

theorem infoByte8 : (Try.prog.info? 5).map (fun i => (i.zero, i.size, i.bytes)) = some (some (.int .u8 0), 1, 1) := by kernel_rfl
set_option maxHeartbeats 2000000 in
theorem byte_written (B b : Nat) (bs : List Value) (c : Int) (w : World) (h : Lib.IsBuilderF 90 5 B b bs w) (hlen : bs.length + 1 ≤ 140737488355328) (hBw : B ≤ w.heap.size) :
    Calls Try.prog 92 #[.pointer (some ⟨b, 0, none⟩), .int .u8 c] w fun e w' => e = .returned .nilIface ∧ (Lib.BuilderAtF 90 5 B b (.pointer (some ⟨b, 0, none⟩)) (bs ++ [.int .u8 c]) w' ∧ Below B w w' ∧ Lib.OthersKept 5 (some b) w w') := by
  obtain ⟨i0, hi, hz0, hz1, hz2⟩ := info_parts infoByte8
  go_enter Try.func92, Try.ntmps92
  go_wp2_with (go_at_call 66; refine (copied_any B b bs _ h).mono ?_)
  rintro e w1 ⟨rfl, h1, hb1, hk1⟩
  obtain ⟨hB, v, hbk, hown, hne⟩ := h1
  have hsz := hb1.size
  have hlt : b < w1.heap.size := (Array.getElem?_eq_some_iff.1 hbk).1
  have c0 : w1.cell? ⟨b, 0, none⟩ = some (.pointer (some ⟨b, 0, none⟩)) := by rw [Lib.cell_of_heap hbk]; rfl
  have c1 : w1.cell? ⟨b, 1, none⟩ = some v := by rw [Lib.cell_of_heap hbk]; rfl
  have hlit : ∀ (j : Nat) (u : Value), [Value.int .u8 c][j]? = some u → (w1.alloc (.cells #[.int .u8 c] 5)).cell? ((⟨w1.heap.size, 0, none⟩ : Addr).add j) = some u := by
    intro j u hj
    match j, hj with
    | 0, hj => simp at hj; subst hj; simp [Addr.add]
  go_wp2_with (at_builtin; refine wpList_append_ownF _ rfl _ _ 88 rfl B 5 i0 (.int .u8 0) 1 1 Try.underlying88 hi hz0 hz1 hz2 rfl (by decide) _ _ _ rfl (hown.alloc _) ⟨w1.heap.size, 0, none⟩ 1 1 [.int .u8 c] rfl rfl ?c1 ?c2 ?c3 ?c4 ?c5 ?_)
  case c1 => exact hlit
  case c2 => intro u hu; simp at hu; subst hu; rfl
  case c3 => unfold maxLen; omega
  case c4 => omega
  case c5 => simp; omega
  intro v' w2 hown' hgrow _
  have hb2 : w2.heap[b]? = some (.cells #[.pointer (some ⟨b, 0, none⟩), v] 90 (0, 0)) := by
    rw [hgrow.block b (by simp; omega) (fun e => hne e.symm), Lib.alloc_old w1 _ b hlt]
    exact hbk
  have d0 : w2.cell? ⟨b, 0, none⟩ = some (.pointer (some ⟨b, 0, none⟩)) := by rw [Lib.cell_of_heap hb2]; rfl
  have d1 : w2.cell? ⟨b, 1, none⟩ = some v := by rw [Lib.cell_of_heap hb2]; rfl
  have f1 : w2.frozen? ⟨b, 1, none⟩ = false := Lib.frozen_of_heap hb2 1
  obtain ⟨g, cap, rfl⟩ : ∃ g cap, v' = .slice (some ⟨g, 0, none⟩) (bs.length + 1) cap := by
    rcases hown'.2 with ⟨_, h0⟩ | ⟨g, cap, cur, fz, hv, _⟩
    · omega
    · exact ⟨g, cap, hv⟩
  go_wp2
  go_ret
  refine ⟨rfl, Lib.BuilderAtF.put (T := 90) (e := 5) hB hb2 (bs' := bs ++ [.int .u8 c]) (by simpa using hown') (by decide), ?_, ((hk1.alloc _).grown hgrow (Lib.ownsRowF_kind (hown.alloc _))).setCell ⟨b, 1, none⟩ rfl _⟩
  exact ((hb1.alloc (Nat.le_trans hBw hsz) _).grown hgrow (by simp; omega) (fun k hk => (hown.lt k hk).1)).setCell (p := ⟨b, 1, none⟩) hB _
end Go.Proofs.Yteccahggahpeeaa
namespace Go.Proofs.Yteccahggahpeeaa
open Go.RowKit

theorem below_drewN {B : Nat} {a w : World} (h : Below B a w) (n : Nat) : Below B a (w.drewN n) := ⟨h.os, h.tape, h.output, h.size, h.block⟩
def ltS (a b : ByteArray) : Bool := Op.bytesLess a.toList b.toList
def eqS (a b : ByteArray) : Bool := a.toList == b.toList
def textAt (xs : List ByteArray) (i : Nat) : ByteArray := xs.getD i ByteArray.empty
/-- What is wrong with the text at a place, of those behind it nothing is asked. -/
def stepOf (xs : List ByteArray) (i : Nat) : Int :=
  if checkOf (textAt xs i).data.toList = 9 then 9 else if 0 < i ∧ (Op.bytesLess (textAt xs i).toList (textAt xs (i - 1)).toList || (textAt xs i).toList == (textAt xs (i - 1)).toList) = true then 32 else 0
def rowFrom (xs : List ByteArray) : Nat → Nat → Int
  | 0, _ => 0
  | n + 1, i => if stepOf xs i = 0 then rowFrom xs n (i + 1) else stepOf xs i
def rowOf (xs : List ByteArray) : Int := rowFrom xs xs.length 0

theorem check_two (l : List UInt8) : checkOf l = 0 ∨ checkOf l = 9 := by unfold checkOf; split <;> simp
theorem rowFrom_stop (xs : List ByteArray) (n i : Nat) (h : 0 < n) (hs : stepOf xs i ≠ 0) : rowFrom xs n i = stepOf xs i := by
  obtain ⟨m, rfl⟩ : ∃ m, n = m + 1 := ⟨n - 1, by omega⟩
  simp only [rowFrom]; rw [if_neg hs]
theorem rowFrom_go (xs : List ByteArray) (n i : Nat) (h : 0 < n) (hs : stepOf xs i = 0) : rowFrom xs n i = rowFrom xs (n - 1) (i + 1) := by
  obtain ⟨m, rfl⟩ : ∃ m, n = m + 1 := ⟨n - 1, by omega⟩
  simp only [rowFrom]; rw [if_pos hs]; rfl

/-- A slice value whose elements are just these texts; its cells lie below block B. -/
def Texts (B : Nat) (w : World) (a : Option Addr) (xs : List ByteArray) : Prop :=
  xs = [] ∨ ∃ b off, a = some ⟨b, off, none⟩ ∧ b < B ∧ ∀ j, j < xs.length → w.cell? ⟨b, off + j, none⟩ = some (.string (textAt xs j))
theorem Texts.below {B : Nat} {w w' : World} {a : Option Addr} {xs : List ByteArray} (h : Texts B w a xs) (hb : Below B w w') : Texts B w' a xs := by
  rcases h with h | ⟨b, off, ha, hB, hc⟩
  · exact Or.inl h
  · exact Or.inr ⟨b, off, ha, hB, fun j hj => (hb.cell (p := ⟨b, off + j, none⟩) hB).trans (hc j hj)⟩

end Go.Proofs.Yteccahggahpeeaa
namespace Go.Proofs.Yteccahggahpeeaa
open Go.RowKit

theorem bl_irrefl (x : List UInt8) : Op.bytesLess x x = false := by
  induction x with
  | nil => rfl
  | cons a x ih => simp [Op.bytesLess, ih, UInt8.lt_irrefl]
theorem bl_trans : ∀ (x y z : List UInt8), Op.bytesLess x y = true → Op.bytesLess y z = true → Op.bytesLess x z = true
  | _, [], _, h, _ => by unfold Op.bytesLess at h; cases h
  | _, _ :: _, [], _, h => by unfold Op.bytesLess at h; cases h
  | [], _ :: _, _ :: _, _, _ => rfl
  | a :: x, b :: y, c :: z, h1, h2 => by
    simp only [Op.bytesLess, Bool.or_eq_true, Bool.and_eq_true, decide_eq_true_eq, beq_iff_eq] at h1 h2 ⊢
    rcases h1 with h1 | ⟨rfl, h1⟩
    · rcases h2 with h2 | ⟨rfl, h2⟩
      · exact Or.inl (UInt8.lt_trans h1 h2)
      · exact Or.inl h1
    · rcases h2 with h2 | ⟨rfl, h2⟩
      · exact Or.inl h2
      · exact Or.inr ⟨rfl, bl_trans x y z h1 h2⟩
theorem bl_tri : ∀ (x y : List UInt8), Op.bytesLess x y = false → x = y ∨ Op.bytesLess y x = true
  | [], [], _ => Or.inl rfl
  | [], _ :: _, h => by simp [Op.bytesLess] at h
  | _ :: _, [], _ => Or.inr rfl
  | a :: x, b :: y, h => by
    simp only [Op.bytesLess, Bool.or_eq_false_iff, Bool.and_eq_false_iff, decide_eq_false_iff_not, beq_eq_false_iff_ne] at h
    obtain ⟨h1, h2⟩ := h
    by_cases e : a = b
    · subst e
      rcases h2 with h2 | h2
      · exact absurd rfl h2
      · rcases bl_tri x y h2 with h3 | h3
        · exact Or.inl (by rw [h3])
        · exact Or.inr (by simp [Op.bytesLess, h3])
    · refine Or.inr ?_
      have : b < a := by
        rw [UInt8.lt_iff_toNat_lt] at h1 ⊢
        have : a.toNat ≠ b.toNat := fun h => e (UInt8.toNat_inj.1 h)
        omega
      simp [Op.bytesLess, this]

def seek (xs : List ByteArray) (s : ByteArray) : Nat → Nat → Int
  | 0, _ => -1
  | n + 1, i => if ((textAt xs i).toList == s.toList) = true then (i : Int) else seek xs s n (i + 1)
def seekOf (xs : List ByteArray) (s : ByteArray) : Int := seek xs s xs.length 0
def under (xs : List ByteArray) (s : ByteArray) : Nat → Nat → Nat
  | 0, i => i
  | n + 1, i => if Op.bytesLess (textAt xs i).toList s.toList = true then under xs s n (i + 1) else i
def underOf (xs : List ByteArray) (s : ByteArray) : Nat := under xs s xs.length 0
def findI (xs : List ByteArray) (s : ByteArray) : Int := if 0 ≤ seekOf xs s then seekOf xs s else if rowOf xs = 0 then (underOf xs s : Int) else 0
def findB (xs : List ByteArray) (s : ByteArray) : Bool := decide (0 ≤ seekOf xs s)

theorem seek_hit (xs : List ByteArray) (s : ByteArray) (n i : Nat) (h : 0 < n) (he : ((textAt xs i).toList == s.toList) = true) : seek xs s n i = i := by
  obtain ⟨m, rfl⟩ : ∃ m, n = m + 1 := ⟨n - 1, by omega⟩
  simp only [seek]; rw [if_pos he]
theorem seek_miss (xs : List ByteArray) (s : ByteArray) (n i : Nat) (h : 0 < n) (he : ((textAt xs i).toList == s.toList) = false) : seek xs s n i = seek xs s (n - 1) (i + 1) := by
  obtain ⟨m, rfl⟩ : ∃ m, n = m + 1 := ⟨n - 1, by omega⟩
  simp only [seek]; rw [if_neg (by rw [he]; simp)]; rfl
theorem under_on (xs : List ByteArray) (s : ByteArray) (n i : Nat) (h : 0 < n) (he : Op.bytesLess (textAt xs i).toList s.toList = true) : under xs s n i = under xs s (n - 1) (i + 1) := by
  obtain ⟨m, rfl⟩ : ∃ m, n = m + 1 := ⟨n - 1, by omega⟩
  simp only [under]; rw [if_pos he]; rfl
theorem under_end (xs : List ByteArray) (s : ByteArray) (n i : Nat) (he : n = 0 ∨ Op.bytesLess (textAt xs i).toList s.toList = false) : under xs s n i = i := by
  cases n with
  | zero => rfl
  | succ n =>
    simp only [under]
    rw [if_neg]
    rcases he with he | he
    · omega
    · rw [he]; simp
/-- Where no text is the one that is sought, none is found. -/
theorem seek_none (xs : List ByteArray) (s : ByteArray) (n : Nat) : ∀ i, (∀ j, i ≤ j → j < i + n → ((textAt xs j).toList == s.toList) = false) → seek xs s n i = -1 := by
  induction n with
  | zero => intro i _; rfl
  | succ n ih =>
    intro i h
    rw [seek_miss xs s (n + 1) i (by omega) (h i (by omega) (by omega))]
    exact ih (i + 1) fun j h1 h2 => h j (by omega) (by omega)
theorem seek_at (xs : List ByteArray) (s : ByteArray) (n : Nat) (k : Nat) (hk : ((textAt xs k).toList == s.toList) = true) : ∀ i, i ≤ k → k < i + n → (∀ j, i ≤ j → j < k → ((textAt xs j).toList == s.toList) = false) → seek xs s n i = k := by
  induction n with
  | zero => intro i h1 h2; omega
  | succ n ih =>
    intro i h1 h2 h
    rcases Nat.lt_or_ge i k with h3 | h3
    · rw [seek_miss xs s (n + 1) i (by omega) (h i (by omega) h3)]
      exact ih (i + 1) (by omega) (by omega) fun j h4 h5 => h j (by omega) h5
    · obtain rfl : i = k := by omega
      exact seek_hit xs s _ i (by omega) hk
theorem under_at (xs : List ByteArray) (s : ByteArray) (n k : Nat) : ∀ i, i ≤ k → k ≤ i + n → (∀ j, i ≤ j → j < k → Op.bytesLess (textAt xs j).toList s.toList = true) → (k < i + n → Op.bytesLess (textAt xs k).toList s.toList = false) → under xs s n i = k := by
  induction n with
  | zero => intro i h1 h2 _ _; simp only [under]; omega
  | succ n ih =>
    intro i h1 h2 h h'
    rcases Nat.lt_or_ge i k with h3 | h3
    · rw [under_on xs s (n + 1) i (by omega) (h i (by omega) h3)]
      exact ih (i + 1) (by omega) (by omega) (fun j h4 h5 => h j (by omega) h5) (fun h4 => h' (by omega))
    · obtain rfl : i = k := by omega
      exact under_end xs s _ i (Or.inr (h' (by omega)))

/-- A row in order: each text is greater than the one ahead of it. -/
theorem row_steps (xs : List ByteArray) (n : Nat) : ∀ i, rowFrom xs n i = 0 → ∀ j, i ≤ j → j < i + n → stepOf xs j = 0 := by
  induction n with
  | zero => intro i _ j h1 h2; omega
  | succ n ih =>
    intro i h j h1 h2
    simp only [rowFrom] at h
    by_cases hs : stepOf xs i = 0
    · rw [if_pos hs] at h
      rcases Nat.lt_or_ge i j with h3 | h3
      · exact ih (i + 1) h j (by omega) (by omega)
      · obtain rfl : i = j := by omega
        exact hs
    · rw [if_neg hs] at h
      exact absurd h hs
theorem row_next (xs : List ByteArray) (h : rowOf xs = 0) (i : Nat) (hi : i + 1 < xs.length) : Op.bytesLess (textAt xs i).toList (textAt xs (i + 1)).toList = true := by
  have hs := row_steps xs xs.length 0 h (i + 1) (by omega) (by omega)
  unfold stepOf at hs
  split at hs
  · omega
  · split at hs
    · omega
    · rename_i hn
      have hn : (Op.bytesLess (textAt xs (i + 1)).toList (textAt xs i).toList || (textAt xs (i + 1)).toList == (textAt xs i).toList) = false := by
        have : ¬ ((Op.bytesLess (textAt xs (i + 1)).toList (textAt xs i).toList || (textAt xs (i + 1)).toList == (textAt xs i).toList) = true) := fun h' => hn ⟨by omega, by simpa using h'⟩
        simpa using this
      rw [Bool.or_eq_false_iff] at hn
      rcases bl_tri _ _ hn.1 with h3 | h3
      · rw [h3] at hn; simp at hn
      · exact h3
theorem row_less (xs : List ByteArray) (h : rowOf xs = 0) (i : Nat) : ∀ j, i < j → j < xs.length → Op.bytesLess (textAt xs i).toList (textAt xs j).toList = true := by
  intro j
  induction j with
  | zero => intro h1; omega
  | succ j ih =>
    intro h1 h2
    have hn := row_next xs h j h2
    rcases Nat.lt_or_ge i j with h3 | h3
    · exact bl_trans _ _ _ (ih h3 (by omega)) hn
    · obtain rfl : i = j := by omega
      exact hn
theorem not_less_up (xs : List ByteArray) (h : rowOf xs = 0) (s : ByteArray) (i j : Nat) (hij : i ≤ j) (hj : j < xs.length) (hi : Op.bytesLess (textAt xs i).toList s.toList = false) : Op.bytesLess (textAt xs j).toList s.toList = false := by
  rcases Nat.lt_or_ge i j with h3 | h3
  · cases hq : Op.bytesLess (textAt xs j).toList s.toList with
    | false => rfl
    | true => rw [bl_trans _ _ _ (row_less xs h i j h3 hj) hq] at hi; cases hi
  · obtain rfl : i = j := by omega
    exact hi
theorem less_down (xs : List ByteArray) (h : rowOf xs = 0) (s : ByteArray) (i j : Nat) (hij : i ≤ j) (hj : j < xs.length) (hi : Op.bytesLess (textAt xs j).toList s.toList = true) : Op.bytesLess (textAt xs i).toList s.toList = true := by
  rcases Nat.lt_or_ge i j with h3 | h3
  · exact bl_trans _ _ _ (row_less xs h i j h3 hj) hi
  · obtain rfl : i = j := by omega
    exact hi
theorem ne_of_less {x s : List UInt8} (h : Op.bytesLess x s = true) : (x == s) = false := by
  rw [beq_eq_false_iff_ne]
  rintro rfl
  rw [bl_irrefl] at h; cases h

/-- What a search by halves finds, in a row in order, is what the plain words say. -/
theorem search_says (xs : List ByteArray) (s : ByteArray) (h : rowOf xs = 0) (k : Nat) (hk : k ≤ xs.length) (hlo : ∀ j, j < k → Op.bytesLess (textAt xs j).toList s.toList = true) (hhi : ∀ j, k ≤ j → j < xs.length → Op.bytesLess (textAt xs j).toList s.toList = false) :
    findI xs s = k ∧ findB xs s = (decide (k < xs.length) && ((textAt xs k).toList == s.toList)) := by
  have hu : underOf xs s = k := under_at xs s xs.length k 0 (by omega) (by omega) (fun j _ hj => hlo j hj) (fun hj => hhi k (Nat.le_refl _) (by omega))
  by_cases hq : k < xs.length ∧ ((textAt xs k).toList == s.toList) = true
  · have hs : seekOf xs s = k := seek_at xs s xs.length k hq.2 0 (by omega) (by omega) (fun j _ hj => ne_of_less (hlo j hj))
    refine ⟨by unfold findI; rw [hs, if_pos (by omega)], ?_⟩
    unfold findB
    rw [hs, decide_eq_true (by omega), decide_eq_true hq.1, hq.2]; rfl
  · have hs : seekOf xs s = -1 := by
      refine seek_none xs s xs.length 0 fun j _ hj => ?_
      rcases Nat.lt_trichotomy j k with h3 | h3 | h3
      · exact ne_of_less (hlo j h3)
      · subst h3
        cases hc : ((textAt xs j).toList == s.toList) with
        | false => rfl
        | true => exact absurd ⟨by omega, hc⟩ hq
      · have h4 := row_less xs h k j h3 (by omega)
        rw [beq_eq_false_iff_ne]
        intro e
        rw [e] at h4
        have h5 := hhi k (Nat.le_refl _) (by omega)
        rw [h5] at h4; cases h4
    refine ⟨by unfold findI; rw [hs, if_neg (by omega), if_pos h, hu], ?_⟩
    unfold findB
    rw [hs, decide_eq_false (by omega)]
    symm
    rw [Bool.and_eq_false_iff]
    rcases Nat.lt_or_ge k xs.length with h3 | h3
    · exact Or.inr (by
        cases hc : ((textAt xs k).toList == s.toList) with
        | false => rfl
        | true => exact absurd ⟨h3, hc⟩ hq)
    · exact Or.inl (decide_eq_false (by omega))
end Go.Proofs.Yteccahggahpeeaa
