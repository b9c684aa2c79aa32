/- The program's remaining: how much is left of a loose sector. -/
import Derived.Test.YtocengdojdeiiaaKeys8
import Derived.Test.YtocengdojdeiiaaRef8e
namespace Go.Proofs.Ytocengdojdeiiaa
open Go.RowKit Go.Maps

/-- How many bytes of what was written are left in the loose sector of a number. -/
def restN (k : Nat) (keep : List Bool) (torn cut : Int) : Nat := if (k : Int) = torn then cutAt cut else if keep.getD k false = true then 64 else 0
theorem rest_le (k : Nat) (keep : List Bool) (torn cut : Int) : restN k keep torn cut ≤ 64 := by
  have := cut_le cut
  unfold restN; split; omega; split <;> omega
theorem rest_left (c : Sec) (k : Nat) (keep : List Bool) (torn cut : Int) (h : c.now.size = 64 ∧ c.safe.size = 64) : c.now.extract 0 (restN k keep torn cut) ++ c.safe.extract (restN k keep torn cut) 64 = leftOf c k keep torn cut := by
  unfold restN leftOf
  split
  · rw [h.2]
  · split
    · refine text_eq ?_
      simp only [ByteArray.data_append, Array.toList_append, cut_list]
      rw [List.drop_zero, List.take_of_length_le (by rw [text_size]; omega), Nat.sub_self, List.take_zero, List.append_nil]
    · refine text_eq ?_
      simp only [ByteArray.data_append, Array.toList_append, cut_list]
      rw [List.take_zero, List.nil_append, List.drop_zero, List.take_of_length_le (by rw [text_size]; omega)]

set_option maxHeartbeats 1000000 in
theorem prest_any (k : Nat) (ka : Option Addr) (kc : Nat) (ks : List Bool) (torn cut : Int) (w : World) (hK : Bools w.heap.size w ka ks) :
    Calls Try.prog 44 #[.agg #[.slice ka ks.length kc, .int .i64 torn, .int .i64 cut], .int .i64 k] w fun e w' => e = .returned (.int .i64 (restN k ks torn cut)) ∧ Below w.heap.size w w' := by
  have HB : Hid (∀ o : Obj, Below w.heap.size w (w.alloc o)) := Lib.hid fun o => (Below.refl _ w).alloc (Nat.le_refl _) o
  by_cases e : (k : Int) = torn
  · have e1 : ((k : Int) == torn) = true := beq_iff_eq.2 e
    have hr : restN k ks torn cut = cutAt cut := by unfold restN; rw [if_pos e]
    rw [hr]
    have HC : Hid ((min (max cut 0) 64) = (cutAt cut : Int)) := Lib.hid (by unfold cutAt; split; omega; split <;> omega)
    clear hr e hK
    go_enter Try.func44, Try.ntmps44
    go_wp2
    go_ret
    exact ⟨by rw [← HC.out]; rfl, HB.out _⟩
  · have e1 : ((k : Int) == torn) = false := beq_eq_false_iff_ne.2 e
    by_cases hlt : k < ks.length
    · have i1 : (k : Int) < (ks.length : Int) := by omega
      have i2 : decide ((k : Int) < (ks.length : Int)) = true := decide_eq_true i1
      rcases hK with hK | ⟨b, off, rfl, hb, hc⟩
      · rw [hK] at hlt; simp at hlt
      have hc2 : (w.alloc (.cells #[.slice (some ⟨b, off, none⟩) ks.length kc, .int .i64 torn, .int .i64 cut] 39)).cell? ⟨b, off + k, none⟩ = some (.bool (ks.getD k false)) := ((HB.out _).cell (p := ⟨b, off + k, none⟩) hb).trans (hc k hlt)
      have hr : restN k ks torn cut = if ks.getD k false = true then 64 else 0 := by unfold restN; rw [if_neg e]
      rw [hr]
      generalize ks.getD k false = v at *
      clear hr e hc
      cases v with
      | true =>
        rw [if_pos rfl]
        go_enter Try.func44, Try.ntmps44
        go_wp2
        go_ret
        exact ⟨rfl, HB.out _⟩
      | false =>
        rw [if_neg (by decide)]
        go_enter Try.func44, Try.ntmps44
        go_wp2
        go_ret
        exact ⟨rfl, HB.out _⟩
    · have i2 : decide ((k : Int) < (ks.length : Int)) = false := decide_eq_false (by omega)
      have hr : restN k ks torn cut = 0 := by
        unfold restN; rw [if_neg e, List.getD_eq_getElem?_getD, List.getElem?_eq_none (by omega)]; rfl
      rw [hr]
      clear hr e hK
      go_enter Try.func44, Try.ntmps44
      go_wp2
      go_ret
      exact ⟨rfl, HB.out _⟩
end Go.Proofs.Ytocengdojdeiiaa
