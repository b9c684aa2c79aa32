/- The program's count: the length of a text, or the number of a list's elements, at a place. -/
import Derived.Test.YtkflpkcggjpbfaaOget
namespace Go.Proofs.Ytkflpkcggjpbfaa
open Go.RowKit

/-- What count answers: the error, and, where there is none, the number. -/
def cntE (s : List UInt8) (p m : Int) : Int := if m < 0 then 2 else if getE s p 2 = 0 then (if m < getV s p 2 then 3 else 0) else getE s p 2
def cntV (s : List UInt8) (p m : Int) : Int := if cntE s p m = 0 then getV s p 2 else 0
def cntT (s : List UInt8) (p m : Int) : Int := if cntE s p m = 0 then p + 2 else 0
theorem get_none {s : List UInt8} {p x : Int} (h : getE s p x ≠ 0) : getV s p x = 0 ∧ getT s p x = 0 := by unfold getV getT; rw [if_neg h, if_neg h]; exact ⟨rfl, rfl⟩

/-- Behind a call: a block of two cells that was laid ahead of it, another one laid behind it. -/
theorem pair_two {w w1 : World} {T : TypeId} {x y : Value} (b1 : Below (w.alloc (.cells #[x, y] T)).heap.size (w.alloc (.cells #[x, y] T)) w1) (o : Obj) :
    (w1.alloc o).cell? ⟨w.heap.size, 0, none⟩ = some x ∧ (w1.alloc o).cell? ⟨w.heap.size, 1, none⟩ = some y ∧ (w1.alloc o).frozen? ⟨w.heap.size, 0, none⟩ = false ∧ (w1.alloc o).frozen? ⟨w.heap.size, 1, none⟩ = false ∧ Hid (Below w.heap.size w (w1.alloc o)) ∧ Hid ((w1.alloc o).heap[w.heap.size]? = some (.cells #[x, y] T (0, 0))) := by
  have hg : (w1.alloc o).heap[w.heap.size]? = some (.cells #[x, y] T (0, 0)) := by
    have h1 := old_obj b1 (heap_alloc_new w (.cells #[x, y] T))
    exact (Lib.alloc_old w1 o _ (obj_lt h1)).trans h1
  obtain ⟨c0, c1, f0, f1⟩ := two_cells hg
  have h0 : Below w.heap.size w (w.alloc (.cells #[x, y] T)) := (Below.refl _ w).alloc (Nat.le_refl _) _
  have h2 := h0.trans (b1.mono h0.size)
  exact ⟨c0, c1, f0, f1, Lib.hid (h2.alloc h2.size _), Lib.hid hg⟩

set_option maxHeartbeats 2000000 in
theorem ocount_any (s : ByteArray) (hs : s.size ≤ 4611686018427387904) (p m : Int) (hp0 : -9223372036854775808 ≤ p) (hp1 : p ≤ 9223372036854775807) (w : World) :
    Calls Try.prog 66 #[.string s, .int .i64 p, .int .i64 m] w fun e w' => e = .returned (.tuple #[.agg #[.int .i64 (cntV s.data.toList p m), .int .i64 (cntT s.data.toList p m)], .int .i64 (cntE s.data.toList p m)]) ∧ Below w.heap.size w w' := by
  have HG : Hid (∀ v, Calls Try.prog 57 #[.string s, .int .i64 p, .int .i64 2] v fun e w' => e = .returned (.tuple #[.agg #[.int .i64 (getV s.data.toList p 2), .int .i64 (getT s.data.toList p 2)], .int .i64 (getE s.data.toList p 2)]) ∧ Below v.heap.size v w') := Lib.hid fun v => oget_any s hs p 2 hp0 hp1 v
  by_cases hm : m < 0
  · have he : cntE s.data.toList p m = 2 := by unfold cntE; rw [if_pos hm]
    have hv : cntV s.data.toList p m = 0 := by unfold cntV; rw [if_neg (by omega)]
    have ht : cntT s.data.toList p m = 0 := by unfold cntT; rw [if_neg (by omega)]
    have hd : decide (m < 0) = true := decide_eq_true hm
    rw [he, hv, ht]
    clear he hv ht hm
    go_enter Try.func66, Try.ntmps66
    go_wp2
    refine bodyPost_ret (results_row_slot rfl _ _ w.heap.size _ rfl (pair_load (heap_alloc_new _ _))) rfl ?_
    exact ⟨rfl, (Below.refl _ w).alloc (Nat.le_refl _) _⟩
  · have hd : decide (m < 0) = false := decide_eq_false hm
    have HE : Hid (cntE s.data.toList p m = if getE s.data.toList p 2 = 0 then (if m < getV s.data.toList p 2 then 3 else 0) else getE s.data.toList p 2) := Lib.hid (by unfold cntE; rw [if_neg hm])
    have HN : Hid (getE s.data.toList p 2 ≠ 0 → getV s.data.toList p 2 = 0 ∧ getT s.data.toList p 2 = 0) := Lib.hid get_none
    have HT : Hid (getE s.data.toList p 2 = 0 → getT s.data.toList p 2 = p + 2) := Lib.hid fun h => by unfold getT; rw [if_pos h]
    have HV : Hid (cntV s.data.toList p m = if cntE s.data.toList p m = 0 then getV s.data.toList p 2 else 0) := Lib.hid rfl
    have HU : Hid (cntT s.data.toList p m = if cntE s.data.toList p m = 0 then p + 2 else 0) := Lib.hid rfl
    generalize cntV s.data.toList p m = cv at *
    generalize cntT s.data.toList p m = ct at *
    generalize cntE s.data.toList p m = ce at *
    generalize getV s.data.toList p 2 = V at *
    generalize getT s.data.toList p 2 = T at *
    generalize getE s.data.toList p 2 = E at *
    clear hm
    by_cases h0 : E = 0
    · have hde : (E == 0) = true := by rw [h0]; rfl
      by_cases hb : m < V
      · have hdb : decide (m < V) = true := decide_eq_true hb
        have e1 : ce = 3 := by have := HE.out; rw [if_pos h0, if_pos hb] at this; exact this
        have e2 : cv = 0 := by have := HV.out; rw [if_neg (by omega)] at this; exact this
        have e3 : ct = 0 := by have := HU.out; rw [if_neg (by omega)] at this; exact this
        rw [e1, e2, e3]
        subst h0
        clear HE HN HT HV HU e1 e2 e3 hb
        go_enter Try.func66, Try.ntmps66
        go_wp2_with (go_at_call 57; refine (HG.out _).mono ?_; rintro e w1 ⟨rfl, b1⟩; obtain ⟨c0, c1, f0, f1, hb1, hg1⟩ := pair_two b1 (.cells #[.int .i64 V, .int .i64 T] 98))
        refine bodyPost_ret (results_row_slot rfl _ _ w.heap.size _ rfl (pair_load (two_stored hg1.out _ _))) rfl ?_
        exact ⟨rfl, two_below hb1.out (Nat.le_refl _) _ _⟩
      · have hdb : decide (m < V) = false := decide_eq_false hb
        have e1 : ce = 0 := by have := HE.out; rw [if_pos h0, if_neg hb] at this; exact this
        have e2 : cv = V := by have := HV.out; rw [if_pos e1] at this; exact this
        have e3 : ct = T := by have := HU.out; rw [if_pos e1, ← HT.out h0] at this; exact this
        rw [e1, e2, e3]
        subst h0
        clear HE HN HT HV HU e1 e2 e3 hb
        go_enter Try.func66, Try.ntmps66
        go_wp2_with (go_at_call 57; refine (HG.out _).mono ?_; rintro e w1 ⟨rfl, b1⟩; obtain ⟨c0, c1, f0, f1, hb1, hg1⟩ := pair_two b1 (.cells #[.int .i64 V, .int .i64 T] 98))
        refine bodyPost_ret (results_row_slot rfl _ _ w.heap.size _ rfl (pair_load (two_stored hg1.out _ _))) rfl ?_
        exact ⟨rfl, two_below hb1.out (Nat.le_refl _) _ _⟩
    · have hde : (E == 0) = false := beq_eq_false_iff_ne.2 h0
      have e1 : ce = E := by have := HE.out; rw [if_neg h0] at this; exact this
      have e2 : cv = V := by have := HV.out; rw [if_neg (by omega)] at this; rw [this]; exact ((HN.out h0).1).symm
      have e3 : ct = T := by have := HU.out; rw [if_neg (by omega)] at this; rw [this]; exact ((HN.out h0).2).symm
      rw [e1, e2, e3]
      clear HE HN HT HV HU e1 e2 e3 h0
      go_enter Try.func66, Try.ntmps66
      go_wp2_with (go_at_call 57; refine (HG.out _).mono ?_; rintro e w1 ⟨rfl, b1⟩; obtain ⟨c0, c1, f0, f1, hb1, hg1⟩ := pair_two b1 (.cells #[.int .i64 V, .int .i64 T] 98))
      refine bodyPost_ret (results_row_slot rfl _ _ w.heap.size _ rfl (pair_load (two_stored hg1.out _ _))) rfl ?_
      exact ⟨rfl, two_below hb1.out (Nat.le_refl _) _ _⟩
end Go.Proofs.Ytkflpkcggjpbfaa
