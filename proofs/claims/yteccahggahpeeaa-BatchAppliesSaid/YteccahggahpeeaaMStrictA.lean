/- The program's reader: how it lies in memory, its fault, place and error, and errors told of. -/
import Derived.Test.YteccahggahpeeaaMOenc
import Derived.Test.YteccahggahpeeaaMTextRow
import Derived.Lib.BufferOwn
import Derived.BigQuiet
import Derived.StillTailTactics
import Derived.Deep.OwnRows
import Derived.RegionTactic
import Derived.BigRegion
import Derived.ChangeAlike
import Derived.Deep.RegionHeld3
import Derived.Deep.DrawnRows
import Derived.Deep.CutBlock
import Derived.Deep.DeepCutAuto
set_option linter.unusedVariables false
set_option maxRecDepth 100000
namespace Go.Proofs.Yteccahggahpeeaa
open Go.RowKit
/-- How a reader lies in memory (the implementation's own). -/
def rdCells (s : ByteArray) (p e : Int) : Array Value := #[.bool true, .string s, .int .i64 p, .int .i64 e]
def RdObj (s : ByteArray) (r : Rs) (o : Obj) : Prop := o = .cells #[.bool true, .string s, .int .i64 r.p, .int .i64 r.e] 131 (0, 0)
/-- A reader that no call made. -/
def noCells : Array Value := #[.bool false, .string ⟨#[]⟩, .int .i64 0, .int .i64 0]
def NoObj (o : Obj) : Prop := o = .cells noCells 131 (0, 0)
def Rd (w : World) (g : Nat) (s : ByteArray) (r : Rs) : Prop := ∃ o, w.heap[g]? = some o ∧ RdObj s r o
def No (w : World) (g : Nat) : Prop := ∃ o, w.heap[g]? = some o ∧ NoObj o
/-- The error that a reader tells. -/
def errV (r : Rs) : Value := if r.e = 0 then .nilIface else .iface 140 (.agg #[.int .i64 r.e, .int .i64 r.p])
theorem rd_heap {w : World} {g : Nat} {s : ByteArray} {r : Rs} (h : Rd w g s r) : w.heap[g]? = some (.cells #[.bool true, .string s, .int .i64 r.p, .int .i64 r.e] 131 (0, 0)) := by
  obtain ⟨o, h1, h2⟩ := h
  unfold RdObj at h2
  rw [h1, h2]
theorem no_heap {w : World} {g : Nat} (h : No w g) : w.heap[g]? = some (.cells noCells 131 (0, 0)) := by
  obtain ⟨o, h1, h2⟩ := h
  unfold NoObj at h2
  rw [h1, h2]
theorem four_cells {w : World} {g : Nat} {x y z u : Value} {t : TypeId} (h : w.heap[g]? = some (.cells #[x, y, z, u] t (0, 0))) :
    w.cell? ⟨g, 0, none⟩ = some x ∧ w.cell? ⟨g, 1, none⟩ = some y ∧ w.cell? ⟨g, 2, none⟩ = some z ∧ w.cell? ⟨g, 3, none⟩ = some u ∧ w.frozen? ⟨g, 2, none⟩ = false ∧ w.frozen? ⟨g, 3, none⟩ = false :=
  ⟨cell_of (j := 0) h rfl, cell_of (j := 1) h rfl, cell_of (j := 2) h rfl, cell_of (j := 3) h rfl, frozen_of_row w g 2 _ _ h, frozen_of_row w g 3 _ _ h⟩

theorem fault_any (s : ByteArray) (r : Rs) (g : Nat) (w : World) (h : Rd w g s r) :
    Calls Try.prog 75 #[.pointer (some ⟨g, 0, none⟩)] w fun e w' => e = .returned (.int .i64 r.e) ∧ w' = w := by
  obtain ⟨c0, c1, c2, c3, f2, f3⟩ := four_cells (rd_heap h)
  clear c1 c2 f2 f3
  go_enter Try.func75, Try.ntmps75
  go_wp2
  go_ret
  exact ⟨rfl, rfl⟩
theorem fault_no (g : Nat) (w : World) (h : No w g) :
    Calls Try.prog 75 #[.pointer (some ⟨g, 0, none⟩)] w fun e w' => e = .returned (.int .i64 1) ∧ w' = w := by
  obtain ⟨c0, c1, c2, c3, f2, f3⟩ := four_cells (no_heap h)
  clear c1 c2 f2 f3
  go_enter Try.func75, Try.ntmps75
  go_wp2
  go_ret
  exact ⟨rfl, rfl⟩
theorem fault_nil (w : World) :
    Calls Try.prog 75 #[.pointer none] w fun e w' => e = .returned (.int .i64 1) ∧ w' = w := by
  go_enter Try.func75, Try.ntmps75
  go_wp2
  go_ret
  exact ⟨rfl, rfl⟩
theorem sat_any (s : ByteArray) (r : Rs) (g : Nat) (w : World) (h : Rd w g s r) :
    Calls Try.prog 77 #[.pointer (some ⟨g, 0, none⟩)] w fun e w' => e = .returned (.int .i64 r.p) ∧ w' = w := by
  obtain ⟨c0, c1, c2, c3, f2, f3⟩ := four_cells (rd_heap h)
  go_enter Try.func77, Try.ntmps77
  go_wp2
  go_ret
  exact ⟨rfl, rfl⟩
theorem no_at (g : Nat) (w : World) (h : No w g) : Calls Try.prog 77 #[.pointer (some ⟨g, 0, none⟩)] w fun e w' => e = .returned (.int .i64 0) ∧ w' = w := by
  obtain ⟨c0, c1, c2, c3, f2, f3⟩ := four_cells (no_heap h)
  go_enter Try.func77, Try.ntmps77
  go_wp2
  go_ret
  exact ⟨rfl, rfl⟩
theorem nil_at (w : World) : Calls Try.prog 77 #[.pointer none] w fun e w' => e = .returned (.int .i64 0) ∧ w' = w := by
  go_enter Try.func77, Try.ntmps77
  go_wp2
  go_ret
  exact ⟨rfl, rfl⟩
theorem serr_same (s : ByteArray) (r : Rs) (g : Nat) (w : World) (h : Rd w g s r) :
    Calls Try.prog 53 #[.pointer (some ⟨g, 0, none⟩)] w fun e w' => e = .returned (errV r) ∧ w' = w := by
  have HF := Lib.hid (fault_any s r g w h)
  have HA := Lib.hid (sat_any s r g w h)
  by_cases he : r.e = 0
  · have hv : errV r = .nilIface := by unfold errV; rw [if_pos he]
    rw [he] at HF
    rw [hv]
    clear he hv h
    go_enter Try.func53, Try.ntmps53
    go_wp2_with (go_at_call 75; refine HF.out.mono ?_; rintro e w1 ⟨rfl, rfl⟩)
    go_ret
    exact ⟨rfl, rfl⟩
  · have hv : errV r = .iface 140 (.agg #[.int .i64 r.e, .int .i64 r.p]) := by unfold errV; rw [if_neg he]
    have hde : (r.e == 0) = false := beq_eq_false_iff_ne.2 he
    rw [hv]
    clear he hv h
    go_enter Try.func53, Try.ntmps53
    go_wp2_with (first | (go_at_call 75; refine HF.out.mono ?_; rintro e w1 ⟨rfl, rfl⟩) | (go_at_call 77; refine HA.out.mono ?_; rintro e w1 ⟨rfl, rfl⟩))
    go_ret
    exact ⟨rfl, rfl⟩
theorem serr_any (s : ByteArray) (r : Rs) (g : Nat) (w : World) (h : Rd w g s r) :
    Calls Try.prog 53 #[.pointer (some ⟨g, 0, none⟩)] w fun e w' => e = .returned (errV r) ∧ Below w.heap.size w w' :=
  (serr_same s r g w h).mono fun _ _ h => ⟨h.1, by rw [h.2]; exact Below.refl _ _⟩
theorem no_err (g : Nat) (w : World) (h : No w g) : Calls Try.prog 53 #[.pointer (some ⟨g, 0, none⟩)] w fun e w' => e = .returned (.iface 140 (.agg #[.int .i64 1, .int .i64 0])) ∧ Below w.heap.size w w' := by
  have HF := Lib.hid (fault_no g w h)
  have HA := Lib.hid (no_at g w h)
  clear h
  go_enter Try.func53, Try.ntmps53
  go_wp2_with (first | (go_at_call 75; refine HF.out.mono ?_; rintro e w1 ⟨rfl, rfl⟩) | (go_at_call 77; refine HA.out.mono ?_; rintro e w1 ⟨rfl, rfl⟩))
  go_ret
  exact ⟨rfl, Below.refl _ _⟩
theorem nil_err (w : World) : Calls Try.prog 53 #[.pointer none] w fun e w' => e = .returned (.iface 140 (.agg #[.int .i64 1, .int .i64 0])) ∧ Below w.heap.size w w' := by
  have HF := Lib.hid (fault_nil w)
  have HA := Lib.hid (nil_at w)
  go_enter Try.func53, Try.ntmps53
  go_wp2_with (first | (go_at_call 75; refine HF.out.mono ?_; rintro e w1 ⟨rfl, rfl⟩) | (go_at_call 77; refine HA.out.mono ?_; rintro e w1 ⟨rfl, rfl⟩))
  go_ret
  exact ⟨rfl, Below.refl _ _⟩

theorem drewN_grown (w : World) (n : Nat) (g : Option Nat) : w.grownBy (w.drewN n) g := Lib.grownBy_below (World.grownBy.refl _ _) (drawn_below (Below.refl _ w) n)
theorem send_any (s : ByteArray) (hs : s.size ≤ 4611686018427387904) (r : Rs) (g : Nat) (w : World) (h : Rd w g s r) :
    Calls Try.prog 51 #[.pointer (some ⟨g, 0, none⟩)] w fun e w' => e = .returned (.tuple #[]) ∧ Rd w' g s (endR s.data.toList r) ∧ w.grownBy w' (some g) := by
  have hz : s.data.toList.length = s.size := by simp
  have hh := rd_heap h
  obtain ⟨c0, c1, c2, c3, f2, f3⟩ := four_cells hh
  have HG : Hid (∀ (n : Nat) (v : Value), w.grownBy ((w.drewN n).setCell ⟨g, 3, none⟩ v) (some g)) := Lib.hid fun n v => Lib.grownBy_setB (drewN_grown w n _) 3 v
  have HW : Hid (∀ n : Nat, Rd ((w.drewN n).setCell ⟨g, 3, none⟩ (.int .i64 6)) g s ⟨r.p, 6⟩) := Lib.hid fun n => ⟨_, heap_setCell_same (w.drewN n) g 3 _ _ (.int .i64 6) hh, rfl⟩
  have HR : Hid (∀ n : Nat, Rd (w.drewN n) g s r) := Lib.hid fun n => ⟨_, hh, rfl⟩
  have HF := Lib.hid (fault_any s r g)
  clear h
  by_cases he : r.e = 0
  · rw [he] at HF
    by_cases hl : r.p < s.size
    · have hr : endR s.data.toList r = ⟨r.p, 6⟩ := by unfold endR; rw [if_pos ⟨he, by omega⟩]
      have hdl : decide (r.p < (s.size : Int)) = true := decide_eq_true hl
      rw [hr]
      clear he hl hr hh hz
      go_enter Try.func51, Try.ntmps51
      go_upto_region 0 with fail
      go_quiet ((go_at_call 75; exact Calls.quiet_of_same (HF.out _ (HR.out 0))))
      go_wp2
      go_end0
      exact ⟨rfl, HW.out _, HG.out _ _⟩
    · have hr : endR s.data.toList r = r := by unfold endR; rw [if_neg (by omega)]
      have hdl : decide (r.p < (s.size : Int)) = false := decide_eq_false hl
      rw [hr]
      clear he hl hr hh hz HG HW
      go_enter Try.func51, Try.ntmps51
      go_upto_region 0 with fail
      go_quiet ((go_at_call 75; exact Calls.quiet_of_same (HF.out _ (HR.out 0))))
      go_wp2
      go_end0
      exact ⟨rfl, HR.out _, drewN_grown _ _ _⟩
  · have hr : endR s.data.toList r = r := by unfold endR; rw [if_neg (by omega)]
    have hde : (r.e == 0) = false := beq_eq_false_iff_ne.2 he
    rw [hr]
    clear he hr hh hz HG HW
    go_enter Try.func51, Try.ntmps51
    go_upto_region 0 with fail
    go_quiet ((go_at_call 75; exact Calls.quiet_of_same (HF.out _ (HR.out 0))))
    go_wp2
    go_end0
    exact ⟨rfl, HR.out _, drewN_grown _ _ _⟩

/-! Errors told of. -/
theorem agg_load {w : World} {g : Nat} {t : TypeId} {x y : Value} {fr : Nat × Nat} (h : w.heap[g]? = some (.cells #[x, y] t fr)) : (loadVar 140 ⟨g, 0, none⟩).run Try.prog w = .ok (.agg #[x, y]) w :=
  run_loadVar_row (P := Try.prog) w g t 140 #[x, y] fr _ h Try.underlying140 rfl (by kernel_rfl)
theorem as_fault (x p : Int) (b : Bool) (W : World) : (Instr.typeAssert (.iface 140 (.agg #[.int .i64 x, .int .i64 p])) 92 140 b).run Try.prog W = .ok (if b then .tuple #[.agg #[.int .i64 x, .int .i64 p], .bool true] else .agg #[.int .i64 x, .int .i64 p]) W := by
  cases b <;> kernel_rfl
theorem as_errno (x : Int) (W : World) : (Instr.typeAssert (.iface 34 (.int .i64 x)) 92 140 true).run Try.prog W = .ok (.tuple #[.agg #[.int .i64 0, .int .i64 0], .bool false]) W := by kernel_rfl
theorem fin_fault (x p : Int) (w : World) : Calls Try.prog 76 #[.iface 140 (.agg #[.int .i64 x, .int .i64 p])] w fun e w' => e = .returned (.tuple #[.agg #[.int .i64 x, .int .i64 p], .bool true]) ∧ Below w.heap.size w w' := by
  have ha := as_fault x p true
  rw [if_pos rfl] at ha
  go_enter Try.func76, Try.ntmps76
  go_wp2
  refine bodyPost_ret (results_row_slot rfl _ _ w.heap.size _ rfl (agg_load (heap_alloc2_old _ _ _))) rfl ?_
  exact ⟨rfl, ((Below.refl _ w).alloc (Nat.le_refl _) _).alloc (by simp) _⟩
theorem fin_errno (x : Int) (w : World) : Calls Try.prog 76 #[.iface 34 (.int .i64 x)] w fun e w' => e = .returned (.tuple #[.agg #[.int .i64 0, .int .i64 0], .bool false]) ∧ Below w.heap.size w w' := by
  have ha := as_errno x
  go_enter Try.func76, Try.ntmps76
  go_wp2
  refine bodyPost_ret (results_row_slot rfl _ _ w.heap.size _ rfl (agg_load (heap_alloc2_old _ _ _))) rfl ?_
  exact ⟨rfl, ((Below.refl _ w).alloc (Nat.le_refl _) _).alloc (by simp) _⟩
theorem swhy_nil (w : World) : Calls Try.prog 52 #[.nilIface] w fun e w' => e = .returned (.tuple #[.int .i64 0, .int .i64 0]) ∧ Below w.heap.size w w' := by
  go_enter Try.func52, Try.ntmps52
  go_wp2
  go_ret2
  exact ⟨rfl, Below.refl _ _⟩
theorem swhy_fault (x p : Int) (w : World) : Calls Try.prog 52 #[.iface 140 (.agg #[.int .i64 x, .int .i64 p])] w fun e w' => e = .returned (.tuple #[.int .i64 x, .int .i64 p]) ∧ Below w.heap.size w w' := by
  go_enter Try.func52, Try.ntmps52
  go_wp2_with (go_at_call 76; refine (fin_fault x p _).mono ?_; rintro e w1 ⟨rfl, b1⟩)
  have HB := Lib.hid (b1.alloc b1.size (.cells #[.int .i64 x, .int .i64 p] 140))
  have hg := heap_alloc_new w1 (.cells #[.int .i64 x, .int .i64 p] 140)
  obtain ⟨c0, c1, _, _⟩ := two_cells hg
  obtain ⟨W, hW⟩ : ∃ W, W = w1.alloc (.cells #[.int .i64 x, .int .i64 p] 140) := ⟨_, rfl⟩
  rw [← hW] at c0 c1 HB ⊢
  clear hW hg b1
  go_quiet (fail)
  go_wp2
  go_ret2
  exact ⟨rfl, drawn_below HB.out _⟩
theorem swhy_errno (x : Int) (w : World) : Calls Try.prog 52 #[.iface 34 (.int .i64 x)] w fun e w' => e = .returned (.tuple #[.int .i64 2, .int .i64 0]) ∧ Below w.heap.size w w' := by
  go_enter Try.func52, Try.ntmps52
  go_wp2_with (go_at_call 76; refine (fin_errno x _).mono ?_; rintro e w1 ⟨rfl, b1⟩)
  go_ret2
  exact ⟨rfl, b1.alloc b1.size _⟩
end Go.Proofs.Yteccahggahpeeaa
set_option linter.unusedVariables false
set_option maxRecDepth 100000
namespace Go.Proofs.Yteccahggahpeeaa
open Go.RowKit

/-- Behind a call: two blocks of two cells that were laid ahead of it, another one laid behind it. -/
theorem both_two {w w1 : World} {T U : TypeId} {x y z u : Value} (b1 : Below ((w.alloc (.cells #[x, y] T)).alloc (.cells #[z, u] U)).heap.size ((w.alloc (.cells #[x, y] T)).alloc (.cells #[z, u] U)) w1) (o : Obj) :
    (w1.alloc o).cell? ⟨w.heap.size, 0, none⟩ = some x ∧ (w1.alloc o).cell? ⟨w.heap.size, 1, none⟩ = some y ∧ (w1.alloc o).cell? ⟨w.heap.size + 1, 0, none⟩ = some z ∧ (w1.alloc o).cell? ⟨w.heap.size + 1, 1, none⟩ = some u ∧ (w1.alloc o).frozen? ⟨w.heap.size + 1, 0, none⟩ = false ∧ (w1.alloc o).frozen? ⟨w.heap.size + 1, 1, none⟩ = false ∧ Hid (Below w.heap.size w (w1.alloc o)) ∧ Hid ((w1.alloc o).heap[w.heap.size + 1]? = some (.cells #[z, u] U (0, 0))) := by
  obtain ⟨hb, h1, h0⟩ := below_two b1
  have g0 : (w1.alloc o).heap[w.heap.size]? = some (.cells #[x, y] T (0, 0)) := (Lib.alloc_old w1 o _ (obj_lt h0)).trans h0
  have g1 : (w1.alloc o).heap[w.heap.size + 1]? = some (.cells #[z, u] U (0, 0)) := (Lib.alloc_old w1 o _ (obj_lt h1)).trans h1
  obtain ⟨c0, c1, _, _⟩ := two_cells g0
  obtain ⟨c2, c3, f2, f3⟩ := two_cells g1
  exact ⟨c0, c1, c2, c3, f2, f3, Lib.hid (hb.alloc hb.size _), Lib.hid g1⟩
theorem both_same {w w1 : World} {T U : TypeId} {x y z u : Value} (b1 : Below ((w.alloc (.cells #[x, y] T)).alloc (.cells #[z, u] U)).heap.size ((w.alloc (.cells #[x, y] T)).alloc (.cells #[z, u] U)) w1) :
    w1.cell? ⟨w.heap.size + 1, 0, none⟩ = some z ∧ w1.cell? ⟨w.heap.size + 1, 1, none⟩ = some u ∧ w1.frozen? ⟨w.heap.size + 1, 0, none⟩ = false ∧ w1.frozen? ⟨w.heap.size + 1, 1, none⟩ = false ∧ Hid (Below w.heap.size w w1) ∧ Hid (w1.heap[w.heap.size + 1]? = some (.cells #[z, u] U (0, 0))) := by
  obtain ⟨hb, h1, h0⟩ := below_two b1
  obtain ⟨c2, c3, f2, f3⟩ := two_cells h1
  exact ⟨c2, c3, f2, f3, Lib.hid hb, Lib.hid h1⟩

/-! A number: the bytes' own error, or more than there may be. -/
def numDV (S : List UInt8) (p x m : Int) : Int := if numE S p x m = 0 then getV S p x else 0
def numDT (S : List UInt8) (p x m : Int) : Int := if numE S p x m = 0 then getT S p x else 0
set_option maxHeartbeats 2000000 in
theorem dnum_any (s : ByteArray) (hs : s.size ≤ 4611686018427387904) (p x m : Int) (hp0 : -9223372036854775808 ≤ p) (hp1 : p ≤ 9223372036854775807) (w : World) :
    Calls Try.prog 72 #[.agg #[.int .i64 x, .int .i64 m], .string s, .int .i64 p] w fun e w' => e = .returned (.tuple #[.agg #[.int .i64 (numDV s.data.toList p x m), .int .i64 (numDT s.data.toList p x m)], .int .i64 (numE s.data.toList p x m)]) ∧ Below w.heap.size w w' := by
  have HG : Hid (∀ v, Calls Try.prog 94 #[.string s, .int .i64 p, .int .i64 x] v fun e w' => e = .returned (.tuple #[.agg #[.int .i64 (getV s.data.toList p x), .int .i64 (getT s.data.toList p x)], .int .i64 (getE s.data.toList p x)]) ∧ Below v.heap.size v w') := Lib.hid fun v => oget_any s hs p x hp0 hp1 v
  have HE : Hid (numE s.data.toList p x m = if getE s.data.toList p x = 0 then (if m < getV s.data.toList p x then 3 else 0) else getE s.data.toList p x) := Lib.hid rfl
  have HN : Hid (getE s.data.toList p x ≠ 0 → getV s.data.toList p x = 0 ∧ getT s.data.toList p x = 0) := Lib.hid get_none
  have HV : Hid (numDV s.data.toList p x m = if numE s.data.toList p x m = 0 then getV s.data.toList p x else 0) := Lib.hid rfl
  have HU : Hid (numDT s.data.toList p x m = if numE s.data.toList p x m = 0 then getT s.data.toList p x else 0) := Lib.hid rfl
  generalize numDV s.data.toList p x m = cv at *
  generalize numDT s.data.toList p x m = ct at *
  generalize numE s.data.toList p x m = ce at *
  generalize getV s.data.toList p x = V at *
  generalize getT s.data.toList p x = T at *
  generalize getE s.data.toList p x = E at *
  by_cases h0 : E = 0
  · by_cases hb : m < V
    · have hdb : decide (m < V) = true := decide_eq_true hb
      have e1 : ce = 3 := by have := HE.out; rw [if_pos h0, if_pos hb] at this; exact this
      have e2 : cv = 0 := by have := HV.out; rw [if_neg (by omega)] at this; exact this
      have e3 : ct = 0 := by have := HU.out; rw [if_neg (by omega)] at this; exact this
      rw [e1, e2, e3]
      subst h0
      clear HE HN HV HU e1 e2 e3 hb
      go_enter Try.func72, Try.ntmps72
      go_wp2_with (go_at_call 94; refine (HG.out _).mono ?_; rintro e w1 ⟨rfl, b1⟩; obtain ⟨c0, c1, c2, c3, f0, f1, hb1, hg1⟩ := both_two b1 (.cells #[.int .i64 V, .int .i64 T] 161))
      refine bodyPost_ret (results_row_slot rfl _ _ (w.heap.size + 1) _ rfl (pair_load (two_stored hg1.out _ _))) rfl ?_
      exact ⟨rfl, two_below hb1.out (by omega) _ _⟩
    · have hdb : decide (m < V) = false := decide_eq_false hb
      have e1 : ce = 0 := by have := HE.out; rw [if_pos h0, if_neg hb] at this; exact this
      have e2 : cv = V := by have := HV.out; rw [if_pos e1] at this; exact this
      have e3 : ct = T := by have := HU.out; rw [if_pos e1] at this; exact this
      rw [e1, e2, e3]
      subst h0
      clear HE HN HV HU e1 e2 e3 hb
      go_enter Try.func72, Try.ntmps72
      go_wp2_with (go_at_call 94; refine (HG.out _).mono ?_; rintro e w1 ⟨rfl, b1⟩; obtain ⟨c0, c1, c2, c3, f0, f1, hb1, hg1⟩ := both_two b1 (.cells #[.int .i64 V, .int .i64 T] 161))
      refine bodyPost_ret (results_row_slot rfl _ _ (w.heap.size + 1) _ rfl (pair_load (two_stored hg1.out _ _))) rfl ?_
      exact ⟨rfl, two_below hb1.out (by omega) _ _⟩
  · have hde : (E == 0) = false := beq_eq_false_iff_ne.2 h0
    have e1 : ce = E := by have := HE.out; rw [if_neg h0] at this; exact this
    have e2 : cv = V := by have := HV.out; rw [if_neg (by omega)] at this; rw [this]; exact ((HN.out h0).1).symm
    have e3 : ct = T := by have := HU.out; rw [if_neg (by omega)] at this; rw [this]; exact ((HN.out h0).2).symm
    rw [e1, e2, e3]
    clear HE HN HV HU e1 e2 e3 h0
    go_enter Try.func72, Try.ntmps72
    go_wp2_with (go_at_call 94; refine (HG.out _).mono ?_; rintro e w1 ⟨rfl, b1⟩; obtain ⟨c0, c1, c2, c3, f0, f1, hb1, hg1⟩ := both_two b1 (.cells #[.int .i64 V, .int .i64 T] 161))
    refine bodyPost_ret (results_row_slot rfl _ _ (w.heap.size + 1) _ rfl (pair_load (two_stored hg1.out _ _))) rfl ?_
    exact ⟨rfl, two_below hb1.out (by omega) _ _⟩

/-! A text. -/
theorem dtext_any (s : ByteArray) (hs : s.size ≤ 4611686018427387904) (p x m : Int) (hp0 : -9223372036854775808 ≤ p) (hp1 : p ≤ 9223372036854775807) (w : World) :
    Calls Try.prog 74 #[.agg #[.int .i64 x, .int .i64 m], .string s, .int .i64 p] w fun e w' => ∃ t : ByteArray, e = .returned (.tuple #[.agg #[.string t, .int .i64 (takeT s.data.toList p m)], .int .i64 (takeE s.data.toList p m)]) ∧ Hid (t.data.toList = takeL s.data.toList p m) ∧ Below w.heap.size w w' := by
  have HG : Hid (∀ v, Calls Try.prog 95 #[.string s, .int .i64 p, .int .i64 m] v fun e w' => ∃ t : ByteArray, e = .returned (.tuple #[.agg #[.string t, .int .i64 (takeT s.data.toList p m)], .int .i64 (takeE s.data.toList p m)]) ∧ Hid (t.data.toList = takeL s.data.toList p m) ∧ Below v.heap.size v w') := Lib.hid fun v => otake_any s hs p m hp0 hp1 v
  generalize takeT s.data.toList p m = T at *
  generalize takeE s.data.toList p m = E at *
  go_enter Try.func74, Try.ntmps74
  go_wp2_with (go_at_call 95; refine (HG.out _).mono ?_; rintro e w1 ⟨t, rfl, ht, b1⟩; obtain ⟨c2, c3, f0, f1, hb1, hg1⟩ := both_same b1)
  refine bodyPost_ret (results_row_slot rfl _ _ (w.heap.size + 1) _ rfl (pairs_load (two_stored hg1.out _ _))) rfl ?_
  exact ⟨t, rfl, ht, two_below hb1.out (by omega) _ _⟩

/-! A row. -/
/-! A serial: a text of at most sixteen bytes that is one. -/
def serDL (S : List UInt8) (p : Int) : List UInt8 := if takeE S p 16 = 0 then takeL S p 16 else []
def serDT (S : List UInt8) (p : Int) : Int := if takeE S p 16 = 0 then takeT S p 16 else 0
/-! A bool. -/
def flagDB (S : List UInt8) (p : Int) : Bool := if flagE S p = 0 then decide (getV S p 1 = 1) else false
def flagDT (S : List UInt8) (p : Int) : Int := if flagE S p = 0 then getT S p 1 else 0
end Go.Proofs.Yteccahggahpeeaa
set_option linter.unusedVariables false
set_option maxRecDepth 100000
namespace Go.Proofs.Yteccahggahpeeaa
open Go.RowKit
attribute [local go_sem ↓] Go.wp_at_zero Go.wp_at_succ

/-- Behind the decoder: what it told lies in a block of its own, the reader as it was. -/
def Decoded (w : World) (g K : Nat) (s : ByteArray) (r : Rs) (T : TypeId) (a b : Value) (v : World) : Prop :=
  v.heap[K]? = some (.cells #[a, b] T (0, 0)) ∧ v.heap[g]? = some (.cells #[.bool true, .string s, .int .i64 r.p, .int .i64 r.e] 131 (0, 0)) ∧ Below w.heap.size w v ∧ K ≠ g ∧ w.heap.size ≤ K
/-- The block laid behind the call. -/
theorem dec_late {w v1 : World} {g : Nat} {s : ByteArray} {r : Rs} {T : TypeId} {a b : Value} (h : w.heap[g]? = some (.cells #[.bool true, .string s, .int .i64 r.p, .int .i64 r.e] 131 (0, 0))) (b1 : Below w.heap.size w v1) : Decoded w g v1.heap.size s r T a b (v1.alloc (.cells #[a, b] T)) := by
  have hb := b1.alloc b1.size (.cells #[a, b] T)
  exact ⟨heap_alloc_new _ _, old_obj hb h, hb, by have := obj_lt h; have := b1.size; omega, b1.size⟩
/-- The block laid ahead of the call. -/
theorem dec_early {w v1 : World} {g : Nat} {s : ByteArray} {r : Rs} {T : TypeId} {z y a b : Value} (h : w.heap[g]? = some (.cells #[.bool true, .string s, .int .i64 r.p, .int .i64 r.e] 131 (0, 0))) (b1 : Below (w.alloc (.cells #[z, y] T)).drew.heap.size (w.alloc (.cells #[z, y] T)).drew v1) : Decoded w g w.heap.size s r T a b ((v1.setCell ⟨w.heap.size, 0, none⟩ a).setCell ⟨w.heap.size, 1, none⟩ b) := by
  have h0 : Below w.heap.size w (w.alloc (.cells #[z, y] T)).drew := ((Below.refl _ w).alloc (Nat.le_refl _) _).drew
  have hb := h0.trans (b1.mono h0.size)
  have hz : v1.heap[w.heap.size]? = some (.cells #[z, y] T (0, 0)) := old_obj b1 (heap_alloc_new _ _)
  have hb2 := two_below hb (Nat.le_refl _) a b
  exact ⟨two_stored hz a b, old_obj hb2 h, hb2, by have := obj_lt h; omega, Nat.le_refl _⟩
theorem Decoded.err {w v : World} {g K : Nat} {s : ByteArray} {r : Rs} {T : TypeId} {a b : Value} (h : Decoded w g K s r T a b v) (x : Int) : Rd (v.setCell ⟨g, 3, none⟩ (.int .i64 x)) g s ⟨r.p, x⟩ ∧ w.grownBy (v.setCell ⟨g, 3, none⟩ (.int .i64 x)) (some g) :=
  ⟨⟨_, heap_setCell_same _ g 3 _ _ (.int .i64 x) h.2.1, rfl⟩, Lib.grownBy_setB (Lib.grownBy_below (World.grownBy.refl _ _) h.2.2.1) 3 _⟩
theorem Decoded.put {w v : World} {g K : Nat} {s : ByteArray} {r : Rs} {T : TypeId} {a b : Value} (h : Decoded w g K s r T a b v) (x : Int) : Rd (v.setCell ⟨g, 2, none⟩ (.int .i64 x)) g s ⟨x, r.e⟩ ∧ w.grownBy (v.setCell ⟨g, 2, none⟩ (.int .i64 x)) (some g) :=
  ⟨⟨_, heap_setCell_same _ g 2 _ _ (.int .i64 x) h.2.1, rfl⟩, Lib.grownBy_setB (Lib.grownBy_below (World.grownBy.refl _ _) h.2.2.1) 2 _⟩

set_option maxHeartbeats 4000000 in
theorem read_int (s : ByteArray) (r : Rs) (g : Nat) (x m a b : Int) (t E : Int) (q : Rs) (w : World) (h : Rd w g s r) (HV : Hid (b = if r.e = 0 then (if E = 0 then a else 0) else 0)) (HQ : Hid (q = if r.e = 0 then stp r t E else r))
    (HD : Hid (∀ v, Calls Try.prog 72 #[.agg #[.int .i64 x, .int .i64 m], .string s, .int .i64 r.p] v fun e w' => e = .returned (.tuple #[.agg #[.int .i64 a, .int .i64 t], .int .i64 E]) ∧ Below v.heap.size v w')) :
    Calls Try.prog 71 #[.pointer (some ⟨g, 0, none⟩), .func (.func 72) #[.agg #[.int .i64 x, .int .i64 m]] #[]] w fun e w' => e = .returned (.int .i64 b) ∧ Rd w' g s q ∧ w.grownBy w' (some g) := by
  have hh := rd_heap h
  have HF : Hid (∀ v, Rd v g s r → Calls Try.prog 75 #[.pointer (some ⟨g, 0, none⟩)] v fun e w' => e = .returned (.int .i64 r.e) ∧ v = w') := Lib.hid fun v h => (fault_any s r g v h).mono fun _ _ h => ⟨h.1, h.2.symm⟩
  have HR := Lib.hid h
  have n1 : ¬ (g = w.heap.size) := by have := obj_lt hh; omega
  have n2 : ¬ (w.heap.size = g) := by omega
  have HH := Lib.hid hh
  have HZ : Hid ((w.alloc (.cells #[.int .i64 0, .int .i64 0] 161)).drew.heap[g]? = some (.cells #[.bool true, .string s, .int .i64 r.p, .int .i64 r.e] 131 (0, 0))) := Lib.hid (old_obj ((Below.refl _ w).alloc (Nat.le_refl _) _).drew hh)
  obtain ⟨c0, c1, c2, c3, f2, f3⟩ := four_cells hh
  clear h hh
  by_cases h0 : r.e = 0
  · rw [h0] at HF
    by_cases hE : E = 0
    · have e2 : q = ⟨t, r.e⟩ := by rw [HQ.out, if_pos h0]; unfold stp; rw [if_pos hE]
      have e1 := show b = a by rw [HV.out, if_pos h0, if_pos hE]
      rw [e1, e2]
      subst hE
      clear HQ e1 e2 HV h0
      go_enter Try.func71, Try.ntmps71
      go_wp2_with (go_at_call 75; refine (HF.out _ HR.out).mono ?_; rintro e w1 ⟨rfl, rfl⟩)
      go_upto_region 4 with fail
      go_cut [6, 7] (fun s6 s7 wx => s7 = .int .i64 0 ∧ ∃ (K : Nat), s6 = .pointer (some ⟨K, 0, none⟩) ∧ Hid (Decoded w g K s r 161 (.int .i64 a) (.int .i64 t) wx))
      case first =>
        go_region_held3 (fun v => v.cell? ⟨g, 1, none⟩ = some (.string s) ∧ v.cell? ⟨g, 2, none⟩ = some (.int .i64 r.p)) (first | go_keep)
          (first
            | (go_at_call 72; refine (HD.out w.drew).mono ?_; rintro e w1 ⟨rfl, b1⟩; have hv := old_obj b1 (show w.drew.heap[g]? = _ from HH.out); obtain ⟨c0, c1, c2, c3, f2, f3⟩ := four_cells hv; have HB1 := Lib.hid ((Below.refl _ w).drew.trans b1); clear hv b1)
            | (go_at_call 72; refine (HD.out (w.alloc (.cells #[.int .i64 0, .int .i64 0] 161)).drew).mono ?_; rintro e w1 ⟨rfl, b1⟩; have hv := old_obj b1 (HZ.out); have hz := old_obj b1 (show (w.alloc (.cells #[.int .i64 0, .int .i64 0] 161)).drew.heap[w.heap.size]? = _ from heap_alloc_new _ _); obtain ⟨c0, c1, c2, c3, f2, f3⟩ := four_cells hv; obtain ⟨z0, z1, y0, y1⟩ := two_cells hz; have HB1 := Lib.hid b1; clear hv hz b1))
        · go_wp2_with fail
          go_meet
          exact ⟨rfl, w1.heap.size, rfl, Lib.hid (dec_late HH.out HB1.out)⟩
        · go_wp2_with fail
          go_meet
          exact ⟨rfl, w.heap.size, rfl, Lib.hid (dec_early HH.out HB1.out)⟩
      case rest =>
        obtain ⟨rfl, K, rfl, HD1⟩ := hcut
        obtain ⟨z0, z1, _, _⟩ := two_cells HD1.out.1
        obtain ⟨c0, c1, c2, c3, f2, f3⟩ := four_cells HD1.out.2.1
        have m1 := HD1.out.2.2.2.1
        clear HD
        
        go_wp2
        go_ret
        exact ⟨rfl, (HD1.out.put t).1, (HD1.out.put t).2⟩

    · have hde : (E == 0) = false := beq_eq_false_iff_ne.2 hE
      have e2 : q = ⟨r.p, E⟩ := by rw [HQ.out, if_pos h0]; unfold stp; rw [if_neg hE]
      have e1 := show b = 0 by rw [HV.out, if_pos h0, if_neg hE]
      rw [e1, e2]
      clear HQ e1 e2 HV h0 hE
      go_enter Try.func71, Try.ntmps71
      go_wp2_with (go_at_call 75; refine (HF.out _ HR.out).mono ?_; rintro e w1 ⟨rfl, rfl⟩)
      go_upto_region 4 with fail
      go_cut [6, 7] (fun s6 s7 wx => s7 = .int .i64 E ∧ ∃ (K : Nat), s6 = .pointer (some ⟨K, 0, none⟩) ∧ Hid (Decoded w g K s r 161 (.int .i64 a) (.int .i64 t) wx))
      case first =>
        go_region_held3 (fun v => v.cell? ⟨g, 1, none⟩ = some (.string s) ∧ v.cell? ⟨g, 2, none⟩ = some (.int .i64 r.p)) (first | go_keep)
          (first
            | (go_at_call 72; refine (HD.out w.drew).mono ?_; rintro e w1 ⟨rfl, b1⟩; have hv := old_obj b1 (show w.drew.heap[g]? = _ from HH.out); obtain ⟨c0, c1, c2, c3, f2, f3⟩ := four_cells hv; have HB1 := Lib.hid ((Below.refl _ w).drew.trans b1); clear hv b1)
            | (go_at_call 72; refine (HD.out (w.alloc (.cells #[.int .i64 0, .int .i64 0] 161)).drew).mono ?_; rintro e w1 ⟨rfl, b1⟩; have hv := old_obj b1 (HZ.out); have hz := old_obj b1 (show (w.alloc (.cells #[.int .i64 0, .int .i64 0] 161)).drew.heap[w.heap.size]? = _ from heap_alloc_new _ _); obtain ⟨c0, c1, c2, c3, f2, f3⟩ := four_cells hv; obtain ⟨z0, z1, y0, y1⟩ := two_cells hz; have HB1 := Lib.hid b1; clear hv hz b1))
        · go_wp2_with fail
          go_meet
          exact ⟨rfl, w1.heap.size, rfl, Lib.hid (dec_late HH.out HB1.out)⟩
        · go_wp2_with fail
          go_meet
          exact ⟨rfl, w.heap.size, rfl, Lib.hid (dec_early HH.out HB1.out)⟩
      case rest =>
        obtain ⟨rfl, K, rfl, HD1⟩ := hcut
        obtain ⟨z0, z1, _, _⟩ := two_cells HD1.out.1
        obtain ⟨c0, c1, c2, c3, f2, f3⟩ := four_cells HD1.out.2.1
        have m1 := HD1.out.2.2.2.1
        clear HD
        skip
        go_wp2
        go_ret
        exact ⟨rfl, (HD1.out.err E).1, (HD1.out.err E).2⟩

  · have hde : (r.e == 0) = false := beq_eq_false_iff_ne.2 h0
    have e2 : q = r := by rw [HQ.out, if_neg h0]
    have e1 := show b = 0 by rw [HV.out, if_neg h0]
    rw [e1, e2]
    clear HD HQ e1 e2 HV h0
    go_enter Try.func71, Try.ntmps71
    go_wp2_with (go_at_call 75; refine (HF.out _ HR.out).mono ?_; rintro e w1 ⟨rfl, rfl⟩)
    go_ret
    exact ⟨rfl, HR.out, World.grownBy.refl _ _⟩

set_option maxHeartbeats 4000000 in
theorem read_text (s : ByteArray) (r : Rs) (g : Nat) (m : Int) (a b : ByteArray) (t E : Int) (q : Rs) (w : World) (h : Rd w g s r) (HV : Hid (b = if r.e = 0 then (if E = 0 then a else ⟨#[]⟩) else ⟨#[]⟩)) (HQ : Hid (q = if r.e = 0 then stp r t E else r))
    (HD : Hid (∀ v, Calls Try.prog 74 #[.agg #[.int .i64 0, .int .i64 m], .string s, .int .i64 r.p] v fun e w' => ∃ u : ByteArray, e = .returned (.tuple #[.agg #[.string u, .int .i64 t], .int .i64 E]) ∧ Hid (E = 0 → u = a) ∧ Below v.heap.size v w')) :
    Calls Try.prog 73 #[.pointer (some ⟨g, 0, none⟩), .func (.func 74) #[.agg #[.int .i64 0, .int .i64 m]] #[]] w fun e w' => e = .returned (.string b) ∧ Rd w' g s q ∧ w.grownBy w' (some g) := by
  have hh := rd_heap h
  have HF : Hid (∀ v, Rd v g s r → Calls Try.prog 75 #[.pointer (some ⟨g, 0, none⟩)] v fun e w' => e = .returned (.int .i64 r.e) ∧ v = w') := Lib.hid fun v h => (fault_any s r g v h).mono fun _ _ h => ⟨h.1, h.2.symm⟩
  have HR := Lib.hid h
  have n1 : ¬ (g = w.heap.size) := by have := obj_lt hh; omega
  have n2 : ¬ (w.heap.size = g) := by omega
  have HH := Lib.hid hh
  have HZ : Hid ((w.alloc (.cells #[.string ⟨#[]⟩, .int .i64 0] 165)).drew.heap[g]? = some (.cells #[.bool true, .string s, .int .i64 r.p, .int .i64 r.e] 131 (0, 0))) := Lib.hid (old_obj ((Below.refl _ w).alloc (Nat.le_refl _) _).drew hh)
  obtain ⟨c0, c1, c2, c3, f2, f3⟩ := four_cells hh
  clear h hh
  by_cases h0 : r.e = 0
  · rw [h0] at HF
    by_cases hE : E = 0
    · have e2 : q = ⟨t, r.e⟩ := by rw [HQ.out, if_pos h0]; unfold stp; rw [if_pos hE]
      have e1 := show b = a by rw [HV.out, if_pos h0, if_pos hE]
      rw [e1, e2]
      subst hE
      clear HQ e1 e2 HV h0
      go_enter Try.func73, Try.ntmps73
      go_wp2_with (go_at_call 75; refine (HF.out _ HR.out).mono ?_; rintro e w1 ⟨rfl, rfl⟩)
      go_upto_region 4 with fail
      go_cut [6, 7] (fun s6 s7 wx => s7 = .int .i64 0 ∧ ∃ (K : Nat) (u : ByteArray), s6 = .pointer (some ⟨K, 0, none⟩) ∧ Hid ((0 : Int) = 0 → u = a) ∧ Hid (Decoded w g K s r 165 (.string u) (.int .i64 t) wx))
      case first =>
        go_region_held3 (fun v => v.cell? ⟨g, 1, none⟩ = some (.string s) ∧ v.cell? ⟨g, 2, none⟩ = some (.int .i64 r.p)) (first | go_keep)
          (first
            | (go_at_call 74; refine (HD.out w.drew).mono ?_; rintro e w1 ⟨u, rfl, hu, b1⟩; have hv := old_obj b1 (show w.drew.heap[g]? = _ from HH.out); obtain ⟨c0, c1, c2, c3, f2, f3⟩ := four_cells hv; have HB1 := Lib.hid ((Below.refl _ w).drew.trans b1); clear hv b1)
            | (go_at_call 74; refine (HD.out (w.alloc (.cells #[.string ⟨#[]⟩, .int .i64 0] 165)).drew).mono ?_; rintro e w1 ⟨u, rfl, hu, b1⟩; have hv := old_obj b1 (HZ.out); have hz := old_obj b1 (show (w.alloc (.cells #[.string ⟨#[]⟩, .int .i64 0] 165)).drew.heap[w.heap.size]? = _ from heap_alloc_new _ _); obtain ⟨c0, c1, c2, c3, f2, f3⟩ := four_cells hv; obtain ⟨z0, z1, y0, y1⟩ := two_cells hz; have HB1 := Lib.hid b1; clear hv hz b1))
        · go_wp2_with fail
          go_meet
          exact ⟨rfl, w1.heap.size, u, rfl, hu, Lib.hid (dec_late HH.out HB1.out)⟩
        · go_wp2_with fail
          go_meet
          exact ⟨rfl, w.heap.size, u, rfl, hu, Lib.hid (dec_early HH.out HB1.out)⟩
      case rest =>
        obtain ⟨rfl, K, u, rfl, hu, HD1⟩ := hcut
        obtain ⟨z0, z1, _, _⟩ := two_cells HD1.out.1
        obtain ⟨c0, c1, c2, c3, f2, f3⟩ := four_cells HD1.out.2.1
        have m1 := HD1.out.2.2.2.1
        clear HD
        obtain rfl := hu.out rfl
        go_wp2
        go_ret
        exact ⟨rfl, (HD1.out.put t).1, (HD1.out.put t).2⟩

    · have hde : (E == 0) = false := beq_eq_false_iff_ne.2 hE
      have e2 : q = ⟨r.p, E⟩ := by rw [HQ.out, if_pos h0]; unfold stp; rw [if_neg hE]
      have e1 := show b = ⟨#[]⟩ by rw [HV.out, if_pos h0, if_neg hE]
      rw [e1, e2]
      clear HQ e1 e2 HV h0 hE
      go_enter Try.func73, Try.ntmps73
      go_wp2_with (go_at_call 75; refine (HF.out _ HR.out).mono ?_; rintro e w1 ⟨rfl, rfl⟩)
      go_upto_region 4 with fail
      go_cut [6, 7] (fun s6 s7 wx => s7 = .int .i64 E ∧ ∃ (K : Nat) (u : ByteArray), s6 = .pointer (some ⟨K, 0, none⟩) ∧ Hid ((E : Int) = 0 → u = a) ∧ Hid (Decoded w g K s r 165 (.string u) (.int .i64 t) wx))
      case first =>
        go_region_held3 (fun v => v.cell? ⟨g, 1, none⟩ = some (.string s) ∧ v.cell? ⟨g, 2, none⟩ = some (.int .i64 r.p)) (first | go_keep)
          (first
            | (go_at_call 74; refine (HD.out w.drew).mono ?_; rintro e w1 ⟨u, rfl, hu, b1⟩; have hv := old_obj b1 (show w.drew.heap[g]? = _ from HH.out); obtain ⟨c0, c1, c2, c3, f2, f3⟩ := four_cells hv; have HB1 := Lib.hid ((Below.refl _ w).drew.trans b1); clear hv b1)
            | (go_at_call 74; refine (HD.out (w.alloc (.cells #[.string ⟨#[]⟩, .int .i64 0] 165)).drew).mono ?_; rintro e w1 ⟨u, rfl, hu, b1⟩; have hv := old_obj b1 (HZ.out); have hz := old_obj b1 (show (w.alloc (.cells #[.string ⟨#[]⟩, .int .i64 0] 165)).drew.heap[w.heap.size]? = _ from heap_alloc_new _ _); obtain ⟨c0, c1, c2, c3, f2, f3⟩ := four_cells hv; obtain ⟨z0, z1, y0, y1⟩ := two_cells hz; have HB1 := Lib.hid b1; clear hv hz b1))
        · go_wp2_with fail
          go_meet
          exact ⟨rfl, w1.heap.size, u, rfl, hu, Lib.hid (dec_late HH.out HB1.out)⟩
        · go_wp2_with fail
          go_meet
          exact ⟨rfl, w.heap.size, u, rfl, hu, Lib.hid (dec_early HH.out HB1.out)⟩
      case rest =>
        obtain ⟨rfl, K, u, rfl, hu, HD1⟩ := hcut
        obtain ⟨z0, z1, _, _⟩ := two_cells HD1.out.1
        obtain ⟨c0, c1, c2, c3, f2, f3⟩ := four_cells HD1.out.2.1
        have m1 := HD1.out.2.2.2.1
        clear HD
        skip
        go_wp2
        go_ret
        exact ⟨rfl, (HD1.out.err E).1, (HD1.out.err E).2⟩

  · have hde : (r.e == 0) = false := beq_eq_false_iff_ne.2 h0
    have e2 : q = r := by rw [HQ.out, if_neg h0]
    have e1 := show b = ⟨#[]⟩ by rw [HV.out, if_neg h0]
    rw [e1, e2]
    clear HD HQ e1 e2 HV h0
    go_enter Try.func73, Try.ntmps73
    go_wp2_with (go_at_call 75; refine (HF.out _ HR.out).mono ?_; rintro e w1 ⟨rfl, rfl⟩)
    go_ret
    exact ⟨rfl, HR.out, World.grownBy.refl _ _⟩

theorem read_int_none (P : Value) (fv : Value) (w : World) (HF : Hid (∀ v, v = w → Calls Try.prog 75 #[P] v fun e w' => e = .returned (.int .i64 1) ∧ v = w')) :
    Calls Try.prog 71 #[P, fv] w fun e w' => e = .returned (.int .i64 0) ∧ w' = w := by
  go_enter Try.func71, Try.ntmps71
  go_wp2_with (go_at_call 75; refine (HF.out _ rfl).mono ?_; rintro e w1 ⟨rfl, rfl⟩)
  go_ret
  exact ⟨rfl, rfl⟩

theorem read_str_none (P : Value) (fv : Value) (w : World) (HF : Hid (∀ v, v = w → Calls Try.prog 75 #[P] v fun e w' => e = .returned (.int .i64 1) ∧ v = w')) :
    Calls Try.prog 73 #[P, fv] w fun e w' => e = .returned (.string ⟨#[]⟩) ∧ w' = w := by
  go_enter Try.func73, Try.ntmps73
  go_wp2_with (go_at_call 75; refine (HF.out _ rfl).mono ?_; rintro e w1 ⟨rfl, rfl⟩)
  go_ret
  exact ⟨rfl, rfl⟩

end Go.Proofs.Yteccahggahpeeaa
set_option linter.unusedVariables false
set_option maxRecDepth 100000
namespace Go.Proofs.Yteccahggahpeeaa
open Go.RowKit

theorem within_p {s : ByteArray} {r : Rs} (hs : s.size ≤ 4611686018427387904) (hr : Within s.data.toList r) : -9223372036854775808 ≤ r.p ∧ r.p ≤ 9223372036854775807 := by
  have hz : s.data.toList.length = s.size := by simp
  have h1 := hr.1
  have h2 := hr.2
  omega
theorem fault_same (s : ByteArray) (r : Rs) (g : Nat) (w : World) (h : Rd w g s r) : Hid (∀ v, v = w → Calls Try.prog 75 #[.pointer (some ⟨g, 0, none⟩)] v fun e w' => e = .returned (.int .i64 r.e) ∧ v = w') :=
  Lib.hid fun v hv => by subst hv; exact (fault_any s r g v h).mono fun _ _ h => ⟨h.1, h.2.symm⟩
theorem fault_no_same (g : Nat) (w : World) (h : No w g) : Hid (∀ v, v = w → Calls Try.prog 75 #[.pointer (some ⟨g, 0, none⟩)] v fun e w' => e = .returned (.int .i64 1) ∧ v = w') :=
  Lib.hid fun v hv => by subst hv; exact (fault_no g v h).mono fun _ _ h => ⟨h.1, h.2.symm⟩
theorem fault_nil_same (w : World) : Hid (∀ v, v = w → Calls Try.prog 75 #[.pointer none] v fun e w' => e = .returned (.int .i64 1) ∧ v = w') :=
  Lib.hid fun v hv => by subst hv; exact (fault_nil v).mono fun _ _ h => ⟨h.1, h.2.symm⟩

theorem snew_any (s : ByteArray) (hs : s.size ≤ 281474976710656) (w : World) :
    Calls Try.prog 47 #[.string s] w fun e w' => ∃ g, e = .returned (.pointer (some ⟨g, 0, none⟩)) ∧ w.heap.size ≤ g ∧ Rd w' g s ⟨0, 0⟩ ∧ Below w.heap.size w w' := by
  go_enter Try.func47, Try.ntmps47
  go_wp2_with (go_at_call 70; refine (clone_any s hs _).mono ?_; rintro e w1 ⟨rfl, b1⟩)
  go_ret
  exact ⟨_, rfl, b1.size, ⟨_, heap_alloc_new _ _, rfl⟩, b1.alloc b1.size _⟩

theorem snum_any (s : ByteArray) (hs : s.size ≤ 4611686018427387904) (r : Rs) (hr : Within s.data.toList r) (g : Nat) (x m : Int) (w : World) (h : Rd w g s r) :
    Calls Try.prog 48 #[.pointer (some ⟨g, 0, none⟩), .int .i64 x, .int .i64 m] w fun e w' => e = .returned (.int .i64 (numV s.data.toList r x m)) ∧ Rd w' g s (numR s.data.toList r x m) ∧ w.grownBy w' (some g) := by
  have HC := Lib.hid (read_int s r g x m (numDV s.data.toList r.p x m) (numV s.data.toList r x m) (numDT s.data.toList r.p x m) (numE s.data.toList r.p x m) (numR s.data.toList r x m) w h
    (Lib.hid (by unfold numV; by_cases h0 : r.e = 0 <;> by_cases hE : numE s.data.toList r.p x m = 0 <;> simp [h0, hE, numDV])) (Lib.hid (by unfold numR stp; by_cases h0 : r.e = 0 <;> by_cases hE : numE s.data.toList r.p x m = 0 <;> simp [h0, hE, numDT]))
    (Lib.hid fun v => dnum_any s hs r.p x m (within_p hs hr).1 (within_p hs hr).2 v))
  generalize numV s.data.toList r x m = V at *
  generalize numR s.data.toList r x m = R at *
  clear h hr
  go_enter Try.func48, Try.ntmps48
  go_wp2_with (go_at_call 71; refine HC.out.mono ?_; rintro e w1 ⟨rfl, h1, h2⟩)
  go_ret
  exact ⟨rfl, h1, h2⟩
theorem stext_any (s : ByteArray) (hs : s.size ≤ 4611686018427387904) (r : Rs) (hr : Within s.data.toList r) (g : Nat) (m : Int) (w : World) (h : Rd w g s r) :
    Calls Try.prog 50 #[.pointer (some ⟨g, 0, none⟩), .int .i64 m] w fun e w' => e = .returned (.string (bt (textL s.data.toList r m))) ∧ Rd w' g s (textR s.data.toList r m) ∧ w.grownBy w' (some g) := by
  have HC := Lib.hid (read_text s r g m (bt (takeL s.data.toList r.p m)) (bt (textL s.data.toList r m)) (takeT s.data.toList r.p m) (takeE s.data.toList r.p m) (textR s.data.toList r m) w h
    (Lib.hid (by unfold textL; by_cases h0 : r.e = 0 <;> by_cases hE : takeE s.data.toList r.p m = 0 <;> simp [h0, hE, bt, takeL])) (Lib.hid rfl)
    (Lib.hid fun v => (dtext_any s hs r.p 0 m (within_p hs hr).1 (within_p hs hr).2 v).mono fun _ _ ⟨t, h1, h2, h3⟩ => ⟨t, h1, Lib.hid fun _ => bt_of h2.out, h3⟩))
  generalize bt (textL s.data.toList r m) = V at *
  generalize textR s.data.toList r m = R at *
  clear h hr
  go_enter Try.func50, Try.ntmps50
  go_wp2_with (go_at_call 73; refine HC.out.mono ?_; rintro e w1 ⟨rfl, h1, h2⟩)
  go_ret
  exact ⟨rfl, h1, h2⟩
theorem no_num (g : Nat) (x m : Int) (w : World) (h : No w g) : Calls Try.prog 48 #[.pointer (some ⟨g, 0, none⟩), .int .i64 x, .int .i64 m] w fun e w' => e = .returned (.int .i64 0) ∧ Below w.heap.size w w' := by
  have HF := fault_no_same g w h
  go_enter Try.func48, Try.ntmps48
  go_wp2_with (go_at_call 71; refine (read_int_none _ _ _ HF).mono ?_; rintro e w1 ⟨rfl, rfl⟩)
  go_ret
  exact ⟨rfl, Below.refl _ _⟩
theorem nil_num (x m : Int) (w : World) : Calls Try.prog 48 #[.pointer none, .int .i64 x, .int .i64 m] w fun e w' => e = .returned (.int .i64 0) ∧ Below w.heap.size w w' := by
  have HF := fault_nil_same w
  go_enter Try.func48, Try.ntmps48
  go_wp2_with (go_at_call 71; refine (read_int_none _ _ _ HF).mono ?_; rintro e w1 ⟨rfl, rfl⟩)
  go_ret
  exact ⟨rfl, Below.refl _ _⟩
theorem no_text (g : Nat) (m : Int) (w : World) (h : No w g) : Calls Try.prog 50 #[.pointer (some ⟨g, 0, none⟩), .int .i64 m] w fun e w' => e = .returned (.string ⟨#[]⟩) ∧ Below w.heap.size w w' := by
  have HF := fault_no_same g w h
  go_enter Try.func50, Try.ntmps50
  go_wp2_with (go_at_call 73; refine (read_str_none _ _ _ HF).mono ?_; rintro e w1 ⟨rfl, rfl⟩)
  go_ret
  exact ⟨rfl, Below.refl _ _⟩
theorem nil_text (m : Int) (w : World) : Calls Try.prog 50 #[.pointer none, .int .i64 m] w fun e w' => e = .returned (.string ⟨#[]⟩) ∧ Below w.heap.size w w' := by
  have HF := fault_nil_same w
  go_enter Try.func50, Try.ntmps50
  go_wp2_with (go_at_call 73; refine (read_str_none _ _ _ HF).mono ?_; rintro e w1 ⟨rfl, rfl⟩)
  go_ret
  exact ⟨rfl, Below.refl _ _⟩
theorem rd_lt' {w : World} {g : Nat} {s : ByteArray} {r : Rs} (h : Rd w g s r) : g < w.heap.size := by obtain ⟨o, h1, _⟩ := h; exact obj_lt h1
/-! Serials: a number of them, and then as many. -/
def serN (S : List UInt8) : Nat → Rs → Rs
  | 0, r => r
  | k + 1, r => serR S (serN S k r)
theorem serR_stop {S : List UInt8} {r : Rs} (h : r.e ≠ 0) : serR S r = r := by unfold serR; rw [if_neg h]
theorem serN_stop {S : List UInt8} {r : Rs} (h : r.e ≠ 0) : ∀ k, serN S k r = r
  | 0 => rfl
  | k + 1 => by unfold serN; rw [serN_stop h k, serR_stop h]
theorem serN_comm {S : List UInt8} (r : Rs) : ∀ k, serN S k (serR S r) = serR S (serN S k r)
  | 0 => rfl
  | k + 1 => by
    have := serN_comm (S := S) r k
    conv => lhs; unfold serN
    conv => rhs; unfold serN
    rw [this]
theorem sers_state {S : List UInt8} : ∀ (n : Nat) (r : Rs) (l : List (List UInt8)), (sersOn S n r l).1 = serN S n r
  | 0, r, l => rfl
  | n + 1, r, l => by
    by_cases h : r.e = 0
    · rw [sers_go h, sers_state n, serN_comm]; rfl
    · rw [sers_stop h, serN_stop h]
theorem sers_list {S : List UInt8} : ∀ (n : Nat) (r : Rs) (l : List (List UInt8)), (serN S n r).e = 0 → (sersOn S n r l).2 = l ++ (List.range n).map fun j => serL S (serN S j r)
  | 0, r, l, _ => by simp [sersOn]
  | n + 1, r, l, h => by
    have h0 : r.e = 0 := by
      rcases Decidable.em (r.e = 0) with h1 | h1
      · exact h1
      · rw [serN_stop h1] at h; exact absurd h h1
    rw [sers_go h0, sers_list n _ _ (by rw [serN_comm]; exact h), List.range_succ_eq_map, List.map_cons, List.map_map]
    simp only [List.append_assoc, List.singleton_append]
    congr 2
    refine List.map_congr_left fun j _ => ?_
    show serL S (serN S j (serR S r)) = serL S (serN S (j + 1) r)
    rw [serN_comm]; rfl
theorem serN_in {S : List UInt8} {r : Rs} (h : Within S r) : ∀ k, Within S (serN S k r)
  | 0 => h
  | k + 1 => ser_in (serN_in h k)
/-- A row of texts, as many as are laid. -/
def strRow (f : Nat → ByteArray) (n : Nat) : Array Value := (strCells ((List.range n).map f)).toArray
theorem strRow_at {f : Nat → ByteArray} {n k : Nat} (h : k < n) : (strRow f n)[k]? = some (.string (f k)) := by
  unfold strRow strCells
  rw [List.getElem?_toArray]
  simp [h]
theorem strRow_set {f f' : Nat → ByteArray} {n k : Nat} (hk : ∀ i, i < n → i ≠ k → f i = f' i) : (strRow f n).setIfInBounds k (.string (f' k)) = strRow f' n := by
  unfold strRow strCells
  rw [List.setIfInBounds_toArray]
  congr 1
  refine List.ext_getElem (by simp) fun i h1 h2 => ?_
  have hi : i < n := by simpa using h2
  rw [List.getElem_set]
  by_cases h : k = i
  · subst h; simp
  · simp [h, hk i hi (fun e => h e.symm)]
theorem strRow_made (f : Nat → ByteArray) (n : Nat) (h : ∀ i, i < n → f i = ⟨#[]⟩) : madeCells #[Value.string ⟨#[]⟩] n = strRow f n := by
  refine Array.ext' ?_
  rw [toList_madeCells_one]
  unfold strRow
  refine List.ext_getElem (by simp [strCells]) fun i h1 h2 => ?_
  have hi : i < n := by simpa using h1
  simp [strCells, h i hi]
def serAt (S : List UInt8) (r : Rs) (k i : Nat) : ByteArray := if i < k then bt (serL S (serN S i r)) else ⟨#[]⟩
/-- How things lie in the round: the row, the reader, and what lay ahead. -/
structure Sering (w : World) (g K n : Nat) (s : ByteArray) (q : Rs) (f : Nat → ByteArray) (wr : World) : Prop where
  row : wr.heap[K]? = some (.cells (strRow f n) 9 (0, 0))
  rd : Rd wr g s q
  old : w.grownBy wr (some g)
  ne : K ≠ g
  ahead : w.heap.size ≤ K
theorem Sering.step {w wr w' : World} {g K n : Nat} {s : ByteArray} {q q' : Rs} {f : Nat → ByteArray} (h : Sering w g K n s q f wr) (hg : wr.grownBy w' (some g)) (hr : Rd w' g s q') : Sering w g K n s q' f w' :=
  ⟨grown_obj hg h.row h.ne, hr, h.old.trans hg, h.ne, h.ahead⟩
theorem Sering.set {w wr : World} {g K n k : Nat} {s : ByteArray} {q : Rs} {f f' : Nat → ByteArray} {V : ByteArray} (h : Sering w g K n s q f wr) (hk : ∀ i, i < n → i ≠ k → f i = f' i) (hV : V = f' k) : Sering w g K n s q f' (wr.setCell ⟨K, k, none⟩ (.string V)) := by
  refine ⟨?_, ?_, ⟨h.old.os, h.old.tape, h.old.output, ?_, ?_⟩, h.ne, h.ahead⟩
  · rw [heap_setCell_same wr K k _ _ _ h.row, hV, strRow_set hk]
  · refine ⟨_, ?_, rfl⟩
    rw [heap_setCell_other wr ⟨K, k, none⟩ _ _ (by simpa using fun e => h.ne e.symm)]
    exact rd_heap h.rd
  · have := h.old.size; simpa [World.setCell] using this
  · intro i hi hne
    rw [heap_setCell_other wr ⟨K, k, none⟩ _ _ (by have := h.ahead; simp; omega)]
    exact h.old.block i hi hne

end Go.Proofs.Yteccahggahpeeaa
