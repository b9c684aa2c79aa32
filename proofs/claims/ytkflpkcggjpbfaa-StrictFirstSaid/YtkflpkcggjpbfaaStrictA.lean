/- The program's reader: how it lies in memory, its fault, place and error, and errors told of. -/
import Derived.Test.YtkflpkcggjpbfaaRef6
import Derived.Test.YtkflpkcggjpbfaaOctet
import Derived.Lib.BufferOwn
import Derived.BigQuiet
import Derived.StillTailTactics
set_option linter.unusedVariables false
set_option maxRecDepth 100000
namespace Go.Proofs.Ytkflpkcggjpbfaa
open Go.RowKit
/-- How a reader lies in memory (the implementation's own). -/
def rdCells (s : ByteArray) (p e : Int) : Array Value := #[.bool true, .string s, .int .i64 p, .int .i64 e]
def RdObj (s : ByteArray) (r : Rs) (o : Obj) : Prop := o = .cells #[.bool true, .string s, .int .i64 r.p, .int .i64 r.e] 35 (0, 0)
/-- A reader that no call made. -/
def noCells : Array Value := #[.bool false, .string ⟨#[]⟩, .int .i64 0, .int .i64 0]
def NoObj (o : Obj) : Prop := o = .cells noCells 35 (0, 0)
def Rd (w : World) (g : Nat) (s : ByteArray) (r : Rs) : Prop := ∃ o, w.heap[g]? = some o ∧ RdObj s r o
def No (w : World) (g : Nat) : Prop := ∃ o, w.heap[g]? = some o ∧ NoObj o
/-- The error that a reader tells. -/
def errV (r : Rs) : Value := if r.e = 0 then .nilIface else .iface 58 (.agg #[.int .i64 r.e, .int .i64 r.p])
theorem rd_heap {w : World} {g : Nat} {s : ByteArray} {r : Rs} (h : Rd w g s r) : w.heap[g]? = some (.cells #[.bool true, .string s, .int .i64 r.p, .int .i64 r.e] 35 (0, 0)) := by
  obtain ⟨o, h1, h2⟩ := h
  unfold RdObj at h2
  rw [h1, h2]
theorem no_heap {w : World} {g : Nat} (h : No w g) : w.heap[g]? = some (.cells noCells 35 (0, 0)) := by
  obtain ⟨o, h1, h2⟩ := h
  unfold NoObj at h2
  rw [h1, h2]
theorem four_cells {w : World} {g : Nat} {x y z u : Value} {t : TypeId} (h : w.heap[g]? = some (.cells #[x, y, z, u] t (0, 0))) :
    w.cell? ⟨g, 0, none⟩ = some x ∧ w.cell? ⟨g, 1, none⟩ = some y ∧ w.cell? ⟨g, 2, none⟩ = some z ∧ w.cell? ⟨g, 3, none⟩ = some u ∧ w.frozen? ⟨g, 2, none⟩ = false ∧ w.frozen? ⟨g, 3, none⟩ = false :=
  ⟨cell_of (j := 0) h rfl, cell_of (j := 1) h rfl, cell_of (j := 2) h rfl, cell_of (j := 3) h rfl, frozen_of_row w g 2 _ _ h, frozen_of_row w g 3 _ _ h⟩

theorem fault_any (s : ByteArray) (r : Rs) (g : Nat) (w : World) (h : Rd w g s r) :
    Calls Try.prog 37 #[.pointer (some ⟨g, 0, none⟩)] w fun e w' => e = .returned (.int .i64 r.e) ∧ w' = w := by
  obtain ⟨c0, c1, c2, c3, f2, f3⟩ := four_cells (rd_heap h)
  clear c1 c2 f2 f3
  go_enter Try.func37, Try.ntmps37
  go_wp2
  go_ret
  exact ⟨rfl, rfl⟩
theorem fault_no (g : Nat) (w : World) (h : No w g) :
    Calls Try.prog 37 #[.pointer (some ⟨g, 0, none⟩)] w fun e w' => e = .returned (.int .i64 1) ∧ w' = w := by
  obtain ⟨c0, c1, c2, c3, f2, f3⟩ := four_cells (no_heap h)
  clear c1 c2 f2 f3
  go_enter Try.func37, Try.ntmps37
  go_wp2
  go_ret
  exact ⟨rfl, rfl⟩
theorem fault_nil (w : World) :
    Calls Try.prog 37 #[.pointer none] w fun e w' => e = .returned (.int .i64 1) ∧ w' = w := by
  go_enter Try.func37, Try.ntmps37
  go_wp2
  go_ret
  exact ⟨rfl, rfl⟩
theorem sat_any (s : ByteArray) (r : Rs) (g : Nat) (w : World) (h : Rd w g s r) :
    Calls Try.prog 11 #[.pointer (some ⟨g, 0, none⟩)] w fun e w' => e = .returned (.int .i64 r.p) ∧ w' = w := by
  obtain ⟨c0, c1, c2, c3, f2, f3⟩ := four_cells (rd_heap h)
  go_enter Try.func11, Try.ntmps11
  go_wp2
  go_ret
  exact ⟨rfl, rfl⟩
theorem no_at (g : Nat) (w : World) (h : No w g) : Calls Try.prog 11 #[.pointer (some ⟨g, 0, none⟩)] w fun e w' => e = .returned (.int .i64 0) ∧ w' = w := by
  obtain ⟨c0, c1, c2, c3, f2, f3⟩ := four_cells (no_heap h)
  go_enter Try.func11, Try.ntmps11
  go_wp2
  go_ret
  exact ⟨rfl, rfl⟩
theorem nil_at (w : World) : Calls Try.prog 11 #[.pointer none] w fun e w' => e = .returned (.int .i64 0) ∧ w' = w := by
  go_enter Try.func11, Try.ntmps11
  go_wp2
  go_ret
  exact ⟨rfl, rfl⟩
theorem serr_same (s : ByteArray) (r : Rs) (g : Nat) (w : World) (h : Rd w g s r) :
    Calls Try.prog 10 #[.pointer (some ⟨g, 0, none⟩)] w fun e w' => e = .returned (errV r) ∧ w' = w := by
  have HF := Lib.hid (fault_any s r g w h)
  have HA := Lib.hid (sat_any s r g w h)
  by_cases he : r.e = 0
  · have hv : errV r = .nilIface := by unfold errV; rw [if_pos he]
    rw [he] at HF
    rw [hv]
    clear he hv h
    go_enter Try.func10, Try.ntmps10
    go_wp2_with (go_at_call 37; refine HF.out.mono ?_; rintro e w1 ⟨rfl, rfl⟩)
    go_ret
    exact ⟨rfl, rfl⟩
  · have hv : errV r = .iface 58 (.agg #[.int .i64 r.e, .int .i64 r.p]) := by unfold errV; rw [if_neg he]
    have hde : (r.e == 0) = false := beq_eq_false_iff_ne.2 he
    rw [hv]
    clear he hv h
    go_enter Try.func10, Try.ntmps10
    go_wp2_with (first | (go_at_call 37; refine HF.out.mono ?_; rintro e w1 ⟨rfl, rfl⟩) | (go_at_call 11; refine HA.out.mono ?_; rintro e w1 ⟨rfl, rfl⟩))
    go_ret
    exact ⟨rfl, rfl⟩
theorem serr_any (s : ByteArray) (r : Rs) (g : Nat) (w : World) (h : Rd w g s r) :
    Calls Try.prog 10 #[.pointer (some ⟨g, 0, none⟩)] w fun e w' => e = .returned (errV r) ∧ Below w.heap.size w w' :=
  (serr_same s r g w h).mono fun _ _ h => ⟨h.1, by rw [h.2]; exact Below.refl _ _⟩
theorem no_err (g : Nat) (w : World) (h : No w g) : Calls Try.prog 10 #[.pointer (some ⟨g, 0, none⟩)] w fun e w' => e = .returned (.iface 58 (.agg #[.int .i64 1, .int .i64 0])) ∧ Below w.heap.size w w' := by
  have HF := Lib.hid (fault_no g w h)
  have HA := Lib.hid (no_at g w h)
  clear h
  go_enter Try.func10, Try.ntmps10
  go_wp2_with (first | (go_at_call 37; refine HF.out.mono ?_; rintro e w1 ⟨rfl, rfl⟩) | (go_at_call 11; refine HA.out.mono ?_; rintro e w1 ⟨rfl, rfl⟩))
  go_ret
  exact ⟨rfl, Below.refl _ _⟩
theorem nil_err (w : World) : Calls Try.prog 10 #[.pointer none] w fun e w' => e = .returned (.iface 58 (.agg #[.int .i64 1, .int .i64 0])) ∧ Below w.heap.size w w' := by
  have HF := Lib.hid (fault_nil w)
  have HA := Lib.hid (nil_at w)
  go_enter Try.func10, Try.ntmps10
  go_wp2_with (first | (go_at_call 37; refine HF.out.mono ?_; rintro e w1 ⟨rfl, rfl⟩) | (go_at_call 11; refine HA.out.mono ?_; rintro e w1 ⟨rfl, rfl⟩))
  go_ret
  exact ⟨rfl, Below.refl _ _⟩

theorem drewN_grown (w : World) (n : Nat) (g : Option Nat) : w.grownBy (w.drewN n) g := Lib.grownBy_below (World.grownBy.refl _ _) (drawn_below (Below.refl _ w) n)
theorem send_any (s : ByteArray) (hs : s.size ≤ 4611686018427387904) (r : Rs) (g : Nat) (w : World) (h : Rd w g s r) :
    Calls Try.prog 23 #[.pointer (some ⟨g, 0, none⟩)] w fun e w' => e = .returned (.tuple #[]) ∧ Rd w' g s (endR s.data.toList r) ∧ w.grownBy w' (some g) := by
  have hz : s.data.toList.length = s.size := by simp
  have hh := rd_heap h
  obtain ⟨c0, c1, c2, c3, f2, f3⟩ := four_cells hh
  have HG : Hid (∀ (n : Nat) (v : Value), w.grownBy ((w.drewN n).setCell ⟨g, 3, none⟩ v) (some g)) := Lib.hid fun n v => Lib.grownBy_setB (drewN_grown w n _) 3 v
  have HW : Hid (∀ n : Nat, Rd ((w.drewN n).setCell ⟨g, 3, none⟩ (.int .i64 6)) g s ⟨r.p, 6⟩) := Lib.hid fun n => ⟨_, heap_setCell_same (w.drewN n) g 3 _ _ (.int .i64 6) hh, rfl⟩
  have HR : Hid (∀ n : Nat, Rd (w.drewN n) g s r) := Lib.hid fun n => ⟨_, hh, rfl⟩
  have HF := Lib.hid (fault_any s r g)
  clear h
  by_cases he : r.e = 0
  · rw [he] at HF
    by_cases hl : r.p < s.size
    · have hr : endR s.data.toList r = ⟨r.p, 6⟩ := by unfold endR; rw [if_pos ⟨he, by omega⟩]
      have hdl : decide (r.p < (s.size : Int)) = true := decide_eq_true hl
      rw [hr]
      clear he hl hr hh hz
      go_enter Try.func23, Try.ntmps23
      go_upto_region 0 with fail
      go_quiet ((go_at_call 37; exact Calls.quiet_of_same (HF.out _ (HR.out 0))))
      go_wp2
      go_end0
      exact ⟨rfl, HW.out _, HG.out _ _⟩
    · have hr : endR s.data.toList r = r := by unfold endR; rw [if_neg (by omega)]
      have hdl : decide (r.p < (s.size : Int)) = false := decide_eq_false hl
      rw [hr]
      clear he hl hr hh hz HG HW
      go_enter Try.func23, Try.ntmps23
      go_upto_region 0 with fail
      go_quiet ((go_at_call 37; exact Calls.quiet_of_same (HF.out _ (HR.out 0))))
      go_wp2
      go_end0
      exact ⟨rfl, HR.out _, drewN_grown _ _ _⟩
  · have hr : endR s.data.toList r = r := by unfold endR; rw [if_neg (by omega)]
    have hde : (r.e == 0) = false := beq_eq_false_iff_ne.2 he
    rw [hr]
    clear he hr hh hz HG HW
    go_enter Try.func23, Try.ntmps23
    go_upto_region 0 with fail
    go_quiet ((go_at_call 37; exact Calls.quiet_of_same (HF.out _ (HR.out 0))))
    go_wp2
    go_end0
    exact ⟨rfl, HR.out _, drewN_grown _ _ _⟩

/-! Errors told of. -/
theorem agg_load {w : World} {g : Nat} {t : TypeId} {x y : Value} {fr : Nat × Nat} (h : w.heap[g]? = some (.cells #[x, y] t fr)) : (loadVar 58 ⟨g, 0, none⟩).run Try.prog w = .ok (.agg #[x, y]) w :=
  run_loadVar_row (P := Try.prog) w g t 58 #[x, y] fr _ h Try.underlying58 rfl (by kernel_rfl)
theorem as_fault (x p : Int) (b : Bool) (W : World) : (Instr.typeAssert (.iface 58 (.agg #[.int .i64 x, .int .i64 p])) 39 58 b).run Try.prog W = .ok (if b then .tuple #[.agg #[.int .i64 x, .int .i64 p], .bool true] else .agg #[.int .i64 x, .int .i64 p]) W := by
  cases b <;> kernel_rfl
theorem as_errno (x : Int) (W : World) : (Instr.typeAssert (.iface 33 (.int .i64 x)) 39 58 true).run Try.prog W = .ok (.tuple #[.agg #[.int .i64 0, .int .i64 0], .bool false]) W := by kernel_rfl
theorem fin_fault (x p : Int) (w : World) : Calls Try.prog 36 #[.iface 58 (.agg #[.int .i64 x, .int .i64 p])] w fun e w' => e = .returned (.tuple #[.agg #[.int .i64 x, .int .i64 p], .bool true]) ∧ Below w.heap.size w w' := by
  have ha := as_fault x p true
  rw [if_pos rfl] at ha
  go_enter Try.func36, Try.ntmps36
  go_wp2
  refine bodyPost_ret (results_row_slot rfl _ _ w.heap.size _ rfl (agg_load (heap_alloc2_old _ _ _))) rfl ?_
  exact ⟨rfl, ((Below.refl _ w).alloc (Nat.le_refl _) _).alloc (by simp) _⟩
theorem fin_errno (x : Int) (w : World) : Calls Try.prog 36 #[.iface 33 (.int .i64 x)] w fun e w' => e = .returned (.tuple #[.agg #[.int .i64 0, .int .i64 0], .bool false]) ∧ Below w.heap.size w w' := by
  have ha := as_errno x
  go_enter Try.func36, Try.ntmps36
  go_wp2
  refine bodyPost_ret (results_row_slot rfl _ _ w.heap.size _ rfl (agg_load (heap_alloc2_old _ _ _))) rfl ?_
  exact ⟨rfl, ((Below.refl _ w).alloc (Nat.le_refl _) _).alloc (by simp) _⟩
theorem swhy_nil (w : World) : Calls Try.prog 9 #[.nilIface] w fun e w' => e = .returned (.tuple #[.int .i64 0, .int .i64 0]) ∧ Below w.heap.size w w' := by
  go_enter Try.func9, Try.ntmps9
  go_wp2
  go_ret2
  exact ⟨rfl, Below.refl _ _⟩
theorem swhy_fault (x p : Int) (w : World) : Calls Try.prog 9 #[.iface 58 (.agg #[.int .i64 x, .int .i64 p])] w fun e w' => e = .returned (.tuple #[.int .i64 x, .int .i64 p]) ∧ Below w.heap.size w w' := by
  go_enter Try.func9, Try.ntmps9
  go_wp2_with (go_at_call 36; refine (fin_fault x p _).mono ?_; rintro e w1 ⟨rfl, b1⟩)
  have HB := Lib.hid (b1.alloc b1.size (.cells #[.int .i64 x, .int .i64 p] 58))
  have hg := heap_alloc_new w1 (.cells #[.int .i64 x, .int .i64 p] 58)
  obtain ⟨c0, c1, _, _⟩ := two_cells hg
  obtain ⟨W, hW⟩ : ∃ W, W = w1.alloc (.cells #[.int .i64 x, .int .i64 p] 58) := ⟨_, rfl⟩
  rw [← hW] at c0 c1 HB ⊢
  clear hW hg b1
  go_quiet (fail)
  go_wp2
  go_ret2
  exact ⟨rfl, drawn_below HB.out _⟩
theorem swhy_errno (x : Int) (w : World) : Calls Try.prog 9 #[.iface 33 (.int .i64 x)] w fun e w' => e = .returned (.tuple #[.int .i64 2, .int .i64 0]) ∧ Below w.heap.size w w' := by
  go_enter Try.func9, Try.ntmps9
  go_wp2_with (go_at_call 36; refine (fin_errno x _).mono ?_; rintro e w1 ⟨rfl, b1⟩)
  go_ret2
  exact ⟨rfl, b1.alloc b1.size _⟩
theorem asf_any (x p : Int) (w : World) : Calls Try.prog 49 #[.iface 58 (.agg #[.int .i64 x, .int .i64 p])] w fun e w' => e = .returned (.agg #[.int .i64 x, .int .i64 p]) ∧ Below w.heap.size w w' := by
  have ha := as_fault x p false
  rw [if_neg (by decide)] at ha
  go_enter Try.func49, Try.ntmps49
  go_wp2
  refine bodyPost_ret (results_cell_row rfl _ _ w.heap.size 58 _ _ _ rfl (heap_alloc_new _ _) Try.underlying58 rfl (by kernel_rfl)) rfl ?_
  exact ⟨rfl, (Below.refl _ w).alloc (Nat.le_refl _) _⟩
theorem smust_any (x p : Int) (w : World) : Calls Try.prog 24 #[.iface 58 (.agg #[.int .i64 x, .int .i64 p])] w fun e w' => e = .returned (.agg #[.int .i64 x, .int .i64 p]) ∧ Below w.heap.size w w' := by
  go_enter Try.func24, Try.ntmps24
  go_wp2_with (go_at_call 49; refine (asf_any x p _).mono ?_; rintro e w1 ⟨rfl, b1⟩; have hg := old_obj b1 (heap_alloc_new _ _); have hb := ((Below.refl _ w).alloc (Nat.le_refl _) (.cells #[.int .i64 0, .int .i64 0] 58)).trans (b1.mono (by simp)); obtain ⟨c0, c1, f0, f1⟩ := two_cells hg)
  refine bodyPost_ret (results_cell_row rfl _ _ w.heap.size 58 _ _ _ rfl (two_stored hg _ _) Try.underlying58 rfl (by kernel_rfl)) rfl ?_
  exact ⟨rfl, two_below hb (Nat.le_refl _) _ _⟩
/-- The error 3's text. -/
theorem errno3 (w : World) : Calls Try.prog 50 #[.int .i64 3] w fun e w' => e = .returned (.string ⟨#[101, 114, 114, 111, 114, 32, 51]⟩) ∧ Below w.heap.size w w' := by
  have hcv := conv_one5
  go_enter Try.func50, Try.ntmps50
  go_wp2
  go_loopw [3, 4] (fun s n wr => (n = .int .i64 3 ∧ s = .string ⟨#[]⟩ ∧ wr = w) ∨ (n = .int .i64 0 ∧ s = .string ⟨#[51]⟩ ∧ Below w.heap.size w wr)) (fun _ n _ => (intOf n).toNat)
  case atStart => exact Or.inl ⟨rfl, rfl, rfl⟩
  case round =>
    rcases hrel with ⟨rfl, rfl, rfl⟩ | ⟨rfl, rfl, hb⟩
    · go_wp2
      go_roundw
      case rel => exact Or.inr ⟨rfl, rfl, (Below.refl _ _).alloc (Nat.le_refl _) _⟩
      case measure => simp [intOf]
    · go_wp2
      go_ret
      exact ⟨rfl, hb⟩
theorem stext3 (p : Int) (w : World) : Calls Try.prog 25 #[.agg #[.int .i64 3, .int .i64 p]] w fun e w' => e = .returned (.string ⟨#[101, 114, 114, 111, 114, 32, 51]⟩) ∧ Below w.heap.size w w' := by
  go_enter Try.func25, Try.ntmps25
  go_wp2_with (go_at_call 50; refine (errno3 _).mono ?_; rintro e w1 ⟨rfl, b1⟩)
  go_ret
  exact ⟨rfl, ((Below.refl _ w).alloc (Nat.le_refl _) _).trans (b1.mono (by simp))⟩
end Go.Proofs.Ytkflpkcggjpbfaa
