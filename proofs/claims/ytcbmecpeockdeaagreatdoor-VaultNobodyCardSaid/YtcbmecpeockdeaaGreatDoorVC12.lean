/- The program's Append and Snap of a vault: a step is taken, and a deferred call closes the vault where it found no power. -/
import Derived.Test.YtcbmecpeockdeaaGreatDoorVB12
import Derived.Defers
namespace Go.Proofs.YtcbmecpeockdeaaGreatDoor
open Go.RowKit Go.Maps

/-- The deferred call: it closes the vault if the result is that there is no power. -/
theorem vend_d (a k r : Nat) (E : Int) (bb s : Bool) (hbb : (E == 20) = bb) (u : FrameMode) (w : World) (h0 : w.cell? ⟨r, 0, none⟩ = some (.int .i64 E)) (h1 : w.cell? ⟨k, 0, none⟩ = some (.pointer (some ⟨a, 0, none⟩))) (h2 : w.cell? ⟨a, 5, none⟩ = some (.bool s)) (h3 : w.frozen? ⟨a, 5, none⟩ = false) :
    CallsD Tryz.prog 36 #[.pointer (some ⟨r, 0, none⟩), .pointer (some ⟨k, 0, none⟩)] u w fun e u' w' => u' = u ∧ (e = .returned (.tuple #[]) ∧ w' = w.setCell ⟨a, 5, none⟩ (.bool bb)) := by
  go_enter_d Tryz.func36, Tryz.ntmps36
  go_wp2
  go_end0
  exact ⟨rfl, rfl⟩
theorem PV.set_far {w : World} {a b g cap m : Nat} {v : Vt} (h : PV w a b g cap m v) (r j : Nat) (x : Value) (h0 : a ≠ r) (h1 : b ≠ r) (h2 : g ≠ r) (h3 : m ≠ r) : PV (w.setCell ⟨r, j, none⟩ x) a b g cap m v :=
  ⟨(cell_else _ _ _ _ _ h0).trans h.box, h.dev.kept (cell_else _ _ _ _ _ h1) (cell_else _ _ _ _ _ h2) (cell_else _ _ _ _ _ h3), h.far⟩
theorem one_cell12 {w : World} {g : Nat} {x : Value} {t : TypeId} (h : w.heap[g]? = some (.cells #[x] t (0, 0))) : w.cell? ⟨g, 0, none⟩ = some x ∧ w.frozen? ⟨g, 0, none⟩ = false := ⟨cell_of (j := 0) h rfl, frozen_of_row w g 0 _ _ h⟩
set_option maxRecDepth 100000 in
set_option maxHeartbeats 2000000 in
theorem vtakeF_any {w : World} {a b g cap m : Nat} {v : Vt} (h : PV w a b g cap m v) (hk : v.Ok) (ho : v.d.ops < 9223372036854700000) (hT : Tab w) (t : ByteArray) (ht : t.size ≤ 281474976710656) :
    Calls Tryz.prog 19 #[.pointer (some ⟨a, 0, none⟩), .func (.func 20) #[.pointer (some ⟨a, 0, none⟩)] #[], .string t] w fun e w' => e = .returned (.int .i64 (v.appR t.data.toList)) ∧ PV w' a b g cap m (v.append t.data.toList) ∧ Buts a b g m w w' := by
  have hmf : ∀ (fn : Fn) (first cap : Array Value) (w : World), (Instr.makeFunc fn first cap).run Tryz.prog w = .ok (.func fn first cap) w := fun _ _ _ _ => rfl
  obtain ⟨W, hW⟩ : ∃ W, W = (w.alloc (.cells #[.pointer (some ⟨a, 0, none⟩)] 23 (0, 0))).alloc (.cells #[.int .i64 0] 28 (0, 0)) := ⟨_, rfl⟩
  obtain ⟨b0, z0, z1⟩ := two_boxes _ _ hW
  have hP := h.step b0
  have hma := vmade_any hP
  have hst := vputFrame_any hP hk ho (hT.below b0) t ht
  obtain ⟨⟨c0, c1, c2, c3, c4, c5⟩, _⟩ := six_cells hP.box
  obtain ⟨k0, _⟩ := one_cell12 z0
  obtain ⟨r0, r1⟩ := one_cell12 z1
  have hal : a < w.heap.size := h.lt
  have hlt := h.dev.lt
  by_cases hS : v.shut = true
  · have hR : v.appR t.data.toList = 23 := by unfold Vt.appR; rw [if_pos hS]
    have hX : v.append t.data.toList = v := by unfold Vt.append; rw [if_pos hS]
    rw [hR, hX]
    rw [hS] at c5
    have HP := Lib.hid hP
    have HB := Lib.hid (Buts.of_below (a := a) (b := b) (g := g) (m := m) b0)
    have HC := Lib.hid ((HB.out.cell (r := w.heap.size + 1) (j := 0) (.int .i64 23) (Or.inr (by omega))))
    have HPC := Lib.hid (hP.set_far (w.heap.size + 1) 0 (.int .i64 23) (by omega) (by omega) (by omega) (by omega))
    clear hst hR hX hS hk ho hT ht b0 z0 z1 hP h hal hlt
    go_enter_defers Tryz.func19, Tryz.ntmps19
    go_upto_region 1 with fail
    rw [← hW]
    clear hW
    go_wp2_with (go_at_call 25; refine hma.mono ?_; rintro e w1 ⟨rfl, rfl⟩)
    refine ⟨.int .i64 23, ?_, rfl, HPC.out, HC.out⟩
    simp [results, Tryz.results19, go_sem, r0]
  · have hS2 : v.shut = false := by simpa using hS
    obtain ⟨E, hE⟩ : ∃ E, v.appE t.data.toList = E := ⟨_, rfl⟩
    obtain ⟨bb, hbb⟩ : ∃ bb, (E == 20) = bb := ⟨_, rfl⟩
    have hR : v.appR t.data.toList = E := by unfold Vt.appR; rw [if_neg hS, hE]
    have hX : v.append t.data.toList = { v.app0 t.data.toList with shut := bb } := by
      unfold Vt.append
      rw [if_neg hS, hE, ← hbb]
      congr 1
    rw [hR, hX]
    rw [hS2] at c5
    rw [hE] at hst
    have hsh : (v.app0 t.data.toList).shut = v.shut := by unfold Vt.app0; split <;> rfl
    generalize v.app0 t.data.toList = V1 at *
    have HP := Lib.hid hP
    have HB := Lib.hid (Buts.of_below (a := a) (b := b) (g := g) (m := m) b0)
    have HZ := Lib.hid (And.intro z0 z1)
    have HL := Lib.hid (And.intro hal hlt)
    clear hR hX hS hS2 hE hk ho hT ht b0 z0 z1 hP h hal hlt hsh
    go_enter_defers Tryz.func19, Tryz.ntmps19
    go_upto_region 1 with fail
    rw [← hW]
    clear hW
    go_upto_region 6 with (go_at_call 25; refine hma.mono ?_; rintro e w1 ⟨rfl, rfl⟩)
    go_wp2_with (go_at_call 20; refine hst.mono ?_; rintro e w2 ⟨rfl, hp2, hb2⟩; have HP2 := Lib.hid hp2; have HB2 := Lib.hid hb2; have hz2 := hb2.obj HZ.out.2 (by have := HL.out; omega) (by have := HL.out; omega) (by have := HL.out; omega) (by have := HL.out; omega); have HZ2 := Lib.hid hz2; obtain ⟨r0, r1⟩ := one_cell12 hz2; clear hp2 hb2 hz2)
    have hl := HL.out
    obtain ⟨W3, hW3⟩ : ∃ W3, W3 = w2.setCell ⟨w.heap.size + 1, 0, none⟩ (.int .i64 E) := ⟨_, rfl⟩
    have y0 : W3.heap[w.heap.size + 1]? = some (.cells #[.int .i64 E] 28 (0, 0)) := by rw [hW3]; exact heap_setCell_same w2 _ 0 _ _ _ HZ2.out
    have y1 : W3.heap[w.heap.size]? = some (.cells #[.pointer (some ⟨a, 0, none⟩)] 23 (0, 0)) := by rw [hW3, cell_else _ _ _ _ _ (by omega)]; exact HB2.out.obj HZ.out.1 (by omega) (by omega) (by omega) (by omega)
    have y2 : PV W3 a b g cap m V1 := by rw [hW3]; exact HP2.out.set_far _ _ _ (by omega) (by omega) (by omega) (by omega)
    have y3 : Buts a b g m w W3 := by rw [hW3]; exact (HB.out.trans HB2.out).cell _ (Or.inr (by omega))
    obtain ⟨⟨_, _, _, _, _, x5⟩, _, _, _, xf⟩ := six_cells y2.box
    rw [← hW3]
    clear hW3
    refine leaves_cons (f := 36) (args := #[.pointer (some ⟨w.heap.size + 1, 0, none⟩), .pointer (some ⟨w.heap.size, 0, none⟩)]) (by simp) (by simp [go_sem]) ?_
    refine (vend_d a w.heap.size (w.heap.size + 1) E bb V1.shut hbb .returning W3 (one_cell12 y0).1 (one_cell12 y1).1 x5 xf).mono ?_
    rintro e u' w4 ⟨rfl, rfl, rfl⟩
    have y4 : (W3.setCell ⟨a, 5, none⟩ (.bool bb)).heap[w.heap.size + 1]? = some (.cells #[.int .i64 E] 28 (0, 0)) := (cell_else _ _ _ _ _ (by omega)).trans y0
    obtain ⟨y5, _⟩ := one_cell12 y4
    refine ⟨.int .i64 E, ?_, rfl, y2.set_shut bb, y3.cell _ (Or.inl rfl)⟩
    simp [results, Tryz.results19, go_sem, y5]
set_option maxRecDepth 100000 in
set_option maxHeartbeats 2000000 in
theorem vtakeS_any {w : World} {a b g cap m : Nat} {v : Vt} (h : PV w a b g cap m v) (hk : v.Ok) (ho : v.d.ops < 9223372036854700000) (hT : Tab w) (t : ByteArray) (ht : t.size ≤ 281474976710656) :
    Calls Tryz.prog 19 #[.pointer (some ⟨a, 0, none⟩), .func (.func 21) #[.pointer (some ⟨a, 0, none⟩)] #[], .string t] w fun e w' => e = .returned (.int .i64 (v.snapR t.data.toList)) ∧ PV w' a b g cap m (v.snap t.data.toList) ∧ Buts a b g m w w' := by
  have hmf : ∀ (fn : Fn) (first cap : Array Value) (w : World), (Instr.makeFunc fn first cap).run Tryz.prog w = .ok (.func fn first cap) w := fun _ _ _ _ => rfl
  obtain ⟨W, hW⟩ : ∃ W, W = (w.alloc (.cells #[.pointer (some ⟨a, 0, none⟩)] 23 (0, 0))).alloc (.cells #[.int .i64 0] 28 (0, 0)) := ⟨_, rfl⟩
  obtain ⟨b0, z0, z1⟩ := two_boxes _ _ hW
  have hP := h.step b0
  have hma := vmade_any hP
  have hst := fun hon => vputSnap_any hP hk hon ho (hT.below b0) t ht
  obtain ⟨⟨c0, c1, c2, c3, c4, c5⟩, _⟩ := six_cells hP.box
  obtain ⟨k0, _⟩ := one_cell12 z0
  obtain ⟨r0, r1⟩ := one_cell12 z1
  have hal : a < w.heap.size := h.lt
  have hlt := h.dev.lt
  by_cases hS : v.shut = true
  · have hR : v.snapR t.data.toList = 23 := by unfold Vt.snapR; rw [if_pos hS]
    have hX : v.snap t.data.toList = v := by unfold Vt.snap; rw [if_pos hS]
    rw [hR, hX]
    rw [hS] at c5
    have HP := Lib.hid hP
    have HB := Lib.hid (Buts.of_below (a := a) (b := b) (g := g) (m := m) b0)
    have HC := Lib.hid ((HB.out.cell (r := w.heap.size + 1) (j := 0) (.int .i64 23) (Or.inr (by omega))))
    have HPC := Lib.hid (hP.set_far (w.heap.size + 1) 0 (.int .i64 23) (by omega) (by omega) (by omega) (by omega))
    clear hst hR hX hS hk ho hT ht b0 z0 z1 hP h hal hlt
    go_enter_defers Tryz.func19, Tryz.ntmps19
    go_upto_region 1 with fail
    rw [← hW]
    clear hW
    go_wp2_with (go_at_call 25; refine hma.mono ?_; rintro e w1 ⟨rfl, rfl⟩)
    refine ⟨.int .i64 23, ?_, rfl, HPC.out, HC.out⟩
    simp [results, Tryz.results19, go_sem, r0]
  · have hS2 : v.shut = false := by simpa using hS
    obtain ⟨E, hE⟩ : ∃ E, snapE v.d v.s t.data.toList = E := ⟨_, rfl⟩
    obtain ⟨bb, hbb⟩ : ∃ bb, (E == 20) = bb := ⟨_, rfl⟩
    have hR : v.snapR t.data.toList = E := by unfold Vt.snapR; rw [if_neg hS, hE]
    have hX : v.snap t.data.toList = { v.snap0 t.data.toList with shut := bb } := by
      unfold Vt.snap
      rw [if_neg hS, hE, ← hbb]
      congr 1
    rw [hR, hX]
    rw [hS2] at c5
    have hst := hst hS2
    rw [hE] at hst
    have hsh : (v.snap0 t.data.toList).shut = v.shut := by unfold Vt.snap0; split <;> rfl
    generalize v.snap0 t.data.toList = V1 at *
    have HP := Lib.hid hP
    have HB := Lib.hid (Buts.of_below (a := a) (b := b) (g := g) (m := m) b0)
    have HZ := Lib.hid (And.intro z0 z1)
    have HL := Lib.hid (And.intro hal hlt)
    clear hR hX hS hS2 hE hk ho hT ht b0 z0 z1 hP h hal hlt hsh
    go_enter_defers Tryz.func19, Tryz.ntmps19
    go_upto_region 1 with fail
    rw [← hW]
    clear hW
    go_upto_region 6 with (go_at_call 25; refine hma.mono ?_; rintro e w1 ⟨rfl, rfl⟩)
    go_wp2_with (go_at_call 21; refine hst.mono ?_; rintro e w2 ⟨rfl, hp2, hb2⟩; have HP2 := Lib.hid hp2; have HB2 := Lib.hid hb2; have hz2 := hb2.obj HZ.out.2 (by have := HL.out; omega) (by have := HL.out; omega) (by have := HL.out; omega) (by have := HL.out; omega); have HZ2 := Lib.hid hz2; obtain ⟨r0, r1⟩ := one_cell12 hz2; clear hp2 hb2 hz2)
    have hl := HL.out
    obtain ⟨W3, hW3⟩ : ∃ W3, W3 = w2.setCell ⟨w.heap.size + 1, 0, none⟩ (.int .i64 E) := ⟨_, rfl⟩
    have y0 : W3.heap[w.heap.size + 1]? = some (.cells #[.int .i64 E] 28 (0, 0)) := by rw [hW3]; exact heap_setCell_same w2 _ 0 _ _ _ HZ2.out
    have y1 : W3.heap[w.heap.size]? = some (.cells #[.pointer (some ⟨a, 0, none⟩)] 23 (0, 0)) := by rw [hW3, cell_else _ _ _ _ _ (by omega)]; exact HB2.out.obj HZ.out.1 (by omega) (by omega) (by omega) (by omega)
    have y2 : PV W3 a b g cap m V1 := by rw [hW3]; exact HP2.out.set_far _ _ _ (by omega) (by omega) (by omega) (by omega)
    have y3 : Buts a b g m w W3 := by rw [hW3]; exact (HB.out.trans HB2.out).cell _ (Or.inr (by omega))
    obtain ⟨⟨_, _, _, _, _, x5⟩, _, _, _, xf⟩ := six_cells y2.box
    rw [← hW3]
    clear hW3
    refine leaves_cons (f := 36) (args := #[.pointer (some ⟨w.heap.size + 1, 0, none⟩), .pointer (some ⟨w.heap.size, 0, none⟩)]) (by simp) (by simp [go_sem]) ?_
    refine (vend_d a w.heap.size (w.heap.size + 1) E bb V1.shut hbb .returning W3 (one_cell12 y0).1 (one_cell12 y1).1 x5 xf).mono ?_
    rintro e u' w4 ⟨rfl, rfl, rfl⟩
    have y4 : (W3.setCell ⟨a, 5, none⟩ (.bool bb)).heap[w.heap.size + 1]? = some (.cells #[.int .i64 E] 28 (0, 0)) := (cell_else _ _ _ _ _ (by omega)).trans y0
    obtain ⟨y5, _⟩ := one_cell12 y4
    refine ⟨.int .i64 E, ?_, rfl, y2.set_shut bb, y3.cell _ (Or.inl rfl)⟩
    simp [results, Tryz.results19, go_sem, y5]
theorem vappend_any {w : World} {a b g cap m : Nat} {v : Vt} (h : PV w a b g cap m v) (hk : v.Ok) (ho : v.d.ops < 9223372036854700000) (hT : Tab w) (t : ByteArray) (ht : t.size ≤ 281474976710656) :
    Calls Tryz.prog 6 #[.pointer (some ⟨a, 0, none⟩), .string t] w fun e w' => e = .returned (.int .i64 (v.appR t.data.toList)) ∧ PV w' a b g cap m (v.append t.data.toList) ∧ Buts a b g m w w' := by
  have hmf : ∀ (fn : Fn) (first cap : Array Value) (w : World), (Instr.makeFunc fn first cap).run Tryz.prog w = .ok (.func fn first cap) w := fun _ _ _ _ => rfl
  have hta := vtakeF_any h hk ho hT t ht
  generalize v.appR t.data.toList = E at *
  generalize v.append t.data.toList = V1 at *
  clear h hk ho hT ht
  go_enter Tryz.func6, Tryz.ntmps6
  go_wp2_with (go_at_call 19; refine hta.mono ?_; rintro e w1 ⟨rfl, hp, hb⟩)
  go_ret
  exact ⟨rfl, hp, hb⟩
theorem vsnap_any {w : World} {a b g cap m : Nat} {v : Vt} (h : PV w a b g cap m v) (hk : v.Ok) (ho : v.d.ops < 9223372036854700000) (hT : Tab w) (t : ByteArray) (ht : t.size ≤ 281474976710656) :
    Calls Tryz.prog 7 #[.pointer (some ⟨a, 0, none⟩), .string t] w fun e w' => e = .returned (.int .i64 (v.snapR t.data.toList)) ∧ PV w' a b g cap m (v.snap t.data.toList) ∧ Buts a b g m w w' := by
  have hmf : ∀ (fn : Fn) (first cap : Array Value) (w : World), (Instr.makeFunc fn first cap).run Tryz.prog w = .ok (.func fn first cap) w := fun _ _ _ _ => rfl
  have hta := vtakeS_any h hk ho hT t ht
  generalize v.snapR t.data.toList = E at *
  generalize v.snap t.data.toList = V1 at *
  clear h hk ho hT ht
  go_enter Tryz.func7, Tryz.ntmps7
  go_wp2_with (go_at_call 19; refine hta.mono ?_; rintro e w1 ⟨rfl, hp, hb⟩)
  go_ret
  exact ⟨rfl, hp, hb⟩
end Go.Proofs.YtcbmecpeockdeaaGreatDoor
