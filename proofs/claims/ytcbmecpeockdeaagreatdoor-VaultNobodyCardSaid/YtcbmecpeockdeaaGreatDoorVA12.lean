/- The program's vault, as it lies in memory, what a call may change of it, and its small calls. -/
import Derived.Test.YtcbmecpeockdeaaGreatDoorMApp11
import Derived.Test.YtcbmecpeockdeaaGreatDoorMSlotA9
import Derived.Test.YtcbmecpeockdeaaGreatDoorMWrite8
import Derived.Test.YtcbmecpeockdeaaGreatDoorTrC11
import Derived.Deep.RegionWith
import Derived.BigQuiet
import Derived.StillTailTactics
namespace Go.Proofs.YtcbmecpeockdeaaGreatDoor
open Go.RowKit Go.Maps

/-- Nothing that was there has changed but what lies in four blocks. -/
structure Buts (a b g m : Nat) (w w' : World) : Prop where
  os : w'.os = w.os
  tape : w'.tape = w.tape
  output : w'.output = w.output
  size : w.heap.size ≤ w'.heap.size
  block : ∀ k, k < w.heap.size → k ≠ a → k ≠ b → k ≠ g → k ≠ m → w'.heap[k]? = w.heap[k]?
theorem Buts.refl (a b g m : Nat) (w : World) : Buts a b g m w w := ⟨rfl, rfl, rfl, Nat.le_refl _, fun _ _ _ _ _ _ => rfl⟩
theorem Buts.trans {a b g m : Nat} {x y z : World} (h : Buts a b g m x y) (k : Buts a b g m y z) : Buts a b g m x z :=
  ⟨k.os.trans h.os, k.tape.trans h.tape, k.output.trans h.output, Nat.le_trans h.size k.size, fun i hi h0 h1 h2 h3 => (k.block i (Nat.lt_of_lt_of_le hi h.size) h0 h1 h2 h3).trans (h.block i hi h0 h1 h2 h3)⟩
theorem Buts.below {a b g m B : Nat} {w w' : World} (h : Buts a b g m w w') (h0 : B ≤ a) (h1 : B ≤ b) (h2 : B ≤ g) (h3 : B ≤ m) (hB : B ≤ w.heap.size) : Below B w w' :=
  ⟨h.os, h.tape, h.output, h.size, fun k hk => h.block k (by omega) (by omega) (by omega) (by omega) (by omega)⟩
theorem Buts.of_below {a b g m : Nat} {w w' : World} (h : Below w.heap.size w w') : Buts a b g m w w' := ⟨h.os, h.tape, h.output, h.size, fun k hk _ _ _ _ => h.block k hk⟩
theorem Buts.of_but {a b g m : Nat} {w w' : World} (h : But b g m w w') : Buts a b g m w w' := ⟨h.os, h.tape, h.output, h.size, fun k hk _ h1 h2 h3 => h.block k hk h1 h2 h3⟩
theorem Buts.step {a b g m : Nat} {x w w' : World} (k : Buts a b g m x w) (h : Below w.heap.size w w') : Buts a b g m x w' := k.trans (Buts.of_below h)
theorem Buts.drew {a b g m : Nat} {x w : World} (k : Buts a b g m x w) : Buts a b g m x w.drew := k.step (Below.refl _ w).drew
theorem Buts.cell {a b g m : Nat} {x w : World} (k : Buts a b g m x w) {r j : Nat} (v : Value) (hr : r = a ∨ x.heap.size ≤ r) : Buts a b g m x (w.setCell ⟨r, j, none⟩ v) :=
  ⟨k.os, k.tape, k.output, by simpa [World.setCell] using k.size, fun i hi h0 h1 h2 h3 => (Below.heap_setCell _ _ _ _ (show i ≠ r by omega)).trans (k.block i hi h0 h1 h2 h3)⟩
theorem Buts.obj {a b g m : Nat} {w w' : World} (h : Buts a b g m w w') {k : Nat} {o : Obj} (ho : w.heap[k]? = some o) (h0 : k ≠ a) (h1 : k ≠ b) (h2 : k ≠ g) (h3 : k ≠ m) : w'.heap[k]? = some o := (h.block k (obj_lt ho) h0 h1 h2 h3).trans ho

theorem six_cells {w : World} {g : Nat} {x y z u v s : Value} {t : TypeId} (h : w.heap[g]? = some (.cells #[x, y, z, u, v, s] t (0, 0))) :
    (w.cell? ⟨g, 0, none⟩ = some x ∧ w.cell? ⟨g, 1, none⟩ = some y ∧ w.cell? ⟨g, 2, none⟩ = some z ∧ w.cell? ⟨g, 3, none⟩ = some u ∧ w.cell? ⟨g, 4, none⟩ = some v ∧ w.cell? ⟨g, 5, none⟩ = some s) ∧ w.frozen? ⟨g, 2, none⟩ = false ∧ w.frozen? ⟨g, 3, none⟩ = false ∧ w.frozen? ⟨g, 4, none⟩ = false ∧ w.frozen? ⟨g, 5, none⟩ = false :=
  ⟨⟨cell_of (j := 0) h rfl, cell_of (j := 1) h rfl, cell_of (j := 2) h rfl, cell_of (j := 3) h rfl, cell_of (j := 4) h rfl, cell_of (j := 5) h rfl⟩, frozen_of_row w _ 2 _ _ h, frozen_of_row w _ 3 _ _ h, frozen_of_row w _ 4 _ _ h, frozen_of_row w _ 5 _ _ h⟩
/-- The program's vault: its block, and its device. -/
structure PV (w : World) (a b g cap m : Nat) (v : Vt) : Prop where
  box : w.heap[a]? = some (.cells #[.pointer (some ⟨b, 0, none⟩), .int .i64 v.s, .int .i64 v.ep, .int .i64 v.sq, .int .i64 v.p, .bool v.shut] 26 (0, 0))
  dev : PDev w b g cap m v.d
  far : a ≠ b ∧ a ≠ g ∧ a ≠ m
theorem PV.step {w w' : World} {a b g cap m : Nat} {v : Vt} (h : PV w a b g cap m v) (hb : Below w.heap.size w w') : PV w' a b g cap m v := ⟨old_obj hb h.box, h.dev.step hb, h.far⟩
theorem PV.drew {w : World} {a b g cap m : Nat} {v : Vt} (h : PV w a b g cap m v) : PV w.drew a b g cap m v := ⟨h.box, h.dev.drew, h.far⟩
theorem PV.drewN {w : World} {a b g cap m : Nat} {v : Vt} (h : PV w a b g cap m v) (n : Nat) : PV (w.drewN n) a b g cap m v := ⟨h.box, h.dev.kept rfl rfl rfl, h.far⟩
theorem PV.lt {w : World} {a b g cap m : Nat} {v : Vt} (h : PV w a b g cap m v) : a < w.heap.size := obj_lt h.box
/-- The numbers of a vault are in their limits. -/
structure Vt.Ok (v : Vt) : Prop where
  dev : v.d.Ok
  s1 : 1 ≤ v.s ∧ v.s ≤ 500 ∧ 2 * v.s < v.d.cells.length
  sq : 0 ≤ v.sq ∧ v.sq ≤ 1000000
  at_ : 0 ≤ v.p ∧ v.p ≤ v.n
theorem vmade_any {w : World} {a b g cap m : Nat} {v : Vt} (h : PV w a b g cap m v) :
    Calls Tryz.prog 25 #[.pointer (some ⟨a, 0, none⟩)] w fun e w' => e = .returned (.bool true) ∧ w = w' := by
  obtain ⟨⟨c0, c1, c2, c3, c4, c5⟩, _⟩ := six_cells h.box
  clear h
  go_enter Tryz.func25, Tryz.ntmps25
  go_wp2
  go_ret
  exact ⟨rfl, rfl⟩
theorem vclosed_any {w : World} {a b g cap m : Nat} {v : Vt} (h : PV w a b g cap m v) :
    Calls Tryz.prog 12 #[.pointer (some ⟨a, 0, none⟩)] w fun e w' => e = .returned (.bool v.shut) ∧ w = w' := by
  obtain ⟨⟨c0, c1, c2, c3, c4, c5⟩, _⟩ := six_cells h.box
  have hm := vmade_any h
  generalize v.shut = S at *
  clear h
  go_enter Tryz.func12, Tryz.ntmps12
  go_wp2_with (go_at_call 25; refine hm.mono ?_; rintro e w1 ⟨rfl, rfl⟩)
  go_ret
  exact ⟨rfl, rfl⟩
theorem vepoch_any {w : World} {a b g cap m : Nat} {v : Vt} (h : PV w a b g cap m v) :
    Calls Tryz.prog 10 #[.pointer (some ⟨a, 0, none⟩)] w fun e w' => e = .returned (.int .i64 v.ep) ∧ w = w' := by
  obtain ⟨⟨c0, c1, c2, c3, c4, c5⟩, _⟩ := six_cells h.box
  clear h
  go_enter Tryz.func10, Tryz.ntmps10
  go_wp2
  go_ret
  exact ⟨rfl, rfl⟩
theorem vseq_any {w : World} {a b g cap m : Nat} {v : Vt} (h : PV w a b g cap m v) :
    Calls Tryz.prog 11 #[.pointer (some ⟨a, 0, none⟩)] w fun e w' => e = .returned (.int .i64 v.sq) ∧ w = w' := by
  obtain ⟨⟨c0, c1, c2, c3, c4, c5⟩, _⟩ := six_cells h.box
  clear h
  go_enter Tryz.func11, Tryz.ntmps11
  go_wp2
  go_ret
  exact ⟨rfl, rfl⟩
set_option maxRecDepth 100000 in
set_option maxHeartbeats 1000000 in
theorem vjournal_any {w : World} {a b g cap m : Nat} {v : Vt} (h : PV w a b g cap m v) (hk : v.Ok) :
    Calls Tryz.prog 23 #[.pointer (some ⟨a, 0, none⟩)] w fun e w' => e = .returned (.agg #[.int .i64 v.f, .int .i64 v.n]) ∧ Below w.heap.size w w' := by
  have hs := hk.s1
  have hf := hk.dev.few
  obtain ⟨W, hW⟩ : ∃ W, W = w.alloc (.cells #[.int .i64 0, .int .i64 0] 55 (0, 0)) := ⟨_, rfl⟩
  have b0 : Below w.heap.size w W := by rw [hW]; exact (Below.refl _ w).alloc (Nat.le_refl _) _
  have z0 : W.heap[w.heap.size]? = some (.cells #[.int .i64 0, .int .i64 0] 55 (0, 0)) := by rw [hW]; exact heap_alloc_new w _
  have hP := h.step b0
  have hsz : Calls Tryz.prog 44 #[.pointer (some ⟨b, 0, none⟩)] W.drew fun e w' => e = .returned (.int .i64 v.d.cells.length) ∧ w' = W.drew := (psize_any hP.drew.dev).mono fun _ _ ⟨x, y⟩ => ⟨x, y.symm⟩
  obtain ⟨⟨c0, c1, c2, c3, c4, c5⟩, _⟩ := six_cells hP.box
  have i1 : IntKind.i64.wrap (2 * (v.s : Int)) = v.f := IntWalk.i64_in _ (by omega)
  have i2 : IntKind.i64.wrap ((v.d.cells.length : Int) - v.f) = v.n := by
    unfold Vt.f Vt.n
    exact IntWalk.i64_in _ (by omega)
  have B0 := Lib.hid b0
  have Z0 := Lib.hid z0
  generalize v.f = F at *
  generalize v.n = N at *
  generalize v.d.cells.length = L at *
  generalize v.s = S at *
  clear hs hf h hP hk b0 z0 c2 c3 c4 c5
  go_enter Tryz.func23, Tryz.ntmps23
  go_upto_region 1 with fail
  rw [← hW]
  clear hW
  refine wp_region_still_tail 17 (by kernel_rfl) (by kernel_rfl) ?_
  change wpStill Tryz.prog _ W.drew (fun a' => wpList Tryz.prog _ _ _ a' W.drew) _ _
  have d0 : W.drew.cell? ⟨a, 0, none⟩ = some (.pointer (some ⟨b, 0, none⟩)) := c0
  have d1 : W.drew.cell? ⟨a, 1, none⟩ = some (.int .i64 S) := c1
  have hb2 := B0.out.drew
  have z2 : W.drew.heap[w.heap.size]? = some (.cells #[.int .i64 0, .int .i64 0] 55 (0, 0)) := Z0.out
  clear c0 c1
  generalize W.drew = V at *
  simp only [List.take_succ_cons, List.take_zero, List.drop_succ_cons, List.drop_zero]
  repeat still_step
  still_call hsz
  repeat still_step
  refine wpStill_nil ?_
  have HB := Lib.hid hb2
  have HZ := Lib.hid (two_stored9 z2 (.int .i64 F) (.int .i64 N))
  have q0 := cell_of (j := 0) z2 rfl
  have q1 := cell_of (j := 1) z2 rfl
  have q2 := frozen_of_row V w.heap.size 0 _ _ z2
  have q3 := frozen_of_row V w.heap.size 1 _ _ z2
  clear d0 d1 hsz hb2 z2
  go_wp2
  refine bodyPost_ret (results_cell_row rfl _ _ w.heap.size 55 _ _ _ rfl HZ.out Tryz.underlying55 rfl (by kernel_rfl)) rfl ?_
  exact ⟨rfl, two_below9 HB.out (Nat.le_refl _) _ _⟩
theorem readT_exact {d : Dv} (hd : d.Ok) (s : Nat) (h : d.readE 0 (2 * (s : Int)) = 0) : (d.readT 0 (2 * (s : Int))).size = 128 * s := by
  have h2 := h
  unfold Dv.readE at h2
  split at h2
  · omega
  split at h2
  · omega
  split at h2
  · rename_i q
    unfold Dv.readT
    rw [if_pos h, cat_size _ fun t ht => by
      obtain ⟨c, hc, rfl⟩ := List.mem_map.1 ht
      exact (hd.fit c (List.mem_of_mem_drop (List.mem_of_mem_take hc))).1]
    rw [List.length_map, List.length_take, List.length_drop]
    omega
  · omega
set_option maxHeartbeats 1000000 in
theorem vheld_any {w : World} {a b g cap m : Nat} {v : Vt} (h : PV w a b g cap m v) (hk : v.Ok) :
    Calls Tryz.prog 27 #[.pointer (some ⟨a, 0, none⟩)] w fun e w' => e = .returned (.tuple #[.string (tx (heldA v.d v.s)), .string (tx (heldB v.d v.s)), .int .i64 (heldE v.d v.s)]) ∧ Below w.heap.size w w' := by
  have hs := hk.s1
  have hf := hk.dev.few
  have hrd := pread_any h.drew.dev hk.dev 0 (2 * (v.s : Int)) (by omega)
  have HP := Lib.hid h.drew
  obtain ⟨⟨c0, c1, c2, c3, c4, c5⟩, _⟩ := six_cells h.box
  have i1 : IntKind.i64.wrap (2 * (v.s : Int)) = 2 * (v.s : Int) := IntWalk.i64_in _ (by omega)
  have i2 : IntKind.i64.wrap ((v.s : Int) * 64) = ((64 * v.s : Nat) : Int) := by rw [show (v.s : Int) * 64 = ((64 * v.s : Nat) : Int) by omega]; exact IntWalk.i64_in _ (by omega)
  obtain ⟨E, hE⟩ : ∃ E, v.d.readE 0 (2 * (v.s : Int)) = E := ⟨_, rfl⟩
  have hEh : heldE v.d v.s = E := hE
  by_cases hz : E = 0
  · subst hz
    have hA : heldA v.d v.s = (heldT v.d v.s).take (64 * v.s) := by unfold heldA; rw [if_pos hEh]
    have hB : heldB v.d v.s = (heldT v.d v.s).drop (64 * v.s) := by unfold heldB; rw [if_pos hEh]
    have hTs := readT_exact hk.dev v.s hE
    obtain ⟨T, hT⟩ : ∃ T, v.d.readT 0 (2 * (v.s : Int)) = T := ⟨_, rfl⟩
    rw [hT] at hTs
    have k1 := fun u => cut_to T ((64 * v.s : Nat) : Int) (by omega) (by omega) u
    have k2 := fun u => cut_from T ((64 * v.s : Nat) : Int) (by omega) (by omega) u
    have t1 : T.extract 0 ((64 * v.s : Nat) : Int).toNat = tx (heldA v.d v.s) := tx_of (by rw [cut_list, hA]; unfold heldT; rw [hT, List.drop_zero, Nat.sub_zero, Int.toNat_natCast])
    have t2 : T.extract ((64 * v.s : Nat) : Int).toNat T.size = tx (heldB v.d v.s) := tx_of (by
      rw [cut_list, hB]; unfold heldT; rw [hT]
      rw [List.take_of_length_le (by rw [List.length_drop, text_size]; omega)]
      rfl)
    rw [t1] at k1
    rw [t2] at k2
    rw [hE, hT] at hrd
    rw [hEh]
    generalize heldA v.d v.s = A at *
    generalize heldB v.d v.s = B at *
    generalize ((64 * v.s : Nat) : Int) = S64 at *
    clear hE hEh hA hB hT hTs t1 t2 hs hf hk h c2 c3 c4 c5
    go_enter Tryz.func27, Tryz.ntmps27
    go_upto_region 1 with fail
    go_region_with (go_at_call 46; refine hrd.mono ?_; rintro e w1 ⟨rfl, hb1⟩; have HP1 := Lib.hid (HP.out.step hb1); have B1 := Lib.hid hb1; obtain ⟨⟨e0, e1, _⟩, _⟩ := six_cells HP1.out.box; clear hb1)
    all_goals
      go_upto_region 5 with fail
      go_quiet (fail)
      go_wp2
      go_ret3
      exact ⟨rfl, (Below.refl _ w).drew.trans (B1.out.trans ((below_drewN _ nq).mono B1.out.size))⟩
  · have hA : heldA v.d v.s = [] := by unfold heldA; rw [if_neg (by rw [hEh]; exact hz)]
    have hB : heldB v.d v.s = [] := by unfold heldB; rw [if_neg (by rw [hEh]; exact hz)]
    have e1 : (E != 0) = true := bne_iff_ne.2 hz
    rw [hA, hB, hEh]
    rw [hE] at hrd
    generalize v.d.readT 0 (2 * (v.s : Int)) = T at *
    clear hE hEh hA hB hs hf hk h c2 c3 c4 c5 hz
    go_enter Tryz.func27, Tryz.ntmps27
    go_upto_region 1 with fail
    go_region_with (go_at_call 46; refine hrd.mono ?_; rintro e w1 ⟨rfl, hb1⟩; have B1 := Lib.hid hb1; clear hb1)
    all_goals
      go_wp2
      go_ret3
      exact ⟨rfl, (Below.refl _ w).drew.trans B1.out⟩
theorem vfits_any {w : World} {a b g cap m : Nat} {v : Vt} (h : PV w a b g cap m v) (t : ByteArray) (ht : t.size ≤ 281474976710656) :
    Calls Tryz.prog 9 #[.pointer (some ⟨a, 0, none⟩), .string t] w fun e w' => e = .returned (.bool (v.fits t.data.toList)) ∧ Below w.heap.size w w' := by
  have hcl : ∀ n, Calls Tryz.prog 12 #[.pointer (some ⟨a, 0, none⟩)] (w.drewN n) fun e w' => e = .returned (.bool v.shut) ∧ w' = w.drewN n := fun n => (vclosed_any (h.drewN n)).mono fun _ _ ⟨x, y⟩ => ⟨x, y.symm⟩
  have hse : ∀ u : World, Calls Tryz.prog 24 #[.string t] u fun e w' => e = .returned (.int .i64 (sect9 t.size : Nat)) ∧ w' = u := fun u => (sects_any t ht u).mono fun _ _ ⟨x, y⟩ => ⟨x, y.symm⟩
  obtain ⟨⟨c0, c1, c2, c3, c4, c5⟩, _⟩ := six_cells h.box
  have hL : t.data.toList.length = t.size := text_size t
  by_cases hS : v.shut = true
  · have hR : v.fits t.data.toList = false := by unfold Vt.fits; rw [hS]; rfl
    rw [hR]
    rw [hS] at hcl
    clear hR hS h hL
    go_enter Tryz.func9, Tryz.ntmps9
    go_upto_region 1 with fail
    go_quiet ((go_at_call 12; exact Calls.quiet_of_same (hcl _)))
    go_wp2
    go_ret
    exact ⟨rfl, below_drewN w nq⟩
  · have hS2 : v.shut = false := by simpa using hS
    obtain ⟨bb, hbb⟩ : ∃ bb, decide (sect9 t.size ≤ v.s) = bb := ⟨_, rfl⟩
    have hR : v.fits t.data.toList = bb := by
      unfold Vt.fits fits12
      rw [hS2, hL, ← hbb]
      rfl
    rw [hR]
    rw [hS2] at hcl
    generalize sect9 t.size = Q at *
    clear hR hS hS2 h hL
    go_enter Tryz.func9, Tryz.ntmps9
    go_upto_region 1 with fail
    go_quiet ((first
      | (go_at_call 12; exact Calls.quiet_of_same (hcl _))
      | (go_at_call 24; exact Calls.quiet_of_same (hse _))))
    go_wp2
    go_ret
    exact ⟨rfl, below_drewN w nq⟩
set_option maxHeartbeats 1000000 in
theorem vroom_any {w : World} {a b g cap m : Nat} {v : Vt} (h : PV w a b g cap m v) (hk : v.Ok) (t : ByteArray) (ht : t.size ≤ 281474976710656) :
    Calls Tryz.prog 8 #[.pointer (some ⟨a, 0, none⟩), .string t] w fun e w' => e = .returned (.bool (v.room t.data.toList)) ∧ Below w.heap.size w w' := by
  have hcl := vclosed_any h.drew
  have hclq : ∀ n, Calls Tryz.prog 12 #[.pointer (some ⟨a, 0, none⟩)] (w.drewN n) fun e w' => e = .returned (.bool v.shut) ∧ w' = w.drewN n := fun n => (vclosed_any (h.drewN n)).mono fun _ _ ⟨x, y⟩ => ⟨x, y.symm⟩
  have hjo := fun u (hu : PV u a b g cap m v) => vjournal_any hu hk
  have hn : v.n ≤ 9223372036854775807 := by have := hk.dev.few; have := hk.s1; unfold Vt.n; omega
  have hrm := fun u => proom_any v.f v.n v.p hk.at_ hn t ht u
  have HP := Lib.hid h.drew
  obtain ⟨⟨c0, c1, c2, c3, c4, c5⟩, _⟩ := six_cells h.box
  have hL : t.data.toList.length = t.size := text_size t
  by_cases hS : v.shut = true
  · have hR : v.room t.data.toList = false := by unfold Vt.room; rw [hS]; rfl
    rw [hR]
    rw [hS] at hclq
    clear hR hS h hL hjo hrm hcl
    go_enter Tryz.func8, Tryz.ntmps8
    go_upto_region 1 with fail
    go_quiet ((go_at_call 12; exact Calls.quiet_of_same (hclq _)))
    go_wp2
    go_ret
    exact ⟨rfl, below_drewN w nq⟩
  · have hS2 : v.shut = false := by simpa using hS
    have hR : v.room t.data.toList = fits11 v.n v.p t.size := by
      unfold Vt.room
      rw [hS2, hL]
      rfl
    rw [hR]
    rw [hS2] at hcl
    generalize fits11 v.n v.p t.size = Q at *
    generalize v.n = N at *
    generalize v.f = F at *
    have HC := Lib.hid (fun u (hu : PV u a b g cap m v) => (six_cells hu.box).1.2.2.2.2.1)
    have c4d : w.drew.cell? ⟨a, 4, none⟩ = some (.int .i64 v.p) := c4
    generalize v.p = P at *
    clear hR hS hS2 h hL hn hclq
    go_enter Tryz.func8, Tryz.ntmps8
    go_upto_region 1 with fail
    go_region_with (first
      | (go_at_call 12; refine hcl.mono ?_; rintro e w1 ⟨rfl, rfl⟩)
      | (go_at_call 23; refine (hjo _ HP.out).mono ?_; rintro e w2 ⟨rfl, hb2⟩; have B2 := Lib.hid hb2; have c4' := HC.out _ (HP.out.step hb2); clear hb2)
      | (go_at_call 22; refine (hrm _).mono ?_; rintro e w3 ⟨rfl, hb3⟩; have B3 := Lib.hid hb3; clear hb3))
    all_goals
      go_wp2
      go_ret
      exact ⟨rfl, (Below.refl _ w).drew.trans (B2.out.trans (B3.out.mono B2.out.size))⟩
end Go.Proofs.YtcbmecpeockdeaaGreatDoor
