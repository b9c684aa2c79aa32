/- The program's Check and Room of parts of a device, for every part, in every world. -/
import Derived.Test.YtcbmecpeockdeaaGreatDoorCall8
import Derived.Test.YtcbmecpeockdeaaGreatDoorFrmA10
import Derived.Test.YtcbmecpeockdeaaGreatDoorMApp11
import Derived.Deep.RegionWith
namespace Go.Proofs.YtcbmecpeockdeaaGreatDoor
open Go.RowKit

theorem preach_any (f s p : Int) (w : World) :
    Calls Tryz.prog 42 #[.agg #[.int .i64 f, .int .i64 s], .int .i64 p] w fun e w' => e = .returned (.bool (decide (0 ≤ p ∧ p ≤ s))) ∧ Below w.heap.size w w' := by
  have HB : Hid (∀ o : Obj, Below w.heap.size w (w.alloc o)) := Lib.hid fun o => (Below.refl _ w).alloc (Nat.le_refl _) o
  by_cases h1 : 0 ≤ p
  · have e1 : decide (0 ≤ p) = true := decide_eq_true h1
    by_cases h2 : p ≤ s
    · have e2 : decide (p ≤ s) = true := decide_eq_true h2
      have e3 : decide (0 ≤ p ∧ p ≤ s) = true := decide_eq_true ⟨h1, h2⟩
      rw [e3]
      clear h1 h2 e3
      go_enter Tryz.func42, Tryz.ntmps42
      go_wp2
      go_ret
      exact ⟨rfl, HB.out _⟩
    · have e2 : decide (p ≤ s) = false := decide_eq_false h2
      have e3 : decide (0 ≤ p ∧ p ≤ s) = false := decide_eq_false (by omega)
      rw [e3]
      clear h1 h2 e3
      go_enter Tryz.func42, Tryz.ntmps42
      go_wp2
      go_ret
      exact ⟨rfl, HB.out _⟩
  · have e1 : decide (0 ≤ p) = false := decide_eq_false h1
    have e3 : decide (0 ≤ p ∧ p ≤ s) = false := decide_eq_false (by omega)
    rw [e3]
    clear h1 e3
    go_enter Tryz.func42, Tryz.ntmps42
    go_wp2
    go_ret
    exact ⟨rfl, HB.out _⟩
set_option maxHeartbeats 1000000 in
theorem proom_any (f s p : Int) (h1 : 0 ≤ p ∧ p ≤ s) (hs1 : s ≤ 9223372036854775807) (t : ByteArray) (ht : t.size ≤ 281474976710656) (w : World) :
    Calls Tryz.prog 22 #[.agg #[.int .i64 f, .int .i64 s], .int .i64 p, .string t] w fun e w' => e = .returned (.bool (fits11 s p t.size)) ∧ Below w.heap.size w w' := by
  obtain ⟨W, hW⟩ : ∃ W, W = w.alloc (.cells #[.int .i64 f, .int .i64 s] 55 (0, 0)) := ⟨_, rfl⟩
  have b0 : Below w.heap.size w W := by rw [hW]; exact (Below.refl _ w).alloc (Nat.le_refl _) _
  have z0 : W.heap[w.heap.size]? = some (.cells #[.int .i64 f, .int .i64 s] 55 (0, 0)) := by rw [hW]; exact heap_alloc_new w _
  have c0 := cell_of (j := 0) z0 rfl
  have c1 := cell_of (j := 1) z0 rfl
  have B0 := Lib.hid b0
  have Z0 := Lib.hid z0
  clear b0 z0
  have hr := fun v => preach_any f s p v
  have hse := fun v => psects_any t ht v
  rw [decide_eq_true h1] at hr
  have hw : IntKind.i64.wrap (s - p) = s - p := IntWalk.i64_in _ (by omega)
  obtain ⟨bb, hbb⟩ : ∃ bb, decide (((nsec t.size : Nat) : Int) ≤ s - p) = bb := ⟨_, rfl⟩
  have hf : fits11 s p t.size = bb := by
    rw [← hbb]
    unfold fits11
    by_cases q : ((nsec t.size : Nat) : Int) ≤ s - p
    · rw [decide_eq_true q, decide_eq_true ⟨h1.1, h1.2, q⟩]
    · rw [decide_eq_false q, decide_eq_false (fun x => q x.2.2)]
  rw [hf]
  clear h1 ht hs1 hf
  go_enter Tryz.func22, Tryz.ntmps22
  go_upto_region 1 with fail
  rw [← hW]
  clear hW
  go_region_with (first
    | (go_at_call 42; refine (hr _).mono ?_; rintro e w1 ⟨rfl, hb1⟩; have HB1 := Lib.hid hb1; clear hb1; have c1' := cell_of (j := 1) (old_obj HB1.out Z0.out) rfl)
    | (go_at_call 43; refine (hse _).mono ?_; rintro e w2 ⟨rfl, rfl⟩))
  all_goals
    go_wp2
    go_ret
    exact ⟨rfl, B0.out.drew.trans (HB1.out.mono B0.out.size)⟩
/-- Check tells whether an area is one of the device. -/
theorem ptcheck_any {w : World} {b g cap m : Nat} {d : Dv} (h : PDev w b g cap m d) (hd : d.Ok) (f s : Int) (hs1 : s ≤ 9223372036854775807) :
    Calls Tryz.prog 49 #[.pointer (some ⟨b, 0, none⟩), .agg #[.int .i64 f, .int .i64 s]] w fun e w' => e = .returned (.int .i64 (areaE d.cells.length f s)) ∧ Below w.heap.size w w' := by
  have HB : Hid (∀ o : Obj, Below w.heap.size w (w.alloc o)) := Lib.hid fun o => (Below.refl _ w).alloc (Nat.le_refl _) o
  have hs := fun o : Obj => psize_any (h.step ((Below.refl _ w).alloc (Nat.le_refl _) o))
  have h0 := hd.some
  have h2 := hd.few
  obtain ⟨L, hL⟩ : ∃ L, d.cells.length = L := ⟨_, rfl⟩
  simp only [hL] at hs h0 h2 ⊢
  have e0 : ((L : Int) == 0) = false := by rw [beq_eq_false_iff_ne]; omega
  clear hL h hd
  by_cases q1 : s < 1
  · have e1 : decide (s < 1) = true := decide_eq_true q1
    have hA : areaE L f s = 2 := by unfold areaE; rw [if_neg (by omega)]
    rw [hA]
    clear hA h0 h2 q1 hs1
    go_enter Tryz.func49, Tryz.ntmps49
    go_wp2_with (go_at_call 44; refine (hs _).mono ?_; rintro e w1 ⟨rfl, rfl⟩)
    go_ret
    exact ⟨rfl, HB.out _⟩
  have e1 : decide (s < 1) = false := decide_eq_false q1
  by_cases q2 : f < 0
  · have e2 : decide (f < 0) = true := decide_eq_true q2
    have hA : areaE L f s = 2 := by unfold areaE; rw [if_neg (by omega)]
    rw [hA]
    clear hA h0 h2 q1 q2 hs1
    go_enter Tryz.func49, Tryz.ntmps49
    go_wp2_with (go_at_call 44; refine (hs _).mono ?_; rintro e w1 ⟨rfl, rfl⟩)
    go_ret
    exact ⟨rfl, HB.out _⟩
  have e2 : decide (f < 0) = false := decide_eq_false q2
  have hw : IntKind.i64.wrap ((L : Int) - s) = (L : Int) - s := IntWalk.i64_in _ (by omega)
  by_cases q3 : (L : Int) - s < f
  · have e3 : decide ((L : Int) - s < f) = true := decide_eq_true q3
    have hA : areaE L f s = 2 := by unfold areaE; rw [if_neg (by omega)]
    rw [hA]
    clear hA h0 h2 q1 q2 q3 hs1
    go_enter Tryz.func49, Tryz.ntmps49
    go_wp2_with (go_at_call 44; refine (hs _).mono ?_; rintro e w1 ⟨rfl, rfl⟩)
    go_ret
    exact ⟨rfl, HB.out _⟩
  · have e3 : decide ((L : Int) - s < f) = false := decide_eq_false q3
    have hA : areaE L f s = 0 := by unfold areaE; rw [if_pos (by omega)]
    rw [hA]
    clear hA h0 h2 q1 q2 q3 hs1
    go_enter Tryz.func49, Tryz.ntmps49
    go_wp2_with (go_at_call 44; refine (hs _).mono ?_; rintro e w1 ⟨rfl, rfl⟩)
    go_ret
    exact ⟨rfl, HB.out _⟩
end Go.Proofs.YtcbmecpeockdeaaGreatDoor
