/- The walk of the law FeeSteps: it returns true in every world and leaves what lay there. -/
import Derived.Test.YtbhdjpohplpjdaaWayb
namespace Go.Proofs.Ytbhdjpohplpjdaa
open Go.RowKit

theorem fee_mono {a b c d : Int} (ha : 0 ≤ a) (hb : 0 ≤ b) (h1 : a ≤ c) (h2 : b ≤ d) : feeN a b ≤ feeN c d := by
  have e1 : 2 * a * b ≤ 2 * a * d := Int.mul_le_mul_of_nonneg_left h2 (by omega)
  have e2 : 2 * a * d ≤ 2 * c * d := Int.mul_le_mul_of_nonneg_right (by omega) (by omega)
  unfold feeN
  omega
theorem all_fine {a : Int} {l : List Int} (h : allE a l = 0) : feesB l = true ∧ 0 ≤ a ∧ a ≤ 1000000000000 := by
  unfold allE at h
  split at h
  · rename_i hf
    split at h
    · cases h
    · exact ⟨hf, by omega, by omega⟩
  · cases h
theorem all_less {a : Int} {l : List Int} (h : allE a l = 0) {k : Nat} (hk : k < 4) : allAt a l k = a - feeN a (numAt l k) ∧ gradeE a l k = 0 ∧ gradeV a l k = allAt a l k := by
  obtain ⟨hf, h1, h2⟩ := all_fine h
  have hl := (fees_are hf).2 k hk
  have hg := fee_good (a := a) (b := numAt l k) (by omega) (by omega)
  have e1 : allAt a l k = a - feeN a (numAt l k) := by unfold allAt; rw [if_pos h, hg.2.2]
  have e2 : gradeE a l k = 0 := by unfold gradeE; rw [if_pos hf, if_neg (by omega), Int.toNat_natCast, hg.1]
  exact ⟨e1, e2, by unfold gradeV; rw [if_pos e2, Int.toNat_natCast, e1, hg.2.2]⟩
theorem all_falls {a : Int} {l : List Int} (h : allE a l = 0) {p : Nat} (hk : p + 1 < 4) : allAt a l (p + 1) ≤ allAt a l p := by
  obtain ⟨hf, h1, h2⟩ := all_fine h
  have hl := (fees_are hf).2 (p + 1) hk
  have hl2 := (fees_are hf).2 p (by omega)
  have := fee_mono (a := a) (b := numAt l p) (c := a) (d := numAt l (p + 1)) h1 hl2.1 (Int.le_refl _) (hl.2.2 (by omega))
  rw [(all_less h hk).1, (all_less h (show p < 4 by omega)).1]
  omega
theorem four_at (a : Int) (l : List Int) {k : Nat} (hk : k < 4) : (#[Value.int .i64 (allAt a l 0), .int .i64 (allAt a l 1), .int .i64 (allAt a l 2), .int .i64 (allAt a l 3)] : Array Value)[k]? = some (.int .i64 (allAt a l k)) := by
  match k, hk with
  | 0, _ => rfl
  | 1, _ => rfl
  | 2, _ => rfl
  | 3, _ => rfl

set_option maxRecDepth 100000 in
set_option maxHeartbeats 4000000 in
theorem feeSteps_walk (w : World) (a0 a1 b0 b1 : Int) (s : Option Addr) (cap : Nat) (xs : List Int) (_ : xs.length ≤ maxLen) (ht : Ints w.heap.size w s xs) (_ : ∀ n ∈ xs, (Lit.int .i64 n).wf = true) :
    Calls Try.prog 5 #[.agg #[.int .i64 a0, .int .i64 a1], .agg #[.int .i64 b0, .int .i64 b1], .slice s xs.length cap] w fun e w' => e = .returned (.bool true) ∧ Below w.heap.size w w' := by
  have hb := Below.refl w.heap.size w
  by_cases hl : 100 < xs.length
  · have hd : decide ((100 : Int) < (xs.length : Int)) = true := decide_eq_true (by omega)
    clear hl
    go_enter Try.func5, Try.ntmps5
    go_wp2_with (go_at_call 6; refine (awake_any _).mono ?_; rintro e w1 ⟨rfl, b1⟩; replace hb := ((hb.alloc hb.size _).alloc (hb.alloc hb.size _).size _).trans (b1.mono ((hb.alloc hb.size _).alloc (hb.alloc hb.size _).size _).size))
    go_ret
    exact ⟨rfl, hb⟩
  · have hd : decide ((100 : Int) < (xs.length : Int)) = false := decide_eq_false (by omega)
    have hn : xs.length ≤ 4611686018427387904 := by omega
    clear hl
    go_enter Try.func5, Try.ntmps5
    go_upto_region 3 with fail
    replace hb := (hb.alloc hb.size (Obj.cells #[Value.int .i64 a0, Value.int .i64 a1] 40)).alloc (hb.alloc hb.size _).size (Obj.cells #[Value.int .i64 b0, Value.int .i64 b1] 40)
    replace ht := (ht.lit (Obj.cells #[Value.int .i64 a0, Value.int .i64 a1] 40)).lit (Obj.cells #[Value.int .i64 b0, Value.int .i64 b1] 40)
    have hh := two_new w (Obj.cells #[Value.int .i64 a0, Value.int .i64 a1] 40) (Obj.cells #[Value.int .i64 b0, Value.int .i64 b1] 40) 0
    obtain ⟨W, hW⟩ : ∃ W, W = (w.alloc (Obj.cells #[Value.int .i64 a0, Value.int .i64 a1] 40)).alloc (Obj.cells #[Value.int .i64 b0, Value.int .i64 b1] 40) := ⟨_, rfl⟩
    have hs2 : w.heap.size + 1 < W.heap.size := by rw [hW]; simp
    rw [← hW] at hb ht hh
    rw [← hW]
    clear hW
    have hhA : W.heap[w.heap.size]? = some (Obj.cells #[Value.int .i64 a0, Value.int .i64 a1] 40) := hh.1
    have hhB : W.heap[w.heap.size + 1]? = some (Obj.cells #[Value.int .i64 b0, Value.int .i64 b1] 40) := hh.2
    have CA : Hid (∀ W', Below W.heap.size W W' → W'.cell? ⟨w.heap.size, 0, none⟩ = some (.int .i64 a0) ∧ W'.cell? ⟨w.heap.size, 1, none⟩ = some (.int .i64 a1) ∧ W'.cell? ⟨w.heap.size + 1, 0, none⟩ = some (.int .i64 b0) ∧ W'.cell? ⟨w.heap.size + 1, 1, none⟩ = some (.int .i64 b1)) := Lib.hid fun W' h =>
      ⟨(h.cell (p := ⟨w.heap.size, 0, none⟩) (show w.heap.size < _ by omega)).trans (cell_in hhA rfl), (h.cell (p := ⟨w.heap.size, 1, none⟩) (show w.heap.size < _ by omega)).trans (cell_in hhA rfl), (h.cell (p := ⟨w.heap.size + 1, 0, none⟩) hs2).trans (cell_in hhB rfl), (h.cell (p := ⟨w.heap.size + 1, 1, none⟩) hs2).trans (cell_in hhB rfl)⟩
    clear hh hhA hhB
    have hbW := Below.refl W.heap.size W
    obtain ⟨k1, k2, k3, k4⟩ := CA.out W hbW
    go_upto_region 4 with (go_at_call 7; refine (fof_any _ _ _).mono ?_; rintro e w1 ⟨rfl, c1⟩; replace hb := hb.trans (c1.mono hb.size); replace ht := ht.step c1; replace hbW := hbW.trans (c1.mono hbW.size))
    clear k1 k2 k3 k4
    obtain ⟨k1, k2, k3, k4⟩ := CA.out w1 hbW
    go_upto_region 5 with (go_at_call 7; refine (fof_any _ _ _).mono ?_; rintro e w2 ⟨rfl, c2⟩; replace hb := hb.trans (c2.mono hb.size); replace ht := ht.step c2; replace hbW := hbW.trans (c2.mono hbW.size))
    clear k1 k2 k3 k4
    obtain ⟨k1, k2, k3, k4⟩ := CA.out w2 hbW
    go_cut [60] (fun v wx => w2 = wx ∧ v = .bool false)
    case first =>
      by_cases e1 : feeE a0 a1 = 0
      · have e1d : (feeE a0 a1 == 0) = true := by rw [e1]; rfl
        by_cases e2 : feeE b0 b1 = 0
        · have e2d : (feeE b0 b1 == 0) = true := by rw [e2]; rfl
          by_cases e3 : a0 ≤ b0
          · have e3d : decide (a0 ≤ b0) = true := decide_eq_true e3
            by_cases e4 : a1 ≤ b1
            · have e4d : decide (a1 ≤ b1) = true := decide_eq_true e4
              have hv1 : feeV a0 a1 = feeN a0 a1 := by unfold feeV; rw [if_pos e1]
              have hv2 : feeV b0 b1 = feeN b0 b1 := by unfold feeV; rw [if_pos e2]
              have hf := fee_fine e1
              have hm := fee_mono (a := a0) (b := a1) (c := b0) (d := b1) hf.2.2.1 hf.1 e3 e4
              have e5d : decide (feeV b0 b1 < feeV a0 a1) = false := decide_eq_false (by rw [hv1, hv2]; omega)
              clear e1 e2 e3 e4 hv1 hv2 hf hm
              go_wp2_with fail
              go_meet
              exact ⟨rfl, rfl⟩
            · have e4d : decide (a1 ≤ b1) = false := decide_eq_false e4
              clear e1 e2 e3 e4
              go_wp2_with fail
              go_meet
              exact ⟨rfl, rfl⟩
          · have e3d : decide (a0 ≤ b0) = false := decide_eq_false e3
            clear e1 e2 e3
            go_wp2_with fail
            go_meet
            exact ⟨rfl, rfl⟩
        · have e2d : (feeE b0 b1 == 0) = false := by rw [beq_eq_false_iff_ne]; exact e2
          clear e1 e2
          go_wp2_with fail
          go_meet
          exact ⟨rfl, rfl⟩
      · have e1d : (feeE a0 a1 == 0) = false := by rw [beq_eq_false_iff_ne]; exact e1
        clear e1
        go_wp2_with fail
        go_meet
        exact ⟨rfl, rfl⟩
    case rest =>
      obtain ⟨rfl, rfl⟩ := hcut
      have HAll := Lib.hid (fun w h => tell_one s cap a0 xs w hn h)
      go_upto_region 8 with (go_at_call 13; refine (HAll.out _ ht).mono ?_; rintro e w3 ⟨rfl, c3⟩; replace hb := hb.trans (c3.mono hb.size); replace ht := ht.step c3; replace hbW := hbW.trans (c3.mono hbW.size))
      clear k1 k2 k3 k4
      replace hb := hb.alloc hb.size (Obj.cells #[Value.int .i64 (allAt a0 xs 0), Value.int .i64 (allAt a0 xs 1), Value.int .i64 (allAt a0 xs 2), Value.int .i64 (allAt a0 xs 3)] 31)
      replace ht := ht.lit (Obj.cells #[Value.int .i64 (allAt a0 xs 0), Value.int .i64 (allAt a0 xs 1), Value.int .i64 (allAt a0 xs 2), Value.int .i64 (allAt a0 xs 3)] 31)
      replace hbW := hbW.alloc hbW.size (Obj.cells #[Value.int .i64 (allAt a0 xs 0), Value.int .i64 (allAt a0 xs 1), Value.int .i64 (allAt a0 xs 2), Value.int .i64 (allAt a0 xs 3)] 31)
      have hh := heap_alloc_new w3 (Obj.cells #[Value.int .i64 (allAt a0 xs 0), Value.int .i64 (allAt a0 xs 1), Value.int .i64 (allAt a0 xs 2), Value.int .i64 (allAt a0 xs 3)] 31)
      have hlt : w3.heap.size < (w3.alloc (Obj.cells #[Value.int .i64 (allAt a0 xs 0), Value.int .i64 (allAt a0 xs 1), Value.int .i64 (allAt a0 xs 2), Value.int .i64 (allAt a0 xs 3)] 31)).heap.size := by simp
      obtain ⟨V, hV⟩ : ∃ V, V = w3.alloc (Obj.cells #[Value.int .i64 (allAt a0 xs 0), Value.int .i64 (allAt a0 xs 1), Value.int .i64 (allAt a0 xs 2), Value.int .i64 (allAt a0 xs 3)] 31) := ⟨_, rfl⟩
      rw [← hV] at hb ht hbW hh hlt
      rw [← hV]
      clear hV
      have HX : Hid (∀ V', Below V.heap.size V V' → ∀ k, k < 4 → V'.cell? ⟨w3.heap.size, k, none⟩ = some (.int .i64 (allAt a0 xs k))) := Lib.hid fun V' h k hk =>
        (h.cell (p := ⟨w3.heap.size, k, none⟩) hlt).trans (cell_in hh (four_at a0 xs hk))
      clear hh hlt
      by_cases he : allE a0 xs = 0
      · have hed : (allE a0 xs == 0) = true := by rw [he]; rfl
        have HG : Hid (∀ (k : Nat), k < 4 → ∀ w, Ints w.heap.size w s xs → Calls Try.prog 11 #[.int .i64 a0, .slice s xs.length cap, .int .i64 k] w fun e w' => e = .returned (.tuple #[.int .i64 (allAt a0 xs k), .int .i64 0]) ∧ Below w.heap.size w w') := Lib.hid fun k hk w h => by
          have := fgrade_any s cap a0 xs k w hn h
          rw [(all_less he hk).2.1, (all_less he hk).2.2] at this
          exact this
        have HD : Hid (∀ p, p + 1 < 4 → allAt a0 xs (p + 1) ≤ allAt a0 xs p) := Lib.hid fun p h => all_falls he h
        clear he
        go_wp2
        go_loopw [13, 14, 15] (fun i _ _ wr => ∃ k : Nat, i = .int .i64 k ∧ 1 ≤ k ∧ k ≤ 4 ∧ Below V.heap.size V wr) (fun i _ _ _ => 4 - (intOf i).toNat)
        case atStart => exact ⟨1, rfl, by omega, by omega, Below.refl _ _⟩
        case round =>
          obtain ⟨k, rfl, hk1, hk, hbr⟩ := hrel
          by_cases hlt : k < 4
          · obtain ⟨p, hp⟩ : ∃ p, k = p + 1 := ⟨k - 1, by omega⟩
            have hd1 := HD.out p (by omega)
            rw [← hp] at hd1
            have d1 : decide (allAt a0 xs p < allAt a0 xs k) = false := decide_eq_false (by omega)
            have wq : IntKind.i64.wrap ((k : Int) - 1) = (p : Int) := by rw [IntWalk.i64_in _ (by omega)]; omega
            have i1 : (k : Int) < 4 := by omega
            have i2 : (p : Int) < 4 := by omega
            have i3 : (0 : Int) ≤ (p : Int) := by omega
            have hp4 : p < 4 := by omega
            have htr := ht.step hbr
            obtain ⟨k1, k2, k3, k4⟩ := CA.out wr (hbW.trans (hbr.mono hbW.size))
            clear hd1 hp
            go_upto_region 12 with (go_at_call 11; refine (HG.out k hlt _ htr).mono ?_; rintro e w5 ⟨rfl, c5⟩; replace hbr := hbr.trans (c5.mono hbr.size))
            clear k1 k2 k3 k4 htr
            have x1 := HX.out w5 hbr k hlt
            have x2 := HX.out w5 hbr p hp4
            go_quiet (fail)
            replace hbr := drawn_below hbr nq
            go_wp2
            go_roundw
            case rel => exact ⟨k + 1, by go_num, by omega, by omega, hbr⟩
            case measure => simp [intOf]; omega
          · obtain rfl : k = 4 := by omega
            have hb3 := hb.trans (hbr.mono hb.size)
            go_wp2_with (go_at_call 6; refine (awake_any _).mono ?_; rintro e w6 ⟨rfl, c6⟩; replace hb3 := hb3.trans (c6.mono hb3.size))
            go_ret
            exact ⟨rfl, hb3⟩
      · have hed : (allE a0 xs == 0) = false := by rw [beq_eq_false_iff_ne]; exact he
        clear he
        go_wp2
        go_loopw [13, 14, 15] (fun i _ _ wr => i = .int .i64 1 ∧ V = wr) (fun _ _ _ _ => 0)
        case atStart => exact ⟨rfl, rfl⟩
        case round =>
          obtain ⟨rfl, rfl⟩ := hrel
          go_wp2_with (go_at_call 6; refine (awake_any _).mono ?_; rintro e w6 ⟨rfl, c6⟩; replace hb := hb.trans (c6.mono hb.size))
          go_ret
          exact ⟨rfl, hb⟩
end Go.Proofs.Ytbhdjpohplpjdaa
