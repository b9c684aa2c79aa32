/- The document's own Out, Evenly and Place, for every total, row of weights and place, in every world. -/
import Derived.Test.YtmdonhkdkapjpaaDeal
namespace Go.Proofs.Ytmdonhkdkapjpaa
open Go.RowKit

theorem rout_none (a0 : Option Addr) (cap : Nat) (T : Int) (w : World) :
    Calls Try.prog 8 #[.int .i64 T, .slice a0 0 cap] w fun e w' => ∃ a cap', e = .returned (.tuple #[.slice a (outL T []).length cap', .int .i64 (outE T [])]) ∧ Ints w'.heap.size w' a (outL T []) ∧ Below w.heap.size w w' := by
  have h1 : outE T [] = 2 := rfl
  have h2 : outL T [] = [] := rfl
  rw [h1, h2]
  go_enter Try.func8, Try.ntmps8
  go_wp2_with (go_at_call 14; refine (rwhole_none a0 cap _).mono ?_; rintro e w' ⟨rfl, rfl⟩; rw [show wholeE [] = 2 from rfl, show wholeV [] = 0 from rfl])
  go_ret2
  exact ⟨none, 0, rfl, Or.inl rfl, Below.refl _ _⟩
theorem rout_any (a0 : Option Addr) (cap : Nat) (T : Int) (ws : List Int) (w : World) (hx : Ints w.heap.size w a0 ws) :
    Calls Try.prog 8 #[.int .i64 T, .slice a0 ws.length cap] w fun e w' => ∃ a cap', e = .returned (.tuple #[.slice a (outL T ws).length cap', .int .i64 (outE T ws)]) ∧ Ints w'.heap.size w' a (outL T ws) ∧ Below w.heap.size w w' := by
  rcases hx with rfl | ⟨b, off, rfl, hB, hc⟩
  · exact rout_none a0 cap T w
  · exact rout_some b off cap T ws w hB hc

theorem made_zero (n : Nat) : (madeCells #[Value.int .i64 0] n).toList = intCells (List.replicate n 0) := by
  rw [toList_madeCells_one]
  unfold intCells
  rw [List.map_replicate]

set_option maxHeartbeats 1000000 in
theorem reven_any (T n : Int) (w : World) :
    Calls Try.prog 10 #[.int .i64 T, .int .i64 n] w fun e w' => ∃ a cap', e = .returned (.tuple #[.slice a (evenL T n).length cap', .int .i64 (evenE T n)]) ∧ Ints w'.heap.size w' a (evenL T n) ∧ Below w.heap.size w w' := by
  by_cases h1 : n < 1
  · have e1 : evenE T n = 2 := by unfold evenE; rw [if_pos (Or.inl h1)]
    have e2 : evenL T n = [] := by unfold evenL; rw [if_pos (Or.inl h1)]
    have hd : decide (n < 1) = true := decide_eq_true h1
    rw [e1, e2]
    clear h1
    go_enter Try.func10, Try.ntmps10
    go_wp2
    go_ret2
    exact ⟨none, 0, rfl, Or.inl rfl, Below.refl _ _⟩
  · have hd : decide (n < 1) = false := decide_eq_false h1
    by_cases h2 : 200 < n
    · have e1 : evenE T n = 2 := by unfold evenE; rw [if_pos (Or.inr h2)]
      have e2 : evenL T n = [] := by unfold evenL; rw [if_pos (Or.inr h2)]
      have hd2 : decide (200 < n) = true := decide_eq_true h2
      rw [e1, e2]
      clear h1 h2
      go_enter Try.func10, Try.ntmps10
      go_wp2
      go_ret2
      exact ⟨none, 0, rfl, Or.inl rfl, Below.refl _ _⟩
    · have hd2 : decide (200 < n) = false := decide_eq_false h2
      obtain ⟨m, rfl⟩ : ∃ m : Nat, n = m := ⟨n.toNat, by omega⟩
      have e1 : evenE T m = outE T (List.replicate m 0) := by unfold evenE; rw [if_neg (by omega), Int.toNat_natCast]
      have e2 : evenL T m = outL T (List.replicate m 0) := by unfold evenL; rw [if_neg (by omega), Int.toNat_natCast]
      have hm : m ≤ 200 := by omega
      rw [e1, e2]
      clear h1 h2 e1 e2
      obtain ⟨i0, hi, hz0, hz1, hz2⟩ := info_parts infoInt
      go_enter Try.func10, Try.ntmps10
      go_wp2_with (at_make; refine wpList_make_full _ rfl _ _ 22 rfl w.heap.size 3 i0 (.int .i64 0) 1 Try.underlying22 hi hz0 hz1 .i64 .i64 _ _ m rfl rfl rfl rfl (by rw [hz2]; omega) (by unfold maxLen; omega) (Nat.le_refl _) ?_)
      intro w1 hown hg
      rw [made_zero] at hown
      have hb1 : Below w.heap.size w w1 := (Below.refl _ w).grown hg (Nat.le_refl _) (by simp)
      have hl : (List.replicate m (0 : Int)).length = m := by simp
      have hown' : w1.ownsRow w.heap.size 3 1 (.slice (some ⟨w.heap.size, 0, none⟩) m m) (List.replicate m (0 : Int)).length (intCells (List.replicate m 0)) := by rw [hl]; exact hown
      obtain ⟨a, c, hv, hI⟩ := ints_own hown'
      have hcall := rout_any a c T (List.replicate m 0) w1 hI
      rw [← hv] at hcall
      have Hcall := Lib.hid hcall
      clear hcall hown hown' hI hv
      go_wp2_with (go_at_call 8; refine Hcall.out.mono ?_; rintro e w2 ⟨a2, c2, rfl, hI2, b2⟩)
      go_ret2
      exact ⟨a2, c2, rfl, hI2, hb1.trans (b2.mono hb1.size)⟩

set_option maxHeartbeats 1000000 in
theorem rplace_any (a0 : Option Addr) (cap : Nat) (T : Int) (ws : List Int) (i : Int) (w : World) (hx : Ints w.heap.size w a0 ws) :
    Calls Try.prog 12 #[.int .i64 T, .slice a0 ws.length cap, .int .i64 i] w fun e w' => e = .returned (.tuple #[.int .i64 (placeV T ws i), .int .i64 (placeE T ws i)]) ∧ Below w.heap.size w w' := by
  have Hc := Lib.hid (rout_any a0 cap T ws w hx)
  by_cases he : outE T ws = 0
  · have hed : (outE T ws != 0) = false := by rw [he]; rfl
    have hF := out_fine he
    have hol := out_len hF
    by_cases h1 : i < 0
    · have hd : decide (i < 0) = true := decide_eq_true h1
      have e1 : placeE T ws i = 2 := by unfold placeE; rw [if_pos he, if_pos (Or.inl h1)]
      have e2 : placeV T ws i = 0 := by unfold placeV; rw [e1]; rfl
      rw [e1, e2]
      clear h1 he hF hol
      go_enter Try.func12, Try.ntmps12
      go_wp2_with (go_at_call 8; refine Hc.out.mono ?_; rintro e w2 ⟨a2, c2, rfl, hI2, b2⟩)
      go_ret2
      exact ⟨rfl, b2⟩
    · have hd : decide (i < 0) = false := decide_eq_false h1
      by_cases h2 : (ws.length : Int) ≤ i
      · have hd2 : decide (((outL T ws).length : Int) ≤ i) = true := decide_eq_true (by omega)
        have e1 : placeE T ws i = 2 := by unfold placeE; rw [if_pos he, if_pos (Or.inr h2)]
        have e2 : placeV T ws i = 0 := by unfold placeV; rw [e1]; rfl
        rw [e1, e2]
        clear h1 he hF hol h2
        go_enter Try.func12, Try.ntmps12
        go_wp2_with (go_at_call 8; refine Hc.out.mono ?_; rintro e w2 ⟨a2, c2, rfl, hI2, b2⟩)
        go_ret2
        exact ⟨rfl, b2⟩
      · have hd2 : decide (((outL T ws).length : Int) ≤ i) = false := decide_eq_false (by omega)
        have e1 : placeE T ws i = 0 := by unfold placeE; rw [if_pos he, if_neg (by omega)]
        obtain ⟨k, rfl⟩ : ∃ k : Nat, i = k := ⟨i.toNat, by omega⟩
        have e2 : placeV T ws k = numAt (outL T ws) k := by unfold placeV; rw [if_pos e1, Int.toNat_natCast, out_at hF (by omega)]
        have hk : k < (outL T ws).length := by omega
        rw [e1, e2]
        clear h1 he hF hol h2 e1 e2
        go_enter Try.func12, Try.ntmps12
        go_wp2_with (go_at_call 8; refine Hc.out.mono ?_; rintro e w2 ⟨a2, c2, rfl, hI2, b2⟩; rcases hI2 with h0 | ⟨b3, o3, rfl, _, hc3⟩; (rw [h0] at hk; cases hk); have hcell := hc3 k hk)
        go_ret2
        exact ⟨rfl, b2⟩
  · have hed : (outE T ws != 0) = true := by rw [bne_iff_ne]; exact he
    have e1 : placeE T ws i = outE T ws := by unfold placeE; rw [if_neg he]
    have e2 : placeV T ws i = 0 := by unfold placeV; rw [e1, if_neg he]
    rw [e1, e2]
    clear he
    go_enter Try.func12, Try.ntmps12
    go_wp2_with (go_at_call 8; refine Hc.out.mono ?_; rintro e w2 ⟨a2, c2, rfl, hI2, b2⟩)
    go_ret2
    exact ⟨rfl, b2⟩
end Go.Proofs.Ytmdonhkdkapjpaa
