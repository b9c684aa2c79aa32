/- The program's Fits, Decide and Match; all that the walks want of rule. -/
import Derived.Test.YtkefbgjbgblalaaPrgC18
import Derived.Test.YtkefbgjbgblalaaRefD18
namespace Go.Proofs.Ytkefbgjbgblalaa
open Go.RowKit

theorem bx18p (w : World) (f : Fact18) : ∃ W, W = w.alloc (.cells #[.int .i64 f.g, .bool f.v, .int .i64 f.n] 25) ∧ Below w.heap.size w W ∧ W.cell? ⟨w.heap.size, 0, none⟩ = some (.int .i64 f.g) ∧ W.cell? ⟨w.heap.size, 1, none⟩ = some (.bool f.v) ∧ W.cell? ⟨w.heap.size, 2, none⟩ = some (.int .i64 f.n) := by
  obtain ⟨c0, c1, c2⟩ := box_fact18 w f 25
  exact ⟨_, rfl, lit16 w _, c0, c1, c2⟩
set_option maxHeartbeats 2000000 in
theorem pfits18_any (a : Option Addr) (cap : Nat) (l : List Row18) (f : Fact18) (w : World) (hx : RowsIn w.heap.size w a l) (hn : l.length ≤ 1000000) :
    Calls Try.prog 20 #[.slice a l.length cap, factVal f] w fun e w' => ∃ b c, e = .returned (.slice b (fitsV l f).length c) ∧ (fitsV l f).length ≤ c ∧ Ints w'.heap.size w' b (fitsV l f) ∧ Below w.heap.size w w' := by
  obtain ⟨W0, hW0, hb0, x0, x1, x2⟩ := bx18p w f
  have HM := Lib.hid (pmatching18_any a cap l f W0 (rowsIn_step hx hb0) hn)
  have HB0 := Lib.hid hb0
  clear hx hb0
  generalize fitsV l f = F at *
  generalize mE18 l f = E at *
  obtain ⟨fg, fv, fn⟩ := f
  dsimp only at *
  go_enter Try.func20, Try.ntmps20
  go_upto_region 1 with fail
  rw [← hW0]
  clear hW0
  go_wp2_with (go_at_call 25; refine HM.out.mono ?_; rintro e w2 ⟨b, c, rfl, h1, h2, hb⟩; have HI := Lib.hid (And.intro h1 h2); have HB2 := Lib.hid (HB0.out.trans (hb.mono HB0.out.size)); clear h1 h2 hb)
  go_ret
  exact ⟨b, c, rfl, HI.out.1, HI.out.2, HB2.out⟩
theorem mE_cases (l : List Row18) (f : Fact18) : (mE18 l f = 36 ∧ decE l f = 36 ∧ decAt l f = 0 ∧ decWay l f = 0) ∨ (mE18 l f = 2 ∧ decE l f = 2 ∧ decAt l f = 0 ∧ decWay l f = 0) ∨ (mE18 l f = 0 ∧ fitsV l f = [] ∧ decE l f = 36 ∧ decAt l f = 0 ∧ decWay l f = 0) ∨ ∃ i t, mE18 l f = 0 ∧ i < l.length ∧ fitsV l f = (i : Int) :: t ∧ decE l f = 0 ∧ decAt l f = i ∧ decWay l f = (rowAt18 l i).way := by
  by_cases hA : TabOk l
  · by_cases hF : FactOk f
    · have hm : mE18 l f = 0 := by rw [mE18, if_pos hA, fact_yes hF]
      have hv : fitsV l f = fitsTo l f l.length := if_pos hA
      rcases first_fits l f l.length with ⟨h1, h2⟩ | ⟨i, t, h1, h2, _, h4⟩
      · exact Or.inr (Or.inr (Or.inl ⟨hm, by rw [hv, h2], dec_none hA hF h1⟩))
      · exact Or.inr (Or.inr (Or.inr ⟨i, t, hm, h2, by rw [hv, h4], dec_some hA hF h1⟩))
    · exact Or.inr (Or.inl ⟨by rw [mE18, if_pos hA, fact_no hF], dec_fact hA hF⟩)
  · exact Or.inl ⟨if_neg hA, dec_no hA⟩
set_option maxHeartbeats 4000000 in
theorem pdecide18_any (a : Option Addr) (cap : Nat) (l : List Row18) (f : Fact18) (w : World) (hx : RowsIn w.heap.size w a l) (hn : l.length ≤ 1000000) :
    Calls Try.prog 15 #[.slice a l.length cap, factVal f] w fun e w' => e = .returned (.tuple #[.int .i64 (decWay l f), .int .i64 (decAt l f), .int .i64 (decE l f)]) ∧ Below w.heap.size w w' := by
  obtain ⟨W0, hW0, hb0, x0, x1, x2⟩ := bx18p w f
  have HX := Lib.hid (rowsIn_step hx hb0)
  have hm := pmatching18_any a cap l f W0 HX.out hn
  have HB0 := Lib.hid hb0
  have hs := mE_cases l f
  clear hx hb0
  generalize decWay l f = v1 at *
  generalize decAt l f = v2 at *
  generalize decE l f = v3 at *
  generalize fitsV l f = F at *
  generalize mE18 l f = E at *
  obtain ⟨fg, fv, fn⟩ := f
  dsimp only at *
  rcases hs with ⟨rfl, h1, h2, h3⟩ | ⟨rfl, h1, h2, h3⟩ | ⟨rfl, rfl, h1, h2, h3⟩ | ⟨i, t, rfl, hil, rfl, h1, h2, h3⟩
  · have HV := Lib.hid (And.intro h1 (And.intro h2 h3))
    have HM := Lib.hid hm
    clear h1 h2 h3 hm
    go_enter Try.func15, Try.ntmps15
    go_upto_region 1 with fail
    rw [← hW0]
    clear hW0
    go_wp2_with (go_at_call 25; refine HM.out.mono ?_; rintro e w2 ⟨b, c, rfl, h1, h2, hb⟩; have HB2 := Lib.hid (HB0.out.trans (hb.mono HB0.out.size)); clear h1 h2 hb)
    go_ret3
    exact ⟨by rw [HV.out.1, HV.out.2.1, HV.out.2.2]; rfl, HB2.out⟩
  · have HV := Lib.hid (And.intro h1 (And.intro h2 h3))
    have HM := Lib.hid hm
    clear h1 h2 h3 hm
    go_enter Try.func15, Try.ntmps15
    go_upto_region 1 with fail
    rw [← hW0]
    clear hW0
    go_wp2_with (go_at_call 25; refine HM.out.mono ?_; rintro e w2 ⟨b, c, rfl, h1, h2, hb⟩; have HB2 := Lib.hid (HB0.out.trans (hb.mono HB0.out.size)); clear h1 h2 hb)
    go_ret3
    exact ⟨by rw [HV.out.1, HV.out.2.1, HV.out.2.2]; rfl, HB2.out⟩
  · have HV := Lib.hid (And.intro h1 (And.intro h2 h3))
    have HM := Lib.hid hm
    clear h1 h2 h3 hm
    go_enter Try.func15, Try.ntmps15
    go_upto_region 1 with fail
    rw [← hW0]
    clear hW0
    go_wp2_with (go_at_call 25; refine HM.out.mono ?_; rintro e w2 ⟨b, c, rfl, h1, h2, hb⟩; have HB2 := Lib.hid (HB0.out.trans (hb.mono HB0.out.size)); clear h1 h2 hb)
    go_ret3
    exact ⟨by rw [HV.out.1, HV.out.2.1, HV.out.2.2]; rfl, HB2.out⟩
  · have HV := Lib.hid (And.intro h1 (And.intro h2 h3))
    have HM := Lib.hid hm
    have HI := Lib.hid hil
    have hn1 : (((t.length + 1 : Nat) : Int) == 0) = false := by rw [beq_eq_false_iff_ne]; omega
    have i1 : (0 : Int) < ((t.length + 1 : Nat) : Int) := by omega
    have i2 : (i : Int) < (l.length : Int) := by omega
    have i3 : (0 : Int) ≤ (i : Int) := by omega
    clear h1 h2 h3 hm hil
    dsimp only [List.length_cons] at *
    go_enter Try.func15, Try.ntmps15
    go_upto_region 1 with fail
    rw [← hW0]
    clear hW0
    go_upto_region 2 with (go_at_call 25; refine HM.out.mono ?_; rintro e w2 ⟨b2, c2, rfl, h1, h2, hb⟩; have HQ := Lib.hid h2; have HBX := Lib.hid hb; have HB2 := Lib.hid (HB0.out.trans (hb.mono HB0.out.size)); clear h1 h2 hb)
    rcases HQ.out with h | ⟨b2, o2, rfl, _, hc2⟩
    · cases h
    have k0 : w2.cell? ⟨b2, o2, none⟩ = some (.int .i64 (i : Int)) := hc2 0 (by simp)
    obtain ⟨b, off, rfl, _, _, _, _, _, c4⟩ := rows_at18 (rowsIn_step HX.out HBX.out) HI.out
    clear hc2
    go_wp2
    go_ret3
    exact ⟨by rw [HV.out.1, HV.out.2.1, HV.out.2.2]; rfl, HB2.out⟩
theorem match_fits (r : Row18) (f : Fact18) : (matchB r f = true ∧ 0 < (fitsV [r] f).length) ∨ (matchB r f = false ∧ (fitsV [r] f).length = 0) := by
  have hr : rowAt18 [r] 0 = r := rfl
  have hf : fitsTo [r] f 1 = if matchB r f = true then [(0 : Int)] else [] := rfl
  by_cases h : RowOk r
  · have ht : TabOk [r] := ⟨by simp, by simp, fun j hj => by
      have : j = 0 := by simpa using hj
      rw [this, hr]; exact h⟩
    have hv : fitsV [r] f = fitsTo [r] f 1 := if_pos ht
    rw [hv, hf]
    cases matchB r f <;> simp
  · have ht : ¬ TabOk [r] := fun q => h (by have := q.2.2 0 (by simp); rw [hr] at this; exact this)
    have hv : fitsV [r] f = [] := if_neg ht
    rw [hv, match_row h]
    simp
theorem one_row18 (W : World) (r : Row18) (t : TypeId) : RowsIn (W.heap.size + 1) (W.alloc (.cells #[.int .i64 r.g, .int .i64 r.v, .int .i64 r.lo, .int .i64 r.hi, .int .i64 r.way] t)) (some ⟨W.heap.size, 0, none⟩) [r] := lit_one_e (E := rowElt) W r rfl
set_option maxHeartbeats 2000000 in
theorem pmatch18_any (r : Row18) (f : Fact18) (w : World) : Calls Try.prog 12 #[rowVal r, factVal f] w fun e w' => e = .returned (.bool (matchB r f)) ∧ Below w.heap.size w w' := by
  obtain ⟨⟨⟨c0, c1, c2, c3⟩, x0, x1, x2⟩, hb⟩ := boxes18 w r f 23 25
  have c4 : ((w.alloc (.cells #[.int .i64 r.g, .int .i64 r.v, .int .i64 r.lo, .int .i64 r.hi, .int .i64 r.way] 23)).alloc (.cells #[.int .i64 f.g, .bool f.v, .int .i64 f.n] 25)).cell? ⟨w.heap.size, 4, none⟩ = some (.int .i64 r.way) := cell_of (j := 4) (heap_alloc2_old w _ _) rfl
  have hs := match_fits r f
  obtain ⟨W, hW⟩ : ∃ W, W = (w.alloc (.cells #[.int .i64 r.g, .int .i64 r.v, .int .i64 r.lo, .int .i64 r.hi, .int .i64 r.way] 23)).alloc (.cells #[.int .i64 f.g, .bool f.v, .int .i64 f.n] 25) := ⟨_, rfl⟩
  rw [← hW] at c0 c1 c2 c3 c4 x0 x1 x2 hb
  have hone := one_row18 W r 23
  have hbW := (Below.refl W.heap.size W).alloc (Nat.le_refl _) (.cells #[.int .i64 r.g, .int .i64 r.v, .int .i64 r.lo, .int .i64 r.hi, .int .i64 r.way] 23)
  have hsz : (W.alloc (.cells #[.int .i64 r.g, .int .i64 r.v, .int .i64 r.lo, .int .i64 r.hi, .int .i64 r.way] 23)).heap.size = W.heap.size + 1 := by simp
  have hx : RowsIn (W.alloc (.cells #[.int .i64 r.g, .int .i64 r.v, .int .i64 r.lo, .int .i64 r.hi, .int .i64 r.way] 23)).heap.size (W.alloc (.cells #[.int .i64 r.g, .int .i64 r.v, .int .i64 r.lo, .int .i64 r.hi, .int .i64 r.way] 23)) (some ⟨W.heap.size, 0, none⟩) [r] := by rw [hsz]; exact hone
  have hm := pfits18_any (some ⟨W.heap.size, 0, none⟩) 1 [r] f _ hx (by simp)
  have HM : Hid (Calls Try.prog 20 #[.slice (some ⟨W.heap.size, 0, none⟩) 1 1, factVal f] (W.alloc (.cells #[.int .i64 r.g, .int .i64 r.v, .int .i64 r.lo, .int .i64 r.hi, .int .i64 r.way] 23)) fun e w' => ∃ b c, e = .returned (.slice b (fitsV [r] f).length c) ∧ Below w.heap.size w w') := Lib.hid (hm.mono fun e w' h => by
    obtain ⟨b, c, he, _, _, h2⟩ := h
    have h3 := hb.trans (hbW.mono hb.size)
    exact ⟨b, c, he, h3.trans (h2.mono h3.size)⟩)
  have y0 := (hbW.cell (p := ⟨w.heap.size + 1, 0, none⟩) (World.block_lt_of_cell? W _ x0)).trans x0
  have y1 := (hbW.cell (p := ⟨w.heap.size + 1, 1, none⟩) (World.block_lt_of_cell? W _ x1)).trans x1
  have y2 := (hbW.cell (p := ⟨w.heap.size + 1, 2, none⟩) (World.block_lt_of_cell? W _ x2)).trans x2
  clear hb hone hbW hsz hx hm x0 x1 x2
  have HW := Lib.hid hW
  generalize matchB r f = x at *
  generalize (fitsV [r] f).length = n at *
  obtain ⟨rg, rv, rl, rh, rw⟩ := r
  obtain ⟨fg, fv, fn⟩ := f
  dsimp only at *
  rcases hs with ⟨rfl, h⟩ | ⟨rfl, rfl⟩
  · have d1 : decide ((0 : Int) < (n : Int)) = true := decide_eq_true (by omega)
    have d2 : decide (0 < n) = true := decide_eq_true h
    clear h
    go_enter Try.func12, Try.ntmps12
    go_upto_region 1 with fail
    rw [← HW.out]
    clear hW HW
    go_wp2_with (go_at_call 20; refine HM.out.mono ?_; rintro e w2 ⟨b, c, rfl, hb⟩; have HB2 := Lib.hid hb; clear hb)
    go_ret
    exact ⟨rfl, HB2.out⟩
  · have d1 : decide ((0 : Int) < ((0 : Nat) : Int)) = false := rfl
    go_enter Try.func12, Try.ntmps12
    go_upto_region 1 with fail
    rw [← HW.out]
    clear hW HW
    go_wp2_with (go_at_call 20; refine HM.out.mono ?_; rintro e w2 ⟨b, c, rfl, hb⟩; have HB2 := Lib.hid hb; clear hb)
    go_ret
    exact ⟨rfl, HB2.out⟩
theorem rule18 : Rule18 := ⟨prow18_any, pfact18_any, pmatch18_any, fun a cap l w _ h h2 => pcheck18_any a cap l w h h2, fun a cap l f w _ h h2 => pdecide18_any a cap l f w h h2, fun a cap l f w _ h h2 => pfits18_any a cap l f w h h2⟩
end Go.Proofs.Ytkefbgjbgblalaa
