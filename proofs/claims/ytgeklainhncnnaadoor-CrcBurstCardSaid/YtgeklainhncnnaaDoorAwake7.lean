/- The fixed probes of the layer: they all come out true, in every world. -/
import Derived.Test.YtgeklainhncnnaaDoorCrc
namespace Go.Proofs.YtgeklainhncnnaaDoor
open Go.RowKit

theorem nine_sum : ofN [49, 50, 51, 52, 53, 54, 55, 56, 57] = 3808858755 := by kernel_rfl
theorem q1 (w : World) (hT : Tab w) : Calls Tryd.prog 9 #[.string ⟨#[49, 50, 51, 52, 53, 54, 55, 56, 57]⟩] w fun e w' => e = .returned (.int .u32 3808858755) ∧ Below w.heap.size w w' :=
  (cof_any ⟨#[49, 50, 51, 52, 53, 54, 55, 56, 57]⟩ (by decide) w hT).mono fun _ _ h => ⟨by rw [h.1, show (⟨#[49, 50, 51, 52, 53, 54, 55, 56, 57]⟩ : ByteArray).data.toList = [49, 50, 51, 52, 53, 54, 55, 56, 57] from rfl, nine_sum]; rfl, h.2⟩
def sum4 : Nat := ofN [49, 50, 51, 52]
def sum5 : Nat := ofN [53, 54, 55, 56, 57]
theorem q2 (w : World) (hT : Tab w) : Calls Tryd.prog 9 #[.string ⟨#[49, 50, 51, 52]⟩] w fun e w' => e = .returned (.int .u32 sum4) ∧ Below w.heap.size w w' := cof_any ⟨#[49, 50, 51, 52]⟩ (by decide) w hT
theorem q2b (w : World) (hT : Tab w) : Calls Tryd.prog 9 #[.string ⟨#[53, 54, 55, 56, 57]⟩] w fun e w' => e = .returned (.int .u32 sum5) ∧ Below w.heap.size w w' := cof_any ⟨#[53, 54, 55, 56, 57]⟩ (by decide) w hT
theorem q3 (w : World) (hT : Tab w) : Calls Tryd.prog 11 #[.int .u32 sum4, .string ⟨#[53, 54, 55, 56, 57]⟩] w fun e w' => e = .returned (.int .u32 3808858755) ∧ Below w.heap.size w w' :=
  (con_any sum4 (on_lt 0 _) ⟨#[53, 54, 55, 56, 57]⟩ (by decide) w hT).mono fun _ _ h => ⟨by
    rw [h.1]
    have := on_two [49, 50, 51, 52] [53, 54, 55, 56, 57]
    rw [show ([49, 50, 51, 52] ++ [53, 54, 55, 56, 57] : List UInt8) = [49, 50, 51, 52, 53, 54, 55, 56, 57] from rfl, nine_sum] at this
    exact congrArg (fun (n : Nat) => Ending.returned (Value.int .u32 (n : Int))) this, h.2⟩
theorem q4 (w : World) : Calls Tryd.prog 15 #[.int .u32 sum4, .int .u32 sum5, .int .i64 5] w fun e w' => e = .returned (.tuple #[.int .u32 3808858755, .int .i64 0]) ∧ Below w.heap.size w w' :=
  (cboth_any sum4 sum5 (on_lt 0 _) (on_lt 0 _) 5 w).mono fun _ _ h => ⟨by
    rw [h.1]
    have := (both_two [49, 50, 51, 52] [53, 54, 55, 56, 57] (by decide)).2
    rw [show ([49, 50, 51, 52] ++ [53, 54, 55, 56, 57] : List UInt8) = [49, 50, 51, 52, 53, 54, 55, 56, 57] from rfl, nine_sum] at this
    rw [show bothV sum4 sum5 5 = 3808858755 from this, show bothE 5 = 0 from rfl]; rfl, h.2⟩
theorem q5 (w : World) (hT : Tab w) : Calls Tryd.prog 13 #[.string ⟨#[104, 105]⟩] w fun e w' => ∃ t : ByteArray, e = .returned (.string t) ∧ (t.size = 6 ∧ Hid (t.data.toList = sealL [104, 105])) ∧ Below w.heap.size w w' :=
  (cseal_any ⟨#[104, 105]⟩ (by decide) w hT).mono fun _ _ h => ⟨_, h.1, ⟨by rw [← text_size, cat_four]; rfl, Lib.hid (by rw [cat_four]; rfl)⟩, h.2⟩
theorem q6 (t : ByteArray) (h6 : t.size = 6) (ht : Hid (t.data.toList = sealL [104, 105])) (w : World) (hT : Tab w) : Calls Tryd.prog 7 #[.string t] w fun e w' => e = .returned (.tuple #[.string ⟨#[104, 105]⟩, .int .i64 0]) ∧ Below w.heap.size w w' := by
  refine (cunseal_any t (by omega) w hT).mono ?_
  rintro e w' ⟨u, rfl, hu, hb⟩
  have h1 := un_seal [104, 105]
  rw [← ht.out] at h1
  obtain rfl : u = ⟨#[104, 105]⟩ := text_eq (by rw [hu.out, h1.2])
  exact ⟨by rw [h1.1], hb⟩
theorem q7 (w : World) (hT : Tab w) : Calls Tryd.prog 7 #[.string ⟨#[97, 98, 99]⟩] w fun e w' => e = .returned (.tuple #[.string ⟨#[]⟩, .int .i64 4]) ∧ Below w.heap.size w w' := by
  refine (cunseal_any ⟨#[97, 98, 99]⟩ (by decide) w hT).mono ?_
  rintro e w' ⟨u, rfl, hu, hb⟩
  have h1 : unE (⟨#[97, 98, 99]⟩ : ByteArray).data.toList = 4 := rfl
  obtain rfl : u = ⟨#[]⟩ := text_eq (by rw [hu.out]; unfold unL; rw [if_neg (by omega)])
  exact ⟨by rw [h1], hb⟩
theorem q8 (w : World) : Calls Tryd.prog 15 #[.int .u32 1, .int .u32 1, .int .i64 (-1)] w fun e w' => e = .returned (.tuple #[.int .u32 0, .int .i64 2]) ∧ Below w.heap.size w w' :=
  (cboth_any 1 1 (by omega) (by omega) (-1) w).mono fun _ _ h => ⟨by rw [h.1, show bothV 1 1 (-1) = 0 from rfl, show bothE (-1) = 2 from rfl]; rfl, h.2⟩

set_option maxRecDepth 100000 in
set_option maxHeartbeats 1000000 in
theorem awake7_any (w : World) (hT : Tab w) : Calls Tryd.prog 6 #[] w fun e w' => e = .returned (.bool true) ∧ Below w.heap.size w w' := by
  have hb := Below.refl w.heap.size w
  have H2 := Lib.hid q2
  have H3 := Lib.hid q3
  have H4 := Lib.hid q4
  have H5 := Lib.hid q2b
  generalize sum4 = A at *
  generalize sum5 = B at *
  go_enter Tryd.func6, Tryd.ntmps6
  go_upto_region 2 with (go_at_call 9; refine (q1 _ (by first | exact hT.below hb | exact (hT.below hb).drew)).mono ?_; rintro e w1 ⟨rfl, b1⟩; replace hb := hb.trans (b1.mono hb.size); clear b1)
  go_upto_region 3 with (first
    | (go_at_call 9; refine (H2.out _ (by first | exact hT.below hb | exact (hT.below hb).drew)).mono ?_; rintro e w1 ⟨rfl, b1⟩; replace hb := hb.trans (b1.mono hb.size); clear b1)
    | (go_at_call 11; refine (H3.out _ (by first | exact hT.below hb | exact (hT.below hb).drew)).mono ?_; rintro e w1 ⟨rfl, b1⟩; replace hb := hb.trans (b1.mono hb.size); clear b1))
  go_upto_region 4 with (first
    | (go_at_call 9; (with_reducible refine (H2.out _ (by first | exact hT.below hb | exact (hT.below hb).drew)).mono ?_); rintro e w1 ⟨rfl, b1⟩; replace hb := hb.trans (b1.mono hb.size); clear b1)
    | (go_at_call 9; (with_reducible refine (H5.out _ (by first | exact hT.below hb | exact (hT.below hb).drew)).mono ?_); rintro e w1 ⟨rfl, b1⟩; replace hb := hb.trans (b1.mono hb.size); clear b1)
    | (go_at_call 15; refine (H4.out _).mono ?_; rintro e w1 ⟨rfl, b1⟩; replace hb := hb.trans (b1.mono hb.size); clear b1))
  go_upto_region 5 with (first
    | (go_at_call 13; refine (q5 _ (by first | exact hT.below hb | exact (hT.below hb).drew)).mono ?_; rintro e w1 ⟨t, rfl, ⟨t6, ht⟩, b1⟩; replace hb := hb.trans (b1.mono hb.size); clear b1)
    | (go_at_call 7; refine (q6 _ t6 ht _ (by first | exact hT.below hb | exact (hT.below hb).drew)).mono ?_; rintro e w1 ⟨rfl, b1⟩; replace hb := hb.trans (b1.mono hb.size); clear b1))
  go_upto_region 6 with (go_at_call 7; refine (q7 _ (by first | exact hT.below hb | exact (hT.below hb).drew)).mono ?_; rintro e w1 ⟨rfl, b1⟩; replace hb := hb.trans (b1.mono hb.size); clear b1)
  go_upto_region 7 with (go_at_call 15; refine (q8 _).mono ?_; rintro e w1 ⟨rfl, b1⟩; replace hb := hb.trans (b1.mono hb.size); clear b1)
  clear t6 ht
  go_wp2_with (go_at_call 13; refine (q5 _ (by first | exact hT.below hb | exact (hT.below hb).drew)).mono ?_; rintro e w9 ⟨t9, rfl, ⟨t6, ht⟩, b1⟩; replace hb := hb.trans (b1.mono hb.size); clear b1 ht)
  go_ret
  exact ⟨rfl, hb⟩
end Go.Proofs.YtgeklainhncnnaaDoor
