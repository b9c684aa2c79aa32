/- The law's probes of frame come out true, from what is wanted of frame. -/
import Derived.Test.YtpjahfobjnajcaaDoorWant10
namespace Go.Proofs.YtpjahfobjnajcaaDoor
open Go.RowKit

abbrev hiL : List UInt8 := [104, 105]
theorem hi_put : wrong10 3 1 2 = 0 := rfl
theorem hi_scan : scanV (put10 3 1 hiL ++ put10 3 1 hiL) 3 = ([hiL], 1) := by
  have hl : (put10 3 1 hiL).length = 64 := put10_len 3 1 hiL
  obtain ⟨g1, g2, g3, g4, g5⟩ := got_back 3 1 hiL (put10 3 1 hiL) hi_put
  obtain ⟨h1, h2, h3, h4, h5⟩ := got_back 3 1 hiL [] hi_put
  rw [List.append_nil] at h1 h2 h3 h4 h5
  have hd : (put10 3 1 hiL ++ put10 3 1 hiL).drop 64 = put10 3 1 hiL := by rw [← hl, List.drop_left]
  unfold scanV
  rw [List.length_append, hl, if_pos (by omega), show (64 + 64) / 64 = 1 + 1 from rfl]
  conv => lhs; unfold scan10
  rw [if_pos ⟨g1, g2, by omega⟩, g4, g5, show 64 * nsec hiL.length = 64 from rfl, hd, scan10_stop (by rintro ⟨_, _, h⟩; omega)]
  rfl
set_option maxRecDepth 100000 in
set_option maxHeartbeats 1000000 in
theorem wakes10 {T : World → Prop} (H : Frame10 T) : Wakes10 T := by
  intro w hT
  have HT := Lib.hid hT
  have HB : Hid (∀ v v', T v → Below v.heap.size v v' → T v') := Lib.hid fun _ _ h hb => H.below h hb
  have hl : (put10 3 1 hiL).length = 64 := put10_len 3 1 hiL
  have hp := H.put 3 1 ⟨#[104, 105]⟩ (by decide) w HT.out
  rw [show (⟨#[104, 105]⟩ : ByteArray).data.toList = hiL from rfl, show (⟨#[104, 105]⟩ : ByteArray).size = 2 from rfl, hi_put, show putL10 3 1 hiL = put10 3 1 hiL from by unfold putL10; rw [if_pos (show wrong10 3 1 hiL.length = 0 from rfl)]] at hp
  have hp0 := fun W h => H.put 0 0 ⟨#[]⟩ (by decide) W h
  rw [show (⟨#[]⟩ : ByteArray).data.toList = [] from rfl, show (⟨#[]⟩ : ByteArray).size = 0 from rfl, show wrong10 0 0 0 = 2 from rfl] at hp0
  have hz0 : tx (putL10 0 0 []) = ⟨#[]⟩ := rfl
  rw [hz0] at hp0
  obtain ⟨u, hu⟩ : ∃ u, tx (put10 3 1 hiL) = u := ⟨_, rfl⟩
  have hul : u.data.toList = put10 3 1 hiL := by rw [← hu, tx_list]
  have hus : u.size = 64 := by rw [← text_size, hul, hl]
  rw [hu] at hp
  have hg0 := fun W h => H.get u 0 (by omega) (by omega) (by omega) W h
  have hg1 := fun W h => H.get u 1 (by omega) (by omega) (by omega) W h
  have hb := get_back10 3 1 hiL [] [] 0 rfl rfl hi_put
  rw [List.nil_append, List.append_nil, ← hul] at hb
  obtain ⟨b1, b2, b3, b4, b5⟩ := hb
  have hr0 : res10 u.data.toList 0 = .tuple #[.agg #[.int .i64 3, .int .i64 1, .string ⟨#[104, 105]⟩], .int .i64 1, .int .i64 0] := by
    unfold res10
    rw [show ((0 : Nat) : Int) = 0 from rfl] at b1 b2 b3 b4 b5
    rw [b1, b2, b3, b4, b5]
    rfl
  have hr1 : res10 u.data.toList 1 = .tuple #[.agg #[.int .i64 0, .int .i64 0, .string ⟨#[]⟩], .int .i64 0, .int .i64 4] := by
    refine res_bad ?_ (by omega)
    rw [show (1 : Int) = ((1 : Nat) : Int) from rfl, get_in (by rw [hul, hl]) (by rw [hul, hl]; omega), List.drop_of_length_le (by rw [hul, hl]; omega), got_nil]
  rw [hr0] at hg0
  rw [hr1] at hg1
  have hsc := fun W h => H.scan (u ++ u) 3 (by rw [ByteArray.size_append]; omega) W h
  rw [show (u ++ u).data.toList = put10 3 1 hiL ++ put10 3 1 hiL by rw [ByteArray.data_append, Array.toList_append, hul], hi_scan] at hsc
  have hs0 := fun W => H.sect ⟨#[]⟩ (by decide) W
  rw [show nsec (⟨#[]⟩ : ByteArray).size = 1 from rfl] at hs0
  have i1 : ¬ (9223372036854775807 < u.size + u.size) := by omega
  have e64 : ((u.size : Int) == 64) = true := by rw [hus]; rfl
  clear hl hu hul hus b1 b2 b3 b4 b5 hr0 hr1 hz0 H
  go_enter Tryd.func7, Tryd.ntmps7
  go_upto_region 2 with (go_at_call 14; refine hp.mono ?_; rintro e w1 ⟨rfl, hb1⟩; have HB1 := Lib.hid hb1; clear hb1)
  have HT1 := Lib.hid (HB.out _ _ HT.out HB1.out)
  clear hp
  go_upto_region 3 with (go_at_call 8; refine (hg0 _ HT1.out).mono ?_; rintro e w2 ⟨rfl, hb2⟩; have HB2 := Lib.hid (HB1.out.trans (hb2.mono HB1.out.size)); clear hb2)
  have z2 := heap_alloc_new w2 (.cells #[.int .i64 3, .int .i64 1, .string ⟨#[104, 105]⟩] 24)
  have b2 := HB2.out.alloc HB2.out.size (.cells #[.int .i64 3, .int .i64 1, .string ⟨#[104, 105]⟩] 24)
  have Z2 := Lib.hid z2
  have B2 := Lib.hid b2
  have HT2 := Lib.hid (HB.out _ _ HT.out b2)
  clear z2 b2 hg0 HB1 HB2 HT1
  generalize w2.alloc (.cells #[.int .i64 3, .int .i64 1, .string ⟨#[104, 105]⟩] 24) = W2 at *
  generalize w2.heap.size = p2 at *
  go_upto_region 4 with (go_at_call 10; refine (hsc _ HT2.out).mono ?_; rintro e w3 ⟨a3, c3, rfl, _, _, hb3⟩; have Z3 := Lib.hid (old_obj hb3 Z2.out); have B3 := Lib.hid (B2.out.trans (hb3.mono B2.out.size)); clear hb3)
  have HT3 := Lib.hid (HB.out _ _ HT.out B3.out)
  clear hsc B2 HT2 Z2
  go_upto_region 5 with (go_at_call 8; refine (hg1 _ HT3.out).mono ?_; rintro e w4 ⟨rfl, hb4⟩; have Z4 := Lib.hid (old_obj hb4 Z3.out); have B4 := Lib.hid (B3.out.trans (hb4.mono B3.out.size)); clear hb4)
  have b5 := B4.out.alloc B4.out.size (.cells #[.int .i64 0, .int .i64 0, .string ⟨#[]⟩] 24)
  have Z5 := Lib.hid (old_obj ((Below.refl _ w4).alloc (Nat.le_refl _) (.cells #[.int .i64 0, .int .i64 0, .string ⟨#[]⟩] 24)) Z4.out)
  have B5 := Lib.hid b5
  have HT5 := Lib.hid (HB.out _ _ HT.out b5)
  clear b5 hg1 B3 B4 Z3 Z4 HT3
  generalize w4.alloc (.cells #[.int .i64 0, .int .i64 0, .string ⟨#[]⟩] 24) = W5 at *
  go_upto_region 6 with (go_at_call 14; refine (hp0 _ HT5.out).mono ?_; rintro e w6 ⟨rfl, hb6⟩; have Z6 := Lib.hid (old_obj hb6 Z5.out); have B6 := Lib.hid (B5.out.trans (hb6.mono B5.out.size)); clear hb6)
  obtain ⟨c0, c1, c2, _, _, _⟩ := three_cells Z6.out
  clear hp0 B5 Z5 HT5
  go_wp2_with (go_at_call 15; refine (hs0 _).mono ?_; rintro e w7 ⟨rfl, hb7⟩)
  go_ret
  exact ⟨rfl, B6.out.trans (hb7.mono B6.out.size)⟩
end Go.Proofs.YtpjahfobjnajcaaDoor
