/- The law's probes of slot come out true, from what is wanted of slot. -/
import Derived.Test.YtkmkohpdldamhaaDoorChoose9
namespace Go.Proofs.YtkmkohpdldamhaaDoor
open Go.RowKit

theorem none9 : getE9 [] = 4 := rfl
theorem short9 : getE9 [115, 104, 111, 114, 116] = 4 := rfl
set_option maxHeartbeats 1000000 in
theorem wakes9 {T : World → Prop} (H : Slot9 T) : Wakes9 T := by
  intro w hT
  have HT := Lib.hid hT
  have HB : Hid (∀ v v', T v → Below v.heap.size v v' → T v') := Lib.hid fun _ _ h hb => H.below h hb
  have hpe : putE9 3 [104, 105] = 0 := rfl
  have hp := H.put 3 ⟨#[104, 105]⟩ (by omega) (by decide) w HT.out
  rw [show (⟨#[104, 105]⟩ : ByteArray).data.toList = [104, 105] from rfl, hpe] at hp
  go_enter Tryd.func6, Tryd.ntmps6
  go_upto_region 2 with (go_at_call 12; refine hp.mono ?_; rintro e w1 ⟨u, rfl, hu, hb1⟩; have HU := Lib.hid hu.out; have HB1 := Lib.hid hb1; clear hu hb1)
  have hul : u.data.toList = put9 3 [104, 105] := by rw [HU.out]; unfold putL9; rw [if_pos hpe]
  have hus : u.size = 64 := by rw [← text_size u, hul, put9_len]; rfl
  have hb0 := back9 3 [104, 105] [] hpe
  rw [List.append_nil, ← hul] at hb0
  have hb1 := back9 3 [104, 105] [120] hpe
  rw [← hul] at hb1
  have hg1 := H.get (u ++ ⟨#[120]⟩) (by rw [ByteArray.size_append, hus]; decide) w1 (HB.out _ _ HT.out HB1.out)
  rw [show (u ++ ⟨#[120]⟩ : ByteArray).data.toList = u.data.toList ++ [120] by rw [ByteArray.data_append, Array.toList_append], hb1.1, hb1.2.1, hb1.2.2] at hg1
  have i1 : ¬ (9223372036854775807 < u.size + 1) := by omega
  have hI : pickI [] u.data.toList = 1 := by
    rcases pick_cases [] u.data.toList with q | q | q
    · exact absurd hb0.1 q.2.2
    · exact absurd (none9.symm.trans q.2.1) (by decide)
    · exact q.1
  have hG : pickG [] u.data.toList = 3 := by unfold pickG; rw [hI, hb0.2.1]; rfl
  have hPT : pickT [] u.data.toList = [104, 105] := by unfold pickT; rw [hI, hb0.2.2]; rfl
  have hNG : nextG [] u.data.toList = 4 := by unfold nextG; rw [hI, hG]; rfl
  have hNS : nextS [] u.data.toList = 0 := by unfold nextS; rw [hI]; rfl
  have hcc := fun W => H.choose ⟨#[]⟩ u (by decide) (by omega) W
  rw [show (⟨#[]⟩ : ByteArray).data.toList = [] from rfl, hI, hG, hPT] at hcc
  have hnn := fun W => H.next ⟨#[]⟩ u (by decide) (by omega) W
  rw [show (⟨#[]⟩ : ByteArray).data.toList = [] from rfl, hNG, hNS] at hnn
  have hn0 := fun W => H.next ⟨#[]⟩ ⟨#[]⟩ (by decide) (by decide) W
  rw [show (⟨#[]⟩ : ByteArray).data.toList = [] from rfl, show nextG [] [] = 1 from rfl, show nextS [] [] = 0 from rfl] at hn0
  have hgs := fun W => H.get ⟨#[115, 104, 111, 114, 116]⟩ (by decide) W
  rw [show (⟨#[115, 104, 111, 114, 116]⟩ : ByteArray).data.toList = [115, 104, 111, 114, 116] from rfl, short9, show getG9 [115, 104, 111, 114, 116] = 0 from rfl] at hgs
  have hs0 := fun W => H.sect ⟨#[]⟩ (by decide) W
  rw [show sect9 (⟨#[]⟩ : ByteArray).size = 1 from rfl] at hs0
  have hs1 := fun W => H.sect u (by omega) W
  rw [hus, show sect9 64 = 2 from rfl] at hs1
  clear hpe hp hul HU hb0 hb1 hI hG hPT hNG hNS
  go_upto_region 3 with (go_at_call 13; refine hg1.mono ?_; rintro e w2 ⟨t2, rfl, ht2, hb2⟩; have HT2 := Lib.hid ht2.out; have HB2 := Lib.hid hb2; clear ht2 hb2)
  have ht2 : t2 = ⟨#[104, 105]⟩ := text_eq HT2.out
  subst ht2
  have z2 := heap_alloc_new w2 (.cells #[.int .i64 3, .string ⟨#[104, 105]⟩] 24)
  have b2 : Below w.heap.size w (w2.alloc (.cells #[.int .i64 3, .string ⟨#[104, 105]⟩] 24)) := by
    have h := HB1.out.trans (HB2.out.mono HB1.out.size)
    exact h.alloc h.size _
  clear HB1 HB2 hg1 HT2
  generalize w2.alloc (.cells #[.int .i64 3, .string ⟨#[104, 105]⟩] 24) = W2 at *
  generalize w2.heap.size = p2 at *
  have B2 := Lib.hid b2
  have Z2 := Lib.hid z2
  clear b2 z2
  have hc3 := hcc _ (HB.out _ _ HT.out B2.out)
  clear hcc
  go_upto_region 4 with (go_at_call 7; refine hc3.mono ?_; rintro e w3 ⟨t3, rfl, ht3, hb3⟩; have HT3 := Lib.hid ht3.out; have HB3 := Lib.hid hb3; clear ht3 hb3)
  have ht3 : t3 = ⟨#[104, 105]⟩ := text_eq HT3.out
  subst ht3
  have b3 : Below w3.heap.size w3 (w3.alloc (.cells #[.int .i64 3, .string ⟨#[104, 105]⟩] 24)) := (Below.refl _ w3).alloc (Nat.le_refl _) _
  have Z3 := Lib.hid (heap_alloc_new w3 (.cells #[.int .i64 3, .string ⟨#[104, 105]⟩] 24))
  have Y3 := Lib.hid (old_obj b3 (old_obj HB3.out Z2.out))
  have b32 : Below w.heap.size w w3 := B2.out.trans (HB3.out.mono B2.out.size)
  have B3 := Lib.hid (b32.trans (b3.mono b32.size))
  clear HB3 b3 b32 hc3 HT3
  generalize w3.alloc (.cells #[.int .i64 3, .string ⟨#[104, 105]⟩] 24) = W3 at *
  generalize w3.heap.size = p3 at *
  have hn4 := hnn _ (HB.out _ _ HT.out B3.out)
  clear hnn
  go_upto_region 5 with (go_at_call 9; refine hn4.mono ?_; rintro e w4 ⟨rfl, hb4⟩; have HB4 := Lib.hid hb4; clear hb4)
  have B4 := Lib.hid (B3.out.trans (HB4.out.mono B3.out.size))
  have hn5 := hn0 _ (HB.out _ _ HT.out B4.out)
  clear hn4 hn0
  go_upto_region 6 with (go_at_call 9; refine hn5.mono ?_; rintro e w5 ⟨rfl, hb5⟩; have HB5 := Lib.hid hb5; clear hb5)
  have B5 := Lib.hid (B4.out.trans (HB5.out.mono B4.out.size))
  have hg6 := hgs _ (HB.out _ _ HT.out B5.out)
  clear hn5 hgs
  go_upto_region 7 with (go_at_call 13; refine hg6.mono ?_; rintro e w6 ⟨t6, rfl, _, hb6⟩; have HB6 := Lib.hid hb6; clear hb6)
  have b7 : Below w6.heap.size w6 (w6.alloc (.cells #[.int .i64 0, .string t6] 24)) := (Below.refl _ w6).alloc (Nat.le_refl _) _
  have Z7 := old_obj b7 (old_obj HB6.out (old_obj HB5.out (old_obj HB4.out Z3.out)))
  have Y7 := old_obj b7 (old_obj HB6.out (old_obj HB5.out (old_obj HB4.out Y3.out)))
  have b67 : Below w.heap.size w w6 := B5.out.trans (HB6.out.mono B5.out.size)
  have B7 := Lib.hid (b67.trans (b7.mono b67.size))
  obtain ⟨c0, c1, _, _⟩ := two_cells9 Z7
  obtain ⟨d0, d1, _, _⟩ := two_cells9 Y7
  clear HB4 HB5 HB6 b7 b67 hg6
  generalize w6.alloc (.cells #[.int .i64 0, .string t6] 24) = W7 at *
  have e64 : ((u.size : Int) == 64) = true := by rw [hus]; rfl
  go_wp2_with (first
    | (have _t := HB8; go_at_call 14; refine (hs1 _).mono ?_; rintro e w9 ⟨rfl, hb9⟩)
    | (go_at_call 14; refine (hs0 _).mono ?_; rintro e w8 ⟨rfl, hb8⟩; have HB8 := Lib.hid (B7.out.trans (hb8.mono B7.out.size)); clear hb8))
  go_ret
  exact ⟨rfl, HB8.out.trans (hb9.mono HB8.out.size)⟩
end Go.Proofs.YtkmkohpdldamhaaDoor
