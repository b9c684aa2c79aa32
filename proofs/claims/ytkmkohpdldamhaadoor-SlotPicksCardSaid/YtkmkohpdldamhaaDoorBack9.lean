/- The law that a snapshot comes back, walked over what is wanted of slot. -/
import Derived.Test.YtkmkohpdldamhaaDoorWant9
namespace Go.Proofs.YtkmkohpdldamhaaDoor
open Go.RowKit

set_option maxHeartbeats 1000000 in
theorem slotBack_walk9 {T : World → Prop} (H : Slot9 T) (HA : Wakes9 T) (w : World) (hT : T w) (g : Int) (hg : (Lit.int .i64 g).wf = true) (t : ByteArray) (s : ByteArray) :
    Calls Tryd.prog 4 #[.int .i64 g, .string t, .string s] w fun e w' => e = .returned (.bool true) ∧ Below w.heap.size w w' := by
  have HT := Lib.hid hT
  have hg2 : g ≤ 9223372036854775807 := by
    simp [Lit.wf, IntKind.min, IntKind.max, IntKind.signed, IntKind.bits] at hg
    omega
  clear hg
  by_cases q1 : 5000 < t.size
  · have e1 : decide (5000 < t.size) = true := decide_eq_true q1
    have e1i : decide (5000 < (t.size : Int)) = true := decide_eq_true (by omega)
    clear q1
    go_enter Tryd.func4, Tryd.ntmps4
    go_wp2_with (go_at_call 6; refine (HA _ HT.out).mono ?_; rintro e w1 ⟨rfl, hb1⟩)
    go_ret
    exact ⟨rfl, hb1⟩
  have e1 : decide (5000 < t.size) = false := decide_eq_false q1
  have e1i : decide (5000 < (t.size : Int)) = false := decide_eq_false (by omega)
  by_cases q2 : 6000 < s.size
  · have e2 : decide (6000 < s.size) = true := decide_eq_true q2
    have e2i : decide (6000 < (s.size : Int)) = true := decide_eq_true (by omega)
    clear q1 q2
    go_enter Tryd.func4, Tryd.ntmps4
    go_wp2_with (go_at_call 6; refine (HA _ HT.out).mono ?_; rintro e w1 ⟨rfl, hb1⟩)
    go_ret
    exact ⟨rfl, hb1⟩
  have e2 : decide (6000 < s.size) = false := decide_eq_false q2
  have e2i : decide (6000 < (s.size : Int)) = false := decide_eq_false (by omega)
  have hp := fun W => H.put g t hg2 (by omega) W
  have HB : Hid (∀ v v', T v → Below v.heap.size v v' → T v') := Lib.hid fun _ _ h hb => H.below h hb
  go_enter Tryd.func4, Tryd.ntmps4
  go_upto_region 4 with (go_at_call 12; refine (hp _ HT.out).mono ?_; rintro e w1 ⟨u, rfl, hu, hb1⟩; have HU := Lib.hid hu.out; have HB1 := Lib.hid hb1; clear hu hb1)
  by_cases q3 : putE9 g t.data.toList = 0
  · have hul : u.data.toList = put9 g t.data.toList := by rw [HU.out]; unfold putL9; rw [if_pos q3]
    have hus : u.size = 64 * sect9 t.size := by rw [← text_size u, hul, put9_len, text_size]
    have hbk := back9 g t.data.toList s.data.toList q3
    have husz : u.size ≤ 100000 := by rw [hus]; unfold sect9; omega
    have hge := fun W => H.get (u ++ s) (by rw [ByteArray.size_append]; omega) W
    rw [show (u ++ s).data.toList = put9 g t.data.toList ++ s.data.toList by rw [ByteArray.data_append, Array.toList_append, hul], hbk.1, hbk.2.1, hbk.2.2] at hge
    have d3 : (putE9 g t.data.toList == 0) = true := beq_iff_eq.2 q3
    have i1 : ¬ (9223372036854775807 < u.size + s.size) := by omega
    go_upto_region 6 with (go_at_call 13; refine (hge _ (HB.out _ _ HT.out HB1.out)).mono ?_; rintro e w2 ⟨v, rfl, hv, hb2⟩; have HV := Lib.hid hv.out; have HB2 := Lib.hid hb2; clear hv hb2)
    have hvt : v = t := text_eq HV.out
    subst hvt
    obtain ⟨c0, c1, _, _⟩ := two_cells9 (heap_alloc_new w2 (.cells #[.int .i64 g, .string v] 24))
    have hse := fun W => H.sect v (by omega) W
    go_upto_region 8 with (go_at_call 14; refine (hse _).mono ?_; rintro e w3 ⟨rfl, hb3⟩; have HB3 := Lib.hid hb3; clear hb3)
    have b3 : Below w.heap.size w w3 := by
      have h1 := HB1.out.trans (HB2.out.mono HB1.out.size)
      have h2 := h1.alloc h1.size (.cells #[.int .i64 g, .string v] 24)
      exact h2.trans (HB3.out.mono h2.size)
    have HBW := Lib.hid b3
    have hge2 := fun W => H.get s (by omega) W
    clear hp hge hse hbk hul d3 c0 c1 HB1 HB2 HB3 b3 q3 HV i1 hus husz HU
    generalize hL : s.data.toList = L at *
    by_cases q4 : getE9 L = 0
    · obtain ⟨k1, k2, k3, k4⟩ := canon9 q4
      rw [q4] at hge2
      have hlen : s.size = L.length := by rw [← hL, text_size]
      go_upto_region 11 with (go_at_call 13; refine (hge2 _ (HB.out _ _ HT.out HBW.out)).mono ?_; rintro e w5 ⟨v5, rfl, hv, hb5⟩; have HV5 := Lib.hid hv.out; have HB5 := Lib.hid hb5; clear hv hb5)
      have hp2 := fun W => H.put (getG9 L) v5 (by have := gen_range L; omega) (by have h1 := text_size v5; rw [HV5.out, k3] at h1; have := (get_parts q4).2.2.2.1; omega) W
      rw [HV5.out, k1] at hp2
      have b6 : Below w.heap.size w (w5.alloc (.cells #[.int .i64 (getG9 L), .string v5] 24)) := by
        have h5 := HBW.out.trans (HB5.out.mono HBW.out.size)
        exact h5.alloc h5.size _
      have B6 := Lib.hid b6
      obtain ⟨c0, c1, _, _⟩ := two_cells9 (heap_alloc_new w5 (.cells #[.int .i64 (getG9 L), .string v5] 24))
      generalize w5.alloc (.cells #[.int .i64 (getG9 L), .string v5] 24) = W6 at *
      go_upto_region 12 with (go_at_call 12; refine (hp2 _ (HB.out _ _ HT.out B6.out)).mono ?_; rintro e w7 ⟨u7, rfl, hu7, hb7⟩; have HU7 := Lib.hid hu7.out; have HB7 := Lib.hid hb7; clear hu7 hb7)
      have hu8 : u7.data.toList = L.take (64 * sect9 (len9 L)) := by rw [HU7.out]; unfold putL9; rw [if_pos k1, k2, k3]
      have hus8 : u7.size = 64 * sect9 (len9 L) := by rw [← text_size u7, hu8, List.length_take]; omega
      have j1 : decide (u7.size ≤ s.size) = true := decide_eq_true (by omega)
      have j1i : decide ((u7.size : Int) ≤ (s.size : Int)) = true := decide_eq_true (by omega)
      have j2 : (u7.size : Int) ≤ (s.size : Int) := by omega
      have j3 : s.extract 0 u7.size = u7 := text_eq (by rw [cut_list, hL, hu8, hus8]; simp)
      have j4 : u7.size ≤ s.size := by omega
      have B7 := Lib.hid (B6.out.trans (HB7.out.mono B6.out.size))
      clear hu8 hus8
      go_wp2_with (go_at_call 6; refine (HA _ (HB.out _ _ HT.out B7.out)).mono ?_; rintro e w8 ⟨rfl, hb8⟩)
      go_ret
      exact ⟨rfl, B7.out.trans (hb8.mono B7.out.size)⟩
    · obtain ⟨k1, k2⟩ := bad9 q4
      rw [k1, k2] at hge2
      have d4 : (getE9 L != 0) = true := by rw [bne_iff_ne]; exact q4
      go_upto_region 9 with (go_at_call 13; refine (hge2 _ (HB.out _ _ HT.out HBW.out)).mono ?_; rintro e w5 ⟨v5, rfl, hv, hb5⟩; have HV5 := Lib.hid hv.out; have HB5 := Lib.hid hb5; clear hv hb5)
      have hv5 : v5 = ⟨#[]⟩ := text_eq HV5.out
      subst hv5
      have b6 : Below w.heap.size w (w5.alloc (.cells #[.int .i64 0, .string ⟨#[]⟩] 24)) := by
        have h5 := HBW.out.trans (HB5.out.mono HBW.out.size)
        exact h5.alloc h5.size _
      have B6 := Lib.hid b6
      obtain ⟨c0, c1, _, _⟩ := two_cells9 (heap_alloc_new w5 (.cells #[.int .i64 0, .string ⟨#[]⟩] 24))
      generalize w5.alloc (.cells #[.int .i64 0, .string ⟨#[]⟩] 24) = W6 at *
      go_wp2_with (go_at_call 6; refine (HA _ (HB.out _ _ HT.out B6.out)).mono ?_; rintro e w8 ⟨rfl, hb8⟩)
      go_ret
      exact ⟨rfl, B6.out.trans (hb8.mono B6.out.size)⟩
  · have d3 : (putE9 g t.data.toList == 0) = false := beq_eq_false_iff_ne.2 q3
    have HBW := HB1
    have hge2 := fun W => H.get s (by omega) W
    clear hp HU HB1
    go_upto_region 8 with fail
    generalize putE9 g t.data.toList = EP at *
    generalize hL : s.data.toList = L at *
    by_cases q4 : getE9 L = 0
    · obtain ⟨k1, k2, k3, k4⟩ := canon9 q4
      rw [q4] at hge2
      have hlen : s.size = L.length := by rw [← hL, text_size]
      go_upto_region 11 with (go_at_call 13; refine (hge2 _ (HB.out _ _ HT.out HBW.out)).mono ?_; rintro e w5 ⟨v5, rfl, hv, hb5⟩; have HV5 := Lib.hid hv.out; have HB5 := Lib.hid hb5; clear hv hb5)
      have hp2 := fun W => H.put (getG9 L) v5 (by have := gen_range L; omega) (by have h1 := text_size v5; rw [HV5.out, k3] at h1; have := (get_parts q4).2.2.2.1; omega) W
      rw [HV5.out, k1] at hp2
      have b6 : Below w.heap.size w (w5.alloc (.cells #[.int .i64 (getG9 L), .string v5] 24)) := by
        have h5 := HBW.out.trans (HB5.out.mono HBW.out.size)
        exact h5.alloc h5.size _
      have B6 := Lib.hid b6
      obtain ⟨c0, c1, _, _⟩ := two_cells9 (heap_alloc_new w5 (.cells #[.int .i64 (getG9 L), .string v5] 24))
      generalize w5.alloc (.cells #[.int .i64 (getG9 L), .string v5] 24) = W6 at *
      go_upto_region 12 with (go_at_call 12; refine (hp2 _ (HB.out _ _ HT.out B6.out)).mono ?_; rintro e w7 ⟨u7, rfl, hu7, hb7⟩; have HU7 := Lib.hid hu7.out; have HB7 := Lib.hid hb7; clear hu7 hb7)
      have hu8 : u7.data.toList = L.take (64 * sect9 (len9 L)) := by rw [HU7.out]; unfold putL9; rw [if_pos k1, k2, k3]
      have hus8 : u7.size = 64 * sect9 (len9 L) := by rw [← text_size u7, hu8, List.length_take]; omega
      have j1 : decide (u7.size ≤ s.size) = true := decide_eq_true (by omega)
      have j1i : decide ((u7.size : Int) ≤ (s.size : Int)) = true := decide_eq_true (by omega)
      have j2 : (u7.size : Int) ≤ (s.size : Int) := by omega
      have j3 : s.extract 0 u7.size = u7 := text_eq (by rw [cut_list, hL, hu8, hus8]; simp)
      have j4 : u7.size ≤ s.size := by omega
      have B7 := Lib.hid (B6.out.trans (HB7.out.mono B6.out.size))
      clear hu8 hus8
      go_wp2_with (go_at_call 6; refine (HA _ (HB.out _ _ HT.out B7.out)).mono ?_; rintro e w8 ⟨rfl, hb8⟩)
      go_ret
      exact ⟨rfl, B7.out.trans (hb8.mono B7.out.size)⟩
    · obtain ⟨k1, k2⟩ := bad9 q4
      rw [k1, k2] at hge2
      have d4 : (getE9 L != 0) = true := by rw [bne_iff_ne]; exact q4
      go_upto_region 9 with (go_at_call 13; refine (hge2 _ (HB.out _ _ HT.out HBW.out)).mono ?_; rintro e w5 ⟨v5, rfl, hv, hb5⟩; have HV5 := Lib.hid hv.out; have HB5 := Lib.hid hb5; clear hv hb5)
      have hv5 : v5 = ⟨#[]⟩ := text_eq HV5.out
      subst hv5
      have b6 : Below w.heap.size w (w5.alloc (.cells #[.int .i64 0, .string ⟨#[]⟩] 24)) := by
        have h5 := HBW.out.trans (HB5.out.mono HBW.out.size)
        exact h5.alloc h5.size _
      have B6 := Lib.hid b6
      obtain ⟨c0, c1, _, _⟩ := two_cells9 (heap_alloc_new w5 (.cells #[.int .i64 0, .string ⟨#[]⟩] 24))
      generalize w5.alloc (.cells #[.int .i64 0, .string ⟨#[]⟩] 24) = W6 at *
      go_wp2_with (go_at_call 6; refine (HA _ (HB.out _ _ HT.out B6.out)).mono ?_; rintro e w8 ⟨rfl, hb8⟩)
      go_ret
      exact ⟨rfl, B6.out.trans (hb8.mono B6.out.size)⟩
end Go.Proofs.YtkmkohpdldamhaaDoor
