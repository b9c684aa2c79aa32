/- The law that no sector of a frame but its first one begins a frame, walked over what is wanted of frame. -/
import Derived.Test.YtpjahfobjnajcaaDoorWant10
namespace Go.Proofs.YtpjahfobjnajcaaDoor
open Go.RowKit

theorem putL_good {ep sq : Int} {b : List UInt8} (h : wrong10 ep sq b.length = 0) : putL10 ep sq b = put10 ep sq b := by unfold putL10; rw [if_pos h]
theorem putL_bad {ep sq : Int} {b : List UInt8} (h : wrong10 ep sq b.length ≠ 0) : putL10 ep sq b = [] := by unfold putL10; rw [if_neg h]
set_option maxRecDepth 100000 in
set_option maxHeartbeats 1000000 in
theorem frameApart_walk10 {T : World → Prop} (H : Frame10 T) (HA : Wakes10 T) (w : World) (hT : T w) (E Q : Int) (t : ByteArray) (z : ByteArray) :
    Calls Tryd.prog 5 #[.agg #[.int .i64 E, .int .i64 Q, .string t], .string z] w fun e w' => e = .returned (.bool true) ∧ Below w.heap.size w w' := by
  have HT := Lib.hid hT
  have HB : Hid (∀ v v', T v → Below v.heap.size v v' → T v') := Lib.hid fun _ _ h hb => H.below h hb
  obtain ⟨W, hW⟩ : ∃ W, W = w.alloc (.cells #[.int .i64 E, .int .i64 Q, .string t] 24) := ⟨_, rfl⟩
  have b0 : Below w.heap.size w W := by rw [hW]; exact (Below.refl _ w).alloc (Nat.le_refl _) _
  have z0 : W.heap[w.heap.size]? = some (.cells #[.int .i64 E, .int .i64 Q, .string t] 24 (0, 0)) := by rw [hW]; exact heap_alloc_new w _
  obtain ⟨c0, c1, c2, _, _, _⟩ := three_cells z0
  have B0 := Lib.hid b0
  have Z0 := Lib.hid z0
  have HT0 := Lib.hid (HB.out _ _ HT.out b0)
  clear b0 z0
  go_enter Tryd.func5, Tryd.ntmps5
  go_upto_region 1 with fail
  rw [← hW]
  clear hW
  by_cases q1 : 3100 < t.size
  · have e1 : decide (3100 < t.size) = true := decide_eq_true q1
    have e1i : decide (3100 < (t.size : Int)) = true := decide_eq_true (by omega)
    clear q1
    go_wp2_with (go_at_call 7; refine (HA _ HT0.out).mono ?_; rintro e w1 ⟨rfl, hb1⟩)
    go_ret
    exact ⟨rfl, B0.out.trans (hb1.mono B0.out.size)⟩
  have e1 : decide (3100 < t.size) = false := decide_eq_false q1
  have e1i : decide (3100 < (t.size : Int)) = false := decide_eq_false (by omega)
  by_cases q2 : 6400 < z.size
  · have e2 : decide (6400 < z.size) = true := decide_eq_true q2
    have e2i : decide (6400 < (z.size : Int)) = true := decide_eq_true (by omega)
    clear q1 q2
    go_wp2_with (go_at_call 7; refine (HA _ HT0.out).mono ?_; rintro e w1 ⟨rfl, hb1⟩)
    go_ret
    exact ⟨rfl, B0.out.trans (hb1.mono B0.out.size)⟩
  have e2 : decide (6400 < z.size) = false := decide_eq_false q2
  have e2i : decide (6400 < (z.size : Int)) = false := decide_eq_false (by omega)
  by_cases q3 : z.size % 64 ≠ 0
  · have e3 : ((z.size : Int) % 64 != 0) = true := by rw [bne_iff_ne]; omega
    have e4 : ¬ ((z.size : Int) % 64 = 0) := by omega
    clear q1 q2 q3
    go_wp2_with (go_at_call 7; refine (HA _ HT0.out).mono ?_; rintro e w1 ⟨rfl, hb1⟩)
    go_ret
    exact ⟨rfl, B0.out.trans (hb1.mono B0.out.size)⟩
  have q3 := Decidable.not_not.1 q3
  have e3 : ((z.size : Int) % 64 != 0) = false := by rw [bne_eq_false_iff_eq]; omega
  have e4 : (z.size : Int) % 64 = 0 := by omega
  have hp := H.put E Q t (by omega) W HT0.out
  have HQ := Lib.hid (And.intro q1 (And.intro q2 q3))
  clear q1 q2 q3
  go_upto_region 4 with (go_at_call 14; refine hp.mono ?_; rintro e w1 ⟨rfl, hb1⟩; have HB1 := Lib.hid hb1; clear hb1)
  have BW := Lib.hid (B0.out.trans (HB1.out.mono B0.out.size))
  have HTW := Lib.hid (HB.out _ _ HT.out BW.out)
  have Z1 := Lib.hid (old_obj HB1.out Z0.out)
  clear hp e1 e1i e2 e2i e3 e4 c0 c1 c2 HB1 B0 Z0 HT0
  by_cases q4 : wrong10 E Q t.size ≠ 0
  · have d4 : (wrong10 E Q t.size != 0) = true := by rw [bne_iff_ne]; exact q4
    have hu : tx (putL10 E Q t.data.toList) = ⟨#[]⟩ := by rw [putL_bad (by rw [text_size]; exact q4)]; rfl
    rw [hu]
    clear q4 hu
    go_wp2_with (go_at_call 7; refine (HA _ HTW.out).mono ?_; rintro e w2 ⟨rfl, hb2⟩)
    go_ret
    exact ⟨rfl, BW.out.trans (hb2.mono BW.out.size)⟩
  have q4 := Decidable.not_not.1 q4
  have d4 : (wrong10 E Q t.size != 0) = false := by rw [q4]; rfl
  have hs := fun W => H.sect t (by have := HQ.out; omega) W
  have hup := nsec_up t.size
  have hpl := put10_len E Q t.data.toList
  rw [text_size] at hpl
  have HL : Hid (∀ i : Nat, 1 ≤ i → i < nsec t.size → getE10 (put10 E Q t.data.toList ++ z.data.toList) i = 5) := Lib.hid fun i h1 h2 => get_apart10 E Q t.data.toList z.data.toList i h1 (by rw [text_size]; exact h2) (by rw [text_size]; exact HQ.out.2.2)
  rw [putL_good (by rw [text_size]; exact q4)]
  obtain ⟨n, hn⟩ : ∃ n, nsec t.size = n := ⟨_, rfl⟩
  rw [hn] at hs hup HL hpl
  obtain ⟨u, hu⟩ : ∃ u, tx (put10 E Q t.data.toList) = u := ⟨_, rfl⟩
  have hus : u.size = 64 * n := by rw [← hu, tx_size, hpl]
  rw [hu]
  have i1 : ¬ (9223372036854775807 < u.size + z.size) := by have := HQ.out; omega
  have HG : Hid (∀ (i : Nat) (v : World), 1 ≤ i → i < n → T v → Calls Tryd.prog 8 #[.string (u ++ z), .int .i64 i] v fun e w' => e = .returned (.tuple #[.agg #[.int .i64 0, .int .i64 0, .string ⟨#[]⟩], .int .i64 0, .int .i64 5]) ∧ Below v.heap.size v w') := Lib.hid fun i v h1 h2 hv => by
    refine (H.get (u ++ z) i (by rw [ByteArray.size_append]; have := HQ.out; omega) (by omega) (by have := HQ.out; omega) v hv).mono ?_
    rintro e w' ⟨rfl, hb⟩
    refine ⟨?_, hb⟩
    rw [res_bad (e := 5) (by
      rw [ByteArray.data_append, Array.toList_append, ← hu, tx_list]
      exact HL.out i h1 h2) (by omega)]
  have HN := Lib.hid (show 1 ≤ n ∧ n ≤ 1000000 by have := HQ.out; omega)
  obtain ⟨c0, c1, c2, _, _, _⟩ := three_cells Z1.out
  clear HL hup hpl hn hu q4 hus H
  go_upto_region 8 with (go_at_call 15; refine (hs _).mono ?_; rintro e w2 ⟨rfl, hb2⟩; have HB2 := Lib.hid (BW.out.trans (hb2.mono BW.out.size)); clear hb2)
  clear hs c0 c1 c2
  go_loopw [8] (fun i' wr => ∃ i : Nat, i' = .int .i64 i ∧ Hid (1 ≤ i ∧ i ≤ n) ∧ Hid (Below w.heap.size w wr)) (fun i _ => n - (intOf i).toNat)
  case atStart => exact ⟨1, rfl, Lib.hid (by have := HN.out; omega), HB2⟩
  case round =>
    obtain ⟨i, rfl, hi, hb⟩ := hrel
    by_cases hlt : i < n
    · have d1 : decide (i < n) = true := decide_eq_true hlt
      have d1i : decide ((i : Int) < (n : Int)) = true := decide_eq_true (by omega)
      have a1 : IntKind.i64.wrap ((i : Int) + 1) = ((i + 1 : Nat) : Int) := IntWalk.i64_in _ (by have := HN.out; omega)
      have hg := HG.out i wr hi.out.1 hlt (HB.out _ _ HT.out hb.out)
      have HLT := Lib.hid hlt
      clear hlt
      go_wp2_with (go_at_call 8; refine hg.mono ?_; rintro e w3 ⟨rfl, hb3⟩; have HB3 := Lib.hid (hb.out.trans (hb3.mono hb.out.size)); clear hb3)
      go_roundw
      case rel => exact ⟨i + 1, by first | rfl | go_num, Lib.hid (by have := hi.out; have := HLT.out; omega), Lib.hid (HB3.out.alloc HB3.out.size _)⟩
      case measure => have := HLT.out; simp [intOf]; omega
    · have d1 : decide (i < n) = false := decide_eq_false hlt
      have d1i : decide ((i : Int) < (n : Int)) = false := decide_eq_false (by omega)
      clear hlt
      go_wp2_with (go_at_call 7; refine (HA _ (HB.out _ _ HT.out hb.out)).mono ?_; rintro e w3 ⟨rfl, hb3⟩)
      go_ret
      exact ⟨rfl, hb.out.trans (hb3.mono hb.out.size)⟩
end Go.Proofs.YtpjahfobjnajcaaDoor
