/- The program's Put of frames, for every frame, in every world in which the table lies. -/
import Derived.Test.YtcbmecpeockdeaaGreatDoorFrmE10
import Derived.Test.YtcbmecpeockdeaaGreatDoorMOcount
import Derived.Test.YtcbmecpeockdeaaGreatDoorMRef10
namespace Go.Proofs.YtcbmecpeockdeaaGreatDoor
open Go.RowKit

theorem be_putL10 (n : Int) (x : Nat) (hx : wideW x) (h0 : 0 ≤ n) (h1 : n < (256 : Int) ^ x) : putE n x = 0 ∧ putL n x = be x n.toNat := by
  have he : putE n x = 0 := by unfold putE; rw [if_pos hx, if_pos ⟨h0, by simpa using h1⟩]
  exact ⟨he, by unfold putL; rw [if_pos he, Int.toNat_natCast]⟩
set_option maxRecDepth 100000 in
set_option maxHeartbeats 2000000 in
theorem pput10_any (E Q : Int) (t : ByteArray) (ht : t.size ≤ 281474976710656) (w : World) (hT : Tab w) :
    Calls Tryz.prog 53 #[.agg #[.int .i64 E, .int .i64 Q, .string t]] w fun e w' => e = .returned (.tuple #[.string (tx (putL10 E Q t.data.toList)), .int .i64 (wrong10 E Q t.size)]) ∧ Below w.heap.size w w' := by
  have HT := Lib.hid hT
  clear hT
  obtain ⟨W, hW⟩ : ∃ W, W = w.alloc (.cells #[.int .i64 E, .int .i64 Q, .string t] 81 (0, 0)) := ⟨_, rfl⟩
  have b0 : Below w.heap.size w W := by rw [hW]; exact (Below.refl _ w).alloc (Nat.le_refl _) _
  have z0 : W.heap[w.heap.size]? = some (.cells #[.int .i64 E, .int .i64 Q, .string t] 81 (0, 0)) := by rw [hW]; exact heap_alloc_new w _
  obtain ⟨c0, c1, c2, _, _, _⟩ := three_cells z0
  have B0 := Lib.hid b0
  have Z0 := Lib.hid z0
  clear b0 z0
  have ho := fun v => poutside10_any E Q t.size v
  go_enter Tryz.func53, Tryz.ntmps53
  go_upto_region 1 with fail
  rw [← hW]
  clear hW
  by_cases q1 : wrong10 E Q t.size ≠ 0
  · have e1 : (wrong10 E Q t.size != 0) = true := by rw [bne_iff_ne]; exact q1
    have hL : tx (putL10 E Q t.data.toList) = ⟨#[]⟩ := by rw [putL_bad (by rw [text_size]; exact q1)]; rfl
    have HL := Lib.hid hL
    clear q1 hL ht
    go_wp2_with (go_at_call 72; refine (ho _).mono ?_; rintro e v1 ⟨rfl, rfl⟩)
    go_ret2
    exact ⟨by rw [HL.out]; rfl, B0.out⟩
  have q1 := Decidable.not_not.1 q1
  obtain ⟨w1, w2, w3⟩ := wrong_none q1
  have HQ1 := Lib.hid (And.intro q1 (putL_good (ep := E) (sq := Q) (b := t.data.toList) (by rw [text_size]; exact q1)))
  rw [q1] at ho
  obtain ⟨p1, p2⟩ := be_putL10 E 8 (by unfold wideW; omega) (by omega) (by omega)
  obtain ⟨p3, p4⟩ := be_putL10 Q 4 (by unfold wideW; omega) (by omega) (by omega)
  obtain ⟨p5, p6⟩ := be_putL10 (t.size : Int) 4 (by unfold wideW; omega) (by omega) (by omega)
  have hp8 := fun v => oput_any E 8 (by omega) v
  have hp4 := fun v => oput_any Q 4 (by omega) v
  have hpl := fun v => oput_any (t.size : Int) 4 (by omega) v
  rw [show ((8 : Nat) : Int) = 8 from rfl] at p1 p2
  rw [show ((4 : Nat) : Int) = 4 from rfl] at p3 p4 p5 p6
  rw [Int.toNat_natCast] at p6
  rw [p1, p2] at hp8
  rw [p3, p4] at hp4
  rw [p5, p6] at hpl
  have HW3 := Lib.hid w3
  clear p1 p2 p3 p4 p5 p6 q1 w1 w2 w3 ht
  go_upto_region 4 with (go_at_call 72; refine (ho _).mono ?_; rintro e v1 ⟨rfl, rfl⟩)
  clear ho
  go_upto_region 5 with (go_at_call 56; refine (hp8 _).mono ?_; rintro e v1 ⟨a, rfl, ha, hb1⟩; have Z1 := Lib.hid (old_obj hb1 Z0.out); have B1 := Lib.hid (B0.out.trans (hb1.mono B0.out.size)); have HA := Lib.hid ha.out; clear ha hb1)
  clear hp8 B0 Z0 c0 c1 c2
  obtain ⟨c0, c1, c2, _, _, _⟩ := three_cells Z1.out
  go_upto_region 6 with (go_at_call 56; refine (hp4 _).mono ?_; rintro e v2 ⟨b, rfl, ha, hb1⟩; have Z2 := Lib.hid (old_obj hb1 Z1.out); have B2 := Lib.hid (B1.out.trans (hb1.mono B1.out.size)); have HBB := Lib.hid ha.out; clear ha hb1)
  clear hp4 B1 Z1 c0 c1 c2
  obtain ⟨c0, c1, c2, _, _, _⟩ := three_cells Z2.out
  go_upto_region 7 with (go_at_call 56; refine (hpl _).mono ?_; rintro e v3 ⟨c, rfl, ha, hb1⟩; have Z3 := Lib.hid (old_obj hb1 Z2.out); have B3 := Lib.hid (B2.out.trans (hb1.mono B2.out.size)); have HCC := Lib.hid ha.out; clear ha hb1)
  clear hpl B2 Z2 c0 c1 c2
  obtain ⟨c0, c1, c2, _, _, _⟩ := three_cells Z3.out
  have a8 : a.size = 8 := by rw [← text_size, HA.out, be_len]
  have b4 : b.size = 4 := by rw [← text_size, HBB.out, be_len]
  have c4 : c.size = 4 := by rw [← text_size, HCC.out, be_len]
  have i1 : ¬ (9223372036854775807 < a.size + b.size) := by omega
  have i2 : ¬ (9223372036854775807 < a.size + b.size + c.size) := by omega
  have i3 : ¬ (9223372036854775807 < a.size + b.size + c.size + t.size) := by have := HW3.out; omega
  obtain ⟨K, hK⟩ : ∃ K, a ++ b ++ c ++ t = K := ⟨_, rfl⟩
  have hKl : K.data.toList = head10 E Q t.data.toList := by
    rw [← hK, ByteArray.data_append, ByteArray.data_append, ByteArray.data_append, Array.toList_append, Array.toList_append, Array.toList_append, HA.out, HBB.out, HCC.out, List.append_assoc, List.append_assoc]
    unfold head10
    rw [text_size]
  have hKs : K.size = t.size + 16 := by rw [← text_size, hKl, head_len, text_size]
  have hse := fun v h => cseal_any K (by have := HW3.out; omega) v h
  obtain ⟨S, hS⟩ : ∃ S, K ++ fourT (ofN K.data.toList) = S := ⟨_, rfl⟩
  have hSl : S.data.toList = sealL (head10 E Q t.data.toList) := by rw [← hS, cat_four, hKl]; rfl
  have hSs : S.size = t.size + 20 := by rw [← text_size, hSl, seal_len10, head_len, text_size]
  rw [hS] at hse
  have hse3 := hse _ (HT.out.below B3.out)
  have HKK := Lib.hid hK
  have HS := Lib.hid (And.intro hSl hSs)
  clear hse hS hKl hKs hK hSl hSs
  go_upto_region 8 with (go_at_call 57; first | rw [HKK.out] | skip; refine hse3.mono ?_; rintro e v4 ⟨rfl, hb1⟩; have Z4 := Lib.hid (old_obj hb1 Z3.out); have B4 := Lib.hid (B3.out.trans (hb1.mono B3.out.size)); clear hb1)
  clear hse3 B3 Z3 c0 c1 c2 i1 i2 i3
  obtain ⟨c0, c1, c2, _, _, _⟩ := three_cells Z4.out
  have hsc := fun v => psects_any t (by have := HW3.out; omega) v
  have hup := nsec_up t.size
  have hfl := full_len E Q t.data.toList
  rw [text_size] at hfl
  have hput : put10 E Q t.data.toList = chop 1 (nsec t.size) (full10 E Q t.data.toList) := by unfold put10; rw [text_size]
  have hful : full10 E Q t.data.toList = S.data.toList ++ List.replicate (63 * nsec t.size - S.size) 0 := by rw [HS.out.1, HS.out.2]; unfold full10; rw [text_size]
  obtain ⟨n, hn⟩ : ∃ n, nsec t.size = n := ⟨_, rfl⟩
  rw [hn] at hsc hup hfl hput hful
  have hpd := fun v => padding_any (n : Int) v
  go_upto_region 9 with (first
    | (go_at_call 43; refine (hsc _).mono ?_; rintro e v5 ⟨rfl, rfl⟩)
    | (go_at_call 73; refine (hpd _).mono ?_; rintro e v6 ⟨rfl, rfl⟩))
  have B5 := Lib.hid (B4.out.alloc B4.out.size (.cells #[.int .i64 n] 3))
  have hc5 := cell_of (j := 0) (heap_alloc_new v4 (.cells #[.int .i64 n] 3)) rfl
  have hpc := padto_any n v4.heap.size (by have := HW3.out; omega) S (by rw [HS.out.2]; omega) (by rw [HS.out.2]; have := HW3.out; omega) _ hc5
  generalize v4.alloc (.cells #[.int .i64 n] 3) = V5 at *
  generalize v4.heap.size = b5 at *
  obtain ⟨PD, hPD⟩ : ∃ PD, tx (List.replicate (63 * n - S.size) 0) = PD := ⟨_, rfl⟩
  rw [hPD] at hpc
  have hPs : PD.size = 63 * n - S.size := by rw [← hPD, tx_size, List.length_replicate]
  have i4 : ¬ (9223372036854775807 < S.size + PD.size) := by have := HW3.out; have := HS.out.2; omega
  have hcat : S ++ PD = tx (full10 E Q t.data.toList) := by
    apply tx_of
    rw [ByteArray.data_append, Array.toList_append, ← hPD, tx_list, hful]
  have hdv : ∀ v, Calls Tryz.prog 74 #[.string (S ++ PD)] v fun e w' => e = .returned (.string (tx (put10 E Q t.data.toList))) ∧ Below v.heap.size v w' := fun v => by
    rw [hcat, hput]
    exact divided_any n (by have := HW3.out; omega) _ hfl v
  clear hsc hup hfl hput hful hn hpd hc5 hPD hPs hcat B4 Z4 c0 c1 c2
  go_wp2_with (first
    | (go_at_call 99; refine hpc.mono ?_; rintro e v7 ⟨rfl, hb7⟩; have B7 := Lib.hid (B5.out.trans (hb7.mono B5.out.size)); clear hb7)
    | (go_at_call 74; refine (hdv _).mono ?_; rintro e v8 ⟨rfl, hb8⟩; have B8 := Lib.hid (B7.out.trans (hb8.mono B7.out.size)); clear hb8))
  go_ret2
  exact ⟨by rw [HQ1.out.1, HQ1.out.2]; rfl, B8.out⟩
end Go.Proofs.YtcbmecpeockdeaaGreatDoor
