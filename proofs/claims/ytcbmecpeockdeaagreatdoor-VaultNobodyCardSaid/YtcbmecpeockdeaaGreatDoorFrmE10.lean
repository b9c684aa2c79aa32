/- The program's Get of frames, for every text and place, in every world in which the table lies. -/
import Derived.Test.YtcbmecpeockdeaaGreatDoorCrc
import Derived.Test.YtcbmecpeockdeaaGreatDoorFrmD10
namespace Go.Proofs.YtcbmecpeockdeaaGreatDoor
open Go.RowKit

theorem got_head {r : List UInt8} (h : headE r ≠ 0) : gotE r = headE r := by
  unfold headE at h ⊢
  unfold gotE
  split
  · rfl
  split
  · rfl
  split
  · rfl
  rename_i h1 h2 h3
  rw [if_neg h1, if_neg h2, if_neg h3] at h
  rw [if_pos h]
theorem got_rest {r : List UInt8} (h : headE r = 0) : wrong10 (ep10 r) (sq10 r) (n10 r) = 0 ∧ gotE r = if joinE (nsec (n10 r)) r ≠ 0 then joinE (nsec (n10 r)) r
    else if unE ((join10 (nsec (n10 r)) r).take (n10 r + 20)) ≠ 0 then unE ((join10 (nsec (n10 r)) r).take (n10 r + 20))
    else if ∀ c ∈ rest10 r, c = 0 then 0 else 5 := by
  unfold headE at h
  split at h
  · omega
  rename_i h1
  split at h
  · omega
  rename_i h2
  split at h
  · omega
  rename_i h3
  refine ⟨h, ?_⟩
  conv => lhs; unfold gotE
  rw [if_neg h1, if_neg h2, if_neg h3, if_neg (fun h' => h' h)]
  unfold joinE
  by_cases h5 : r.length < 64 * nsec (n10 r)
  · rw [if_pos h5, if_pos h5, if_pos (by omega)]
  rw [if_neg h5, if_neg h5]
  by_cases h6 : ∃ i, i < nsec (n10 r) ∧ 1 ≤ i ∧ r.getD (64 * i) 0 ≠ 2
  · rw [if_pos h6, if_pos h6, if_pos (by omega)]
  · rw [if_neg h6, if_neg h6, if_neg (show ¬ ((0 : Int) ≠ 0) from fun h => h rfl)]
set_option maxRecDepth 100000 in
set_option maxHeartbeats 2000000 in
theorem pget10_any (s : ByteArray) (hs : s.size ≤ 281474976710656) (p : Int) (hp0 : -9223372036854775808 ≤ p) (hp1 : p ≤ 9223372036854775807) (w : World) (hT : Tab w) :
    Calls Tryz.prog 95 #[.string s, .int .i64 p] w fun e w' => e = .returned (res10 s.data.toList p) ∧ Below w.heap.size w w' := by
  have HT := Lib.hid hT
  clear hT
  obtain ⟨Z, hZ⟩ : ∃ Z : Obj, Z = .cells #[.int .i64 0, .int .i64 0, .string ⟨#[]⟩] 81 := ⟨_, rfl⟩
  have hB0 : Below w.heap.size w (w.alloc Z) := (Below.refl _ w).alloc (Nat.le_refl _) _
  have hN0 := heap_alloc_new w Z
  have hz := text_size s
  go_enter Tryz.func95, Tryz.ntmps95
  go_upto_region 1 with fail
  first | rw [← hZ] | skip
  generalize w.alloc Z = W at *
  rw [hZ] at hN0
  clear hZ
  obtain ⟨c0, c1, c2, f0, f1, f2⟩ := three_cells hN0
  have HN := Lib.hid hN0
  have HB := Lib.hid hB0
  clear hN0 hB0
  by_cases q1 : p < 0
  · have e1 : decide (p < 0) = true := decide_eq_true q1
    have HR := Lib.hid (res_bad (L := s.data.toList) (p := p) (e := 2) (by unfold getE10; rw [if_neg (by omega)]) (by omega))
    clear q1 hz hp0 hp1
    go_wp2
    refine bodyPost_ret (results_row_two rfl _ _ w.heap.size _ rfl (pfr_load (three_stored HN.out _ _ _))) rfl ?_
    exact ⟨by rw [HR.out]; rfl, three_below HB.out (by omega) _ _ _⟩
  have e1 : decide (p < 0) = false := decide_eq_false q1
  by_cases q2 : s.size % 64 ≠ 0
  · have HR := Lib.hid (res_bad (L := s.data.toList) (p := p) (e := 2) (by unfold getE10; rw [if_neg (by omega)]) (by omega))
    have e2 : ((s.size : Int) % 64 != 0) = true := by rw [bne_iff_ne]; omega
    have e3 : ¬ ((s.size : Int) % 64 = 0) := by omega
    clear q1 q2 hz hp0 hp1 hs
    go_wp2
    refine bodyPost_ret (results_row_two rfl _ _ w.heap.size _ rfl (pfr_load (three_stored HN.out _ _ _))) rfl ?_
    exact ⟨by rw [HR.out]; rfl, three_below HB.out (by omega) _ _ _⟩
  have q2 := Decidable.not_not.1 q2
  have e2 : ((s.size : Int) % 64 != 0) = false := by rw [bne_eq_false_iff_eq]; omega
  have e3 : (s.size : Int) % 64 = 0 := by omega
  obtain ⟨K, hK⟩ : ∃ K : Nat, s.size = 64 * K := ⟨s.size / 64, by omega⟩
  have i1 : IntKind.i64.wrap ((s.size : Int) / 64) = (K : Int) := by rw [show (s.size : Int) / 64 = K by omega]; exact IntWalk.i64_in _ (by omega)
  by_cases q3 : (K : Int) < p
  · have HR := Lib.hid (res_bad (L := s.data.toList) (p := p) (e := 2) (by unfold getE10; rw [if_neg (by omega)]) (by omega))
    have e4 : decide ((K : Int) < p) = true := decide_eq_true q3
    clear q1 q2 q3 hz hp0 hp1 hs hK
    go_wp2
    refine bodyPost_ret (results_row_two rfl _ _ w.heap.size _ rfl (pfr_load (three_stored HN.out _ _ _))) rfl ?_
    exact ⟨by rw [HR.out]; rfl, three_below HB.out (by omega) _ _ _⟩
  have e4 : decide ((K : Int) < p) = false := decide_eq_false q3
  have HK := Lib.hid (And.intro hK (And.intro hz hs))
  clear hK hz q2 hs
  go_upto_region 3 with fail
  obtain ⟨hK, hz, hs⟩ := HK.out
  clear e2 e3 e4
  obtain ⟨q, rfl⟩ : ∃ q : Nat, p = q := ⟨p.toNat, by omega⟩
  have hin := get_in (L := s.data.toList) (at_ := q) (by omega) (by omega)
  obtain ⟨m, hm⟩ : ∃ m, 64 * q = m := ⟨_, rfl⟩
  have i2 : IntKind.i64.wrap ((q : Int) * 64) = (m : Int) := by rw [show (q : Int) * 64 = m by omega]; exact IntWalk.i64_in _ (by omega)
  have hcut := cut_from s (m : Int) (by omega) (by omega)
  simp only [Int.toNat_natCast] at hcut
  obtain ⟨S, hS⟩ : ∃ S, s.extract m s.size = S := ⟨_, rfl⟩
  obtain ⟨r, hr⟩ : ∃ r, s.data.toList.drop (64 * q) = r := ⟨_, rfl⟩
  have hSl : S.data.toList = r := by rw [← hS, cut_list, ← hr, hm, List.take_of_length_le (by rw [List.length_drop]; omega)]
  have hSs : S.size = 64 * K - 64 * q := by rw [← text_size, hSl, ← hr, List.length_drop]; omega
  have hh := fun v => head_any S (by omega) (by omega) v
  have hrl : r.length = 64 * K - 64 * q := by rw [← hr, List.length_drop]; omega
  rw [hSl] at hh
  rw [hS] at hcut
  rw [hr] at hin
  have HQ := Lib.hid (And.intro hK (And.intro hz (And.intro hs (And.intro hin (And.intro hm (And.intro hS (And.intro hr (And.intro hSl (And.intro hSs (And.intro hrl (show q ≤ K by omega)))))))))))
  clear hK hz hs hin hm hS hr hSl hSs hrl q1 q3 hp0 hp1
  by_cases q4 : headE r ≠ 0
  · have HR := Lib.hid (res_bad (L := s.data.toList) (p := (q : Int)) (e := headE r) (by rw [HQ.out.2.2.2.1, got_head q4]) q4)
    rw [head_bad rfl q4] at hh
    have e5 : (headE r != 0) = true := by rw [bne_iff_ne]; exact q4
    generalize headE r = ER at *
    clear q4
    go_upto_region 6 with (go_at_call 113; refine (hh _).mono ?_; rintro e w1 ⟨rfl, hb1⟩; have HN1 := Lib.hid (old_obj hb1 HN.out); have HB1 := Lib.hid (HB.out.trans (hb1.mono HB.out.size)); clear hb1 c0 c1 c2 f0 f1 f2; obtain ⟨c0, c1, c2, f0, f1, f2⟩ := three_cells HN1.out)
    go_wp2
    refine bodyPost_ret (results_row_two rfl _ _ w.heap.size _ rfl (pfr_load (three_stored (three_stored HN1.out _ _ _) _ _ _))) rfl ?_
    exact ⟨by rw [HR.out]; rfl, three_below (three_below HB1.out (by omega) _ _ _) (by omega) _ _ _⟩
  have q4 := Decidable.not_not.1 q4
  obtain ⟨hw, hgot⟩ := got_rest q4
  unfold headV at hh
  rw [if_pos q4] at hh
  obtain ⟨E, hE⟩ : ∃ E, ep10 r = E := ⟨_, rfl⟩
  obtain ⟨Q, hQ'⟩ : ∃ Q, sq10 r = Q := ⟨_, rfl⟩
  obtain ⟨n, hn⟩ : ∃ n, n10 r = n := ⟨_, rfl⟩
  rw [hE, hQ', hn] at hh hw
  rw [hn] at hgot
  obtain ⟨w1, w2, w3⟩ := wrong_none hw
  have hup := nsec_up n
  have hse := fun v => psecof_any n (by omega) v
  obtain ⟨k, hk⟩ : ∃ k, nsec n = k := ⟨_, rfl⟩
  rw [hk] at hup hse hgot
  have hj := fun v => joined_any k (by omega) S (by have := HQ.out; omega) v
  rw [HQ.out.2.2.2.2.2.2.2.1] at hj
  have HV := Lib.hid (And.intro hE (And.intro hQ' (And.intro hn (And.intro hk (And.intro hup (And.intro w3 q4))))))
  have HGOT := Lib.hid hgot
  clear hE hQ' hn hk hup w1 w2 w3 hw hgot q4
  go_upto_region 7 with (go_at_call 113; refine (hh _).mono ?_; rintro e v1 ⟨rfl, hb1⟩; have HN1 := Lib.hid (old_obj hb1 HN.out); have HB1 := Lib.hid (HB.out.trans (hb1.mono HB.out.size)); clear hb1 c0 c1 c2 f0 f1 f2; obtain ⟨c0, c1, c2, f0, f1, f2⟩ := three_cells HN1.out)
  obtain ⟨V, hV⟩ : ∃ V, V = ((v1.setCell ⟨w.heap.size, 0, none⟩ (.int .i64 E)).setCell ⟨w.heap.size, 1, none⟩ (.int .i64 Q)).setCell ⟨w.heap.size, 2, none⟩ (.string ⟨#[]⟩) := ⟨_, rfl⟩
  have HNV : Hid (V.heap[w.heap.size]? = some (.cells #[.int .i64 E, .int .i64 Q, .string ⟨#[]⟩] 81 (0, 0))) := Lib.hid (by rw [hV]; exact three_stored HN1.out _ _ _)
  have HBV : Hid (Below w.heap.size w V) := Lib.hid (by rw [hV]; exact three_below HB1.out (Nat.le_refl _) _ _ _)
  rw [← hV]
  clear hV c0 c1 c2 f0 f1 f2 HN1 HB1 HN HB hh
  by_cases q5 : joinE k r ≠ 0
  · have HR := Lib.hid (res_bad (L := s.data.toList) (p := (q : Int)) (e := joinE k r) (by rw [HQ.out.2.2.2.1, HGOT.out, if_pos q5]) q5)
    have e5 : (joinE k r != 0) = true := by rw [bne_iff_ne]; exact q5
    generalize joinE k r = ER at *
    clear q5
    go_wp2_with (first
      | (go_at_call 63; refine (hse _).mono ?_; rintro e v2 ⟨rfl, rfl⟩)
      | (go_at_call 114; refine (hj _).mono ?_; rintro e v2 ⟨rfl, hb2⟩; have HN2 := Lib.hid (old_obj hb2 HNV.out); have HB2 := Lib.hid (HBV.out.trans (hb2.mono HBV.out.size)); clear hb2; obtain ⟨c0, c1, c2, f0, f1, f2⟩ := three_cells HN2.out))
    refine bodyPost_ret (results_row_two rfl _ _ w.heap.size _ rfl (pfr_load (three_stored HN2.out _ _ _))) rfl ?_
    exact ⟨by rw [HR.out]; rfl, three_below HB2.out (Nat.le_refl _) _ _ _⟩
  have q5 := Decidable.not_not.1 q5
  have hjl : joinL k r = join10 k r := by unfold joinL; rw [if_pos q5]
  have hkr : 64 * k ≤ r.length := by
    have h := q5
    unfold joinE at h
    split at h
    · omega
    · omega
  rw [q5, hjl] at hj
  obtain ⟨J, hJ⟩ : ∃ J, tx (join10 k r) = J := ⟨_, rfl⟩
  have hJl : J.data.toList = join10 k r := by rw [← hJ, tx_list]
  have hJs : J.size = 63 * k := by rw [← text_size, hJl, join_len k r hkr]
  rw [hJ] at hj
  obtain ⟨P, hP⟩ : ∃ P, n + 20 = P := ⟨_, rfl⟩
  have hPJ : P ≤ J.size := by have := HV.out; omega
  have a1 : IntKind.i64.wrap (20 + (n : Int)) = (P : Int) := by rw [show 20 + (n : Int) = (P : Int) by omega]; exact IntWalk.i64_in _ (by have := HV.out; omega)
  have hc1 := cut_to J (P : Int) (by omega) (by omega)
  have hc2 := cut_from J (P : Int) (by omega) (by omega)
  simp only [Int.toNat_natCast] at hc1 hc2
  obtain ⟨U, hU⟩ : ∃ U, J.extract 0 P = U := ⟨_, rfl⟩
  obtain ⟨D, hD⟩ : ∃ D, J.extract P J.size = D := ⟨_, rfl⟩
  have hUl : U.data.toList = (join10 k r).take P := by rw [← hU, cut_list, hJl]; simp
  have hDl : D.data.toList = (join10 k r).drop P := by rw [← hD, cut_list, hJl, List.take_of_length_le (by rw [List.length_drop, join_len k r hkr]; omega)]
  have hUs : U.size = P := by rw [← hU, ByteArray.size_extract]; omega
  rw [hU] at hc1
  rw [hD] at hc2
  have hun := fun v h => cunseal_any U (by have := HV.out; omega) v h
  rw [hUl] at hun
  have HG2 : Hid (gotE r = if unE ((join10 k r).take P) ≠ 0 then unE ((join10 k r).take P) else if ∀ c ∈ rest10 r, c = 0 then 0 else 5) := Lib.hid (by rw [HGOT.out, if_neg (fun h => h q5), hP])
  have HJ := Lib.hid (And.intro hP (And.intro hDl (And.intro hUs (And.intro hJs (And.intro hJl hkr)))))
  clear q5 hjl hkr hJ hJl hJs hP hPJ hU hD hUl hDl hUs HGOT
  go_upto_region 11 with (first
      | (go_at_call 63; refine (hse _).mono ?_; rintro e v2 ⟨rfl, rfl⟩)
      | (go_at_call 114; refine (hj _).mono ?_; rintro e v2 ⟨rfl, hb2⟩; have HN2 := Lib.hid (old_obj hb2 HNV.out); have HB2 := Lib.hid (HBV.out.trans (hb2.mono HBV.out.size)); clear hb2))
  clear hse hj
  go_quiet (fail)
  have bq := below_drewN v2 nq
  have HN3 := Lib.hid (old_obj bq HN2.out)
  have HB3 := Lib.hid (HB2.out.trans (bq.mono HB2.out.size))
  generalize v2.drewN nq = V3 at *
  clear bq HN2 HB2 HNV HBV hc1 hc2 hcut
  have HTV := Lib.hid (HT.out.below HB3.out)
  have hu := hun _ HTV.out
  clear hun
  by_cases q6 : unE ((join10 k r).take P) ≠ 0
  · have HR := Lib.hid (res_bad (L := s.data.toList) (p := (q : Int)) (e := unE ((join10 k r).take P)) (by rw [HQ.out.2.2.2.1, HG2.out, if_pos q6]) q6)
    have e6 : (unE ((join10 k r).take P) != 0) = true := by rw [bne_iff_ne]; exact q6
    generalize unE ((join10 k r).take P) = ER at *
    clear q6
    go_wp2_with (go_at_call 66; refine hu.mono ?_; rintro e v4 ⟨t2, rfl, ht2, hb4⟩; have HN4 := Lib.hid (old_obj hb4 HN3.out); have HB4 := Lib.hid (HB3.out.trans (hb4.mono HB3.out.size)); clear hb4 ht2; obtain ⟨c0, c1, c2, f0, f1, f2⟩ := three_cells HN4.out)
    refine bodyPost_ret (results_row_two rfl _ _ w.heap.size _ rfl (pfr_load (three_stored HN4.out _ _ _))) rfl ?_
    exact ⟨by rw [HR.out]; rfl, three_below HB4.out (Nat.le_refl _) _ _ _⟩
  have q6 := Decidable.not_not.1 q6
  rw [q6] at hu
  have HE2 : Hid (gotE r = if ∀ c ∈ rest10 r, c = 0 then 0 else 5) := Lib.hid (by rw [HG2.out, if_neg (fun h => h q6)])
  have H6 := Lib.hid q6
  clear q6 HG2
  go_upto_region 15 with (go_at_call 66; refine hu.mono ?_; rintro e v4 ⟨t2, rfl, ht2, hb4⟩; have HN4 := Lib.hid (old_obj hb4 HN3.out); have HB4 := Lib.hid (HB3.out.trans (hb4.mono HB3.out.size)); have HT2 := Lib.hid ht2.out; clear hb4 ht2)
  clear hu
  have hpd := fun v => padding_any (k : Int) v
  go_upto_region 16 with (go_at_call 73; refine (hpd _).mono ?_; rintro e v5 ⟨rfl, rfl⟩)
  have HN5 := Lib.hid (old_obj ((Below.refl _ v4).alloc (Nat.le_refl _) (.cells #[.int .i64 k] 3)) HN4.out)
  have HB5 := Lib.hid (HB4.out.alloc HB4.out.size (.cells #[.int .i64 k] 3))
  have hc5 := cell_of (j := 0) (heap_alloc_new v4 (.cells #[.int .i64 k] 3)) rfl
  have hpc := padto_any k v4.heap.size (by have := HV.out; omega) U (by have := HJ.out; have := HV.out; omega) (by have := HJ.out; have := HV.out; omega) _ hc5
  generalize v4.alloc (.cells #[.int .i64 k] 3) = V5 at *
  generalize v4.heap.size = b5 at *
  clear hpd hc5 HN4 HB4 HN3 HB3
  have hrest : rest10 r = D.data.toList := by
    unfold rest10
    rw [HV.out.2.2.1, HV.out.2.2.2.1, HJ.out.1, HJ.out.2.1]
  have hDs : D.data.toList.length = 63 * k - U.size := by rw [HJ.out.2.1, List.length_drop, ← HJ.out.2.2.2.2.1, text_size]; have := HJ.out; omega
  by_cases q7 : ∀ c ∈ rest10 r, c = 0
  · have hD0 : D = tx (List.replicate (63 * k - U.size) 0) := by
      apply tx_of
      rw [List.eq_replicate_iff]
      exact ⟨hDs, by rw [← hrest]; exact q7⟩
    rw [← hD0] at hpc
    have hE0 : getE10 s.data.toList q = 0 := by rw [HQ.out.2.2.2.1, HE2.out, if_pos q7]
    have ht2 : t2.data.toList = (join10 k r).take (n + 16) := by
      rw [HT2.out]
      unfold unL
      rw [if_pos H6.out, List.length_take, List.take_take, ← HJ.out.2.2.2.2.1, text_size]
      congr 1
      have := HJ.out
      have := HV.out
      omega
    have ht2s : t2.size = n + 16 := by
      rw [← text_size, ht2, List.length_take, ← HJ.out.2.2.2.2.1, text_size]
      have := HJ.out
      have := HV.out
      omega
    have hcut2 := cut_from t2 (16 : Int) (by omega) (by omega)
    simp only [show (16 : Int).toNat = 16 from rfl] at hcut2
    have hbt : t2.extract 16 t2.size = tx (getB s.data.toList q) := by
      apply tx_of
      unfold getB
      rw [if_pos hE0, Int.toNat_natCast, HQ.out.2.2.2.2.2.2.1, cut_list, ht2, ht2s]
      unfold gotB
      rw [HV.out.2.2.1, HV.out.2.2.2.1, List.drop_take, List.take_take]
      congr 1
      omega
    obtain ⟨y, hy⟩ : ∃ y, q + k = y := ⟨_, rfl⟩
    have a2 : IntKind.i64.wrap ((q : Int) + (k : Int)) = (y : Int) := by rw [show (q : Int) + (k : Int) = (y : Int) by omega]; exact IntWalk.i64_in _ (by have := HQ.out; have := HV.out; omega)
    have HR : Hid (res10 s.data.toList q = .tuple #[.agg #[.int .i64 E, .int .i64 Q, .string (t2.extract 16 t2.size)], .int .i64 y, .int .i64 0]) := Lib.hid (by
      have hr := HQ.out.2.2.2.2.2.2.1
      have g1 : getEp s.data.toList q = E := by unfold getEp; rw [if_pos hE0, Int.toNat_natCast, hr, HV.out.1]
      have g2 : getSq s.data.toList q = Q := by unfold getSq; rw [if_pos hE0, Int.toNat_natCast, hr, HV.out.2.1]
      have g3 : getTo s.data.toList q = y := by unfold getTo; rw [if_pos hE0, Int.toNat_natCast, hr, HV.out.2.2.1, HV.out.2.2.2.1]; omega
      unfold res10
      rw [g1, g2, g3, hbt, hE0])
    obtain ⟨Y, hY⟩ : ∃ Y, t2.extract 16 t2.size = Y := ⟨_, rfl⟩
    rw [hY] at hcut2 HR
    have e9 : (D.toList == D.toList) = true := by simp
    have e9b : (D.toList != D.toList) = false := by simp
    clear hrest hDs q7 hD0 hE0 ht2 ht2s hbt hy hY
    go_wp2_with (go_at_call 99; refine hpc.mono ?_; rintro e v6 ⟨rfl, hb6⟩; have HN6 := Lib.hid (old_obj hb6 HN5.out); have HB6 := Lib.hid (HB5.out.trans (hb6.mono HB5.out.size)); clear hb6; obtain ⟨c0, c1, c2, f0, f1, f2⟩ := three_cells HN6.out)
    have z7 : (v6.setCell ⟨w.heap.size, 2, none⟩ (.string Y)).heap[w.heap.size]? = some (.cells #[.int .i64 E, .int .i64 Q, .string Y] 81 (0, 0)) := heap_setCell_same v6 w.heap.size 2 _ _ (.string Y) HN6.out
    refine bodyPost_ret (results_row_two rfl _ _ w.heap.size _ rfl (pfr_load (three_stored z7 _ _ _))) rfl ?_
    exact ⟨by rw [HR.out]; rfl, three_below (HB6.out.setCell (p := ⟨w.heap.size, 2, none⟩) (Nat.le_refl _) _) (Nat.le_refl _) _ _ _⟩
  · have hD0 : D ≠ tx (List.replicate (63 * k - U.size) 0) := fun h => q7 (by
      rw [hrest, h, tx_list]
      exact fun c hc => (List.mem_replicate.1 hc).2)
    have HR := Lib.hid (res_bad (L := s.data.toList) (p := (q : Int)) (e := 5) (by rw [HQ.out.2.2.2.1, HE2.out, if_neg q7]) (by omega))
    generalize tx (List.replicate (63 * k - U.size) 0) = PD at *
    have e9 : (D.toList == PD.toList) = false := by
      rw [beq_eq_false_iff_ne]
      intro h
      apply hD0
      apply text_eq
      rw [← ByteArray.toList_eq, ← ByteArray.toList_eq, h]
    clear hrest hDs q7 hD0
    go_wp2_with (go_at_call 99; refine hpc.mono ?_; rintro e v6 ⟨rfl, hb6⟩; have HN6 := Lib.hid (old_obj hb6 HN5.out); have HB6 := Lib.hid (HB5.out.trans (hb6.mono HB5.out.size)); clear hb6; obtain ⟨c0, c1, c2, f0, f1, f2⟩ := three_cells HN6.out)
    refine bodyPost_ret (results_row_two rfl _ _ w.heap.size _ rfl (pfr_load (three_stored HN6.out _ _ _))) rfl ?_
    exact ⟨by rw [HR.out]; rfl, three_below HB6.out (Nat.le_refl _) _ _ _⟩
end Go.Proofs.YtcbmecpeockdeaaGreatDoor
