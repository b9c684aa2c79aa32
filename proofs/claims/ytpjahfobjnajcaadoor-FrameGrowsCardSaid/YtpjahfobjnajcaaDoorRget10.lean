/- The document's own Get of frames, for every text and place, in every world. -/
import Derived.Test.YtpjahfobjnajcaaDoorRef10
namespace Go.Proofs.YtpjahfobjnajcaaDoor
open Go.RowKit

set_option maxRecDepth 100000 in
set_option maxHeartbeats 1000000 in
theorem rget10_any (s : ByteArray) (hs : s.size ≤ 281474976710656) (p : Int) (hp0 : -9223372036854775808 ≤ p) (hp1 : p ≤ 9223372036854775807) (w : World) :
    Calls Tryd.prog 9 #[.string s, .int .i64 p] w fun e w' => e = .returned (res10 s.data.toList p) ∧ Below w.heap.size w w' := by
  obtain ⟨Z, hZ⟩ : ∃ Z : Obj, Z = .cells #[.int .i64 0, .int .i64 0, .string ⟨#[]⟩] 28 := ⟨_, rfl⟩
  have hB0 : Below w.heap.size w (w.alloc Z) := (Below.refl _ w).alloc (Nat.le_refl _) _
  have hN0 := heap_alloc_new w Z
  have hz := text_size s
  go_enter Tryd.func9, Tryd.ntmps9
  go_upto_region 1 with fail
  first | rw [← hZ] | skip
  generalize w.alloc Z = W at *
  rw [hZ] at hN0
  clear hZ
  obtain ⟨c0, c1, c2, f0, f1, f2⟩ := three_cells hN0
  have HN := Lib.hid hN0
  have HB := Lib.hid hB0
  clear hN0 hB0
  by_cases q1 : p < 0
  · have e1 : decide (p < 0) = true := decide_eq_true q1
    have HR := Lib.hid (res_bad (L := s.data.toList) (p := p) (e := 2) (by unfold getE10; rw [if_neg (by omega)]) (by omega))
    clear q1 hz hp0 hp1
    go_wp2
    refine bodyPost_ret (results_row_two rfl _ _ w.heap.size _ rfl (rfr_load (three_stored HN.out _ _ _))) rfl ?_
    exact ⟨by rw [HR.out]; rfl, three_below HB.out (by omega) _ _ _⟩
  have e1 : decide (p < 0) = false := decide_eq_false q1
  by_cases q2 : s.size % 64 ≠ 0
  · have HR := Lib.hid (res_bad (L := s.data.toList) (p := p) (e := 2) (by unfold getE10; rw [if_neg (by omega)]) (by omega))
    have e2 : ((s.size : Int) % 64 != 0) = true := by rw [bne_iff_ne]; omega
    have e3 : ¬ ((s.size : Int) % 64 = 0) := by omega
    clear q1 q2 hz hp0 hp1 hs
    go_wp2
    refine bodyPost_ret (results_row_two rfl _ _ w.heap.size _ rfl (rfr_load (three_stored HN.out _ _ _))) rfl ?_
    exact ⟨by rw [HR.out]; rfl, three_below HB.out (by omega) _ _ _⟩
  have q2 := Decidable.not_not.1 q2
  have e2 : ((s.size : Int) % 64 != 0) = false := by rw [bne_eq_false_iff_eq]; omega
  have e3 : (s.size : Int) % 64 = 0 := by omega
  obtain ⟨K, hK⟩ : ∃ K : Nat, s.size = 64 * K := ⟨s.size / 64, by omega⟩
  have i1 : IntKind.i64.wrap ((s.size : Int) / 64) = (K : Int) := by rw [show (s.size : Int) / 64 = K by omega]; exact IntWalk.i64_in _ (by omega)
  by_cases q3 : (K : Int) < p
  · have HR := Lib.hid (res_bad (L := s.data.toList) (p := p) (e := 2) (by unfold getE10; rw [if_neg (by omega)]) (by omega))
    have e4 : decide ((K : Int) < p) = true := decide_eq_true q3
    clear q1 q2 q3 hz hp0 hp1 hs hK
    go_wp2
    refine bodyPost_ret (results_row_two rfl _ _ w.heap.size _ rfl (rfr_load (three_stored HN.out _ _ _))) rfl ?_
    exact ⟨by rw [HR.out]; rfl, three_below HB.out (by omega) _ _ _⟩
  have e4 : decide ((K : Int) < p) = false := decide_eq_false q3
  have HK := Lib.hid (And.intro hK hz)
  clear hK hz q2
  go_upto_region 3 with fail
  have hK := HK.out.1
  have hz := HK.out.2
  clear e2 e3 e4
  obtain ⟨q, rfl⟩ : ∃ q : Nat, p = q := ⟨p.toNat, by omega⟩
  have hin := get_in (L := s.data.toList) (at_ := q) (by omega) (by omega)
  by_cases q4 : q = K
  · have HR := Lib.hid (res_bad (L := s.data.toList) (p := (q : Int)) (e := 4) (by rw [hin, List.drop_of_length_le (by omega), got_nil]) (by omega))
    have e5 : ((q : Int) == (K : Int)) = true := by rw [beq_iff_eq]; omega
    have e5n : (q == K) = true := by rw [beq_iff_eq]; omega
    clear q1 q3 q4 hz hp0 hp1 hs hK hin
    go_wp2
    refine bodyPost_ret (results_row_two rfl _ _ w.heap.size _ rfl (rfr_load (three_stored HN.out _ _ _))) rfl ?_
    exact ⟨by rw [HR.out]; rfl, three_below HB.out (by omega) _ _ _⟩
  have e5 : ((q : Int) == (K : Int)) = false := by rw [beq_eq_false_iff_ne]; omega
  have e5n : (q == K) = false := by rw [beq_eq_false_iff_ne]; omega
  have hqK : q < K := by omega
  obtain ⟨m, hm⟩ : ∃ m, 64 * q = m := ⟨_, rfl⟩
  have i2 : IntKind.i64.wrap (64 * (q : Int)) = (m : Int) := by rw [show 64 * (q : Int) = m by omega]; exact IntWalk.i64_in _ (by omega)
  have b0 : (0 : Int) ≤ (m : Int) := by omega
  have hms : m < s.size := by omega
  have b1 : (m : Int) < (s.size : Int) := by omega
  have hr0 : s[m].toNat = ((s.data.toList.drop (64 * q)).getD 0 0).toNat := by
    rw [List.getD_eq_getElem?_getD, List.getElem?_drop, Nat.add_zero, hm, List.getElem?_eq_getElem (by omega)]
    rfl
  obtain ⟨r, hr⟩ : ∃ r, s.data.toList.drop (64 * q) = r := ⟨_, rfl⟩
  have hnum := nums10 s.data.toList q (by omega)
  rw [hr] at hr0 hin hnum
  have hrl : r.length = 64 * K - 64 * q := by rw [← hr, List.length_drop]; omega
  by_cases q5 : r.getD 0 0 ≠ 1
  · have HR := Lib.hid (res_bad (L := s.data.toList) (p := (q : Int)) (e := 5) (by rw [hin]; unfold gotE; rw [if_neg (by omega), if_pos q5]) (by omega))
    have e6 : ((s[m].toNat : Int) != 1) = true := by
      rw [bne_iff_ne, hr0]
      intro h
      exact q5 (UInt8.toNat_inj.1 (by rw [show (1 : UInt8).toNat = 1 from rfl]; omega))
    clear q1 q3 q4 q5 hz hp0 hp1 hs hK hin hqK hm hr hrl hr0 hnum
    go_wp2
    refine bodyPost_ret (results_row_two rfl _ _ w.heap.size _ rfl (rfr_load (three_stored HN.out _ _ _))) rfl ?_
    exact ⟨by rw [HR.out]; rfl, three_below HB.out (by omega) _ _ _⟩
  have q5 := Decidable.not_not.1 q5
  have e6 : ((s[m].toNat : Int) != 1) = false := by
    rw [bne_eq_false_iff_eq, hr0, q5]
    rfl
  have HD := Lib.hid (And.intro hrl (And.intro hm (And.intro hr (And.intro hin (And.intro q5 (And.intro hK hz))))))
  have HNU := Lib.hid hnum
  clear hr0 hrl hm hr hin q5 hnum hK hz
  go_upto_region 7 with fail
  obtain ⟨hrl, hm, hr, hin, q5, hK, hz⟩ := HD.out
  have hnum := HNU.out
  clear e5 e5n e6 HNU
  obtain ⟨k1, k2, k3, k4, k5, k6, k7, k8⟩ := hnum
  have a1 : IntKind.i64.wrap ((m : Int) + 1) = ((64 * q + 1 : Nat) : Int) := by rw [show (m : Int) + 1 = ((64 * q + 1 : Nat) : Int) by omega]; exact IntWalk.i64_in _ (by omega)
  obtain ⟨m1, hm1⟩ : ∃ m1, 64 * q + 1 = m1 := ⟨_, rfl⟩
  obtain ⟨m9, hm9⟩ : ∃ m9, 64 * q + 9 = m9 := ⟨_, rfl⟩
  obtain ⟨m13, hm13⟩ : ∃ m13, 64 * q + 13 = m13 := ⟨_, rfl⟩
  have g1 := fun W => rget_any s (by omega) ((64 * q + 1 : Nat) : Int) 8 (by omega) (by omega) W
  have g2 := fun W => rget_any s (by omega) ((64 * q + 9 : Nat) : Int) 4 (by omega) (by omega) W
  have g3 := fun W => rget_any s (by omega) ((64 * q + 13 : Nat) : Int) 4 (by omega) (by omega) W
  rw [k3, k4, k5] at g2
  rw [k6, k7] at g3
  rw [hm1] at g1 k1 k2 a1
  rw [hm9] at g2 k2
  rw [hm13] at g2 g3
  by_cases q6 : 127 < (r.getD 1 0).toNat
  · have HR := Lib.hid (res_bad (L := s.data.toList) (p := (q : Int)) (e := 8) (by rw [hin]; unfold gotE; rw [if_neg (by omega), if_neg (fun h => h q5), if_pos q6]) (by omega))
    rw [k1, if_pos q6] at g1
    clear q1 q3 q4 q5 q6 hz hp0 hp1 hs hK hin hqK hm hr hrl g2 g3 k1 k2 k3 k4 k5 k6 k7 k8 hm1 hm9 hm13
    go_wp2_with (go_at_call 21; refine (g1 _).mono ?_; rintro e w1 ⟨rfl, rfl⟩)
    refine bodyPost_ret (results_row_two rfl _ _ w.heap.size _ rfl (rfr_load (three_stored HN.out _ _ _))) rfl ?_
    exact ⟨by rw [HR.out]; rfl, three_below HB.out (by omega) _ _ _⟩
  rw [k1, if_neg q6, (k2 q6).1, (k2 q6).2] at g1
  clear k1 k2 k3 k4 k5 k6 k7 k8
  have hEa : gotE r = if wrong10 (ep10 r) (sq10 r) (n10 r) ≠ 0 then wrong10 (ep10 r) (sq10 r) (n10 r)
    else if r.length < 64 * nsec (n10 r) then 4
    else if ∃ i, i < nsec (n10 r) ∧ 1 ≤ i ∧ r.getD (64 * i) 0 ≠ 2 then 5
    else if unE ((join10 (nsec (n10 r)) r).take (n10 r + 20)) ≠ 0 then unE ((join10 (nsec (n10 r)) r).take (n10 r + 20))
    else if ∀ c ∈ rest10 r, c = 0 then 0 else 5 := by
    conv => lhs; unfold gotE
    rw [if_neg (by omega), if_neg (fun h => h q5), if_neg q6]
  obtain ⟨E, hE⟩ : ∃ E, ep10 r = E := ⟨_, rfl⟩
  obtain ⟨Q, hQ⟩ : ∃ Q, sq10 r = Q := ⟨_, rfl⟩
  obtain ⟨n, hn⟩ : ∃ n, n10 r = n := ⟨_, rfl⟩
  rw [hE] at g1
  rw [hQ] at g2
  rw [hn] at g3
  rw [hE, hQ, hn] at hEa
  have HD := Lib.hid (And.intro hrl (And.intro hm (And.intro hr (And.intro hin (And.intro q5 (And.intro hK (And.intro hz (And.intro hEa (And.intro hE (And.intro hQ (And.intro hn (And.intro hm9 hm13))))))))))))
  clear hrl hm hr hin q5 hK hz hEa hE hQ hn hm1 hm9 hm13
  go_upto_region 12 with (first
    | (have _t := HT2; go_at_call 21; refine (g3 _).mono ?_; rintro e w1 ⟨rfl, rfl⟩)
    | (have _t := HT1; go_at_call 21; refine (g2 _).mono ?_; rintro e w1 ⟨rfl, rfl⟩; have HT2 := Lib.hid True.intro)
    | (go_at_call 21; refine (g1 _).mono ?_; rintro e w1 ⟨rfl, rfl⟩; have HT1 := Lib.hid True.intro))
  clear g1 g2 g3 HT1 HT2
  obtain ⟨hrl, hm, hr, hin, q5, hK, hz, hEa, hE, hQ, hn, _, _⟩ := HD.out
  have hw := fun W => rwrong10_any (E : Int) (Q : Int) n W
  by_cases q7 : wrong10 E Q n ≠ 0
  · have HR := Lib.hid (res_bad (L := s.data.toList) (p := (q : Int)) (e := wrong10 E Q n) (by rw [hin, hEa, if_pos q7]) q7)
    have e7 : (wrong10 E Q n != 0) = true := by rw [bne_iff_ne]; exact q7
    clear q1 q3 q4 q5 q6 q7 hz hp0 hp1 hs hK hin hqK hm hr hrl hEa hE hQ hn
    go_wp2_with (go_at_call 22; refine (hw _).mono ?_; rintro e w1 ⟨rfl, rfl⟩)
    refine bodyPost_ret (results_row_two rfl _ _ w.heap.size _ rfl (rfr_load (three_stored HN.out _ _ _))) rfl ?_
    exact ⟨by rw [HR.out]; rfl, three_below HB.out (by omega) _ _ _⟩
  have q7 := Decidable.not_not.1 q7
  rw [q7] at hw
  rw [if_neg (fun h => h q7)] at hEa
  obtain ⟨w1, w2, w3⟩ := wrong_none q7
  have hse := fun W => rsect10_any n (by omega) W
  have hup := nsec_up n
  obtain ⟨k, hk⟩ : ∃ k, nsec n = k := ⟨_, rfl⟩
  rw [hk] at hse hup hEa
  obtain ⟨y, hy⟩ : ∃ y, q + k = y := ⟨_, rfl⟩
  have i3 : IntKind.i64.wrap ((q : Int) + (k : Int)) = (y : Int) := by rw [show (q : Int) + (k : Int) = (y : Int) by omega]; exact IntWalk.i64_in _ (by omega)
  by_cases q8 : K < y
  · have HR := Lib.hid (res_bad (L := s.data.toList) (p := (q : Int)) (e := 4) (by rw [hin, hEa, if_pos (by omega)]) (by omega))
    have e8 : decide ((K : Int) < (y : Int)) = true := decide_eq_true (by omega)
    have e8n : decide (K < y) = true := decide_eq_true q8
    clear q1 q3 q4 q5 q6 q7 q8 hz hp0 hp1 hs hK hin hqK hm hr hrl hEa hE hQ hn w1 w2 w3 hup hk hy
    go_wp2_with (first
      | (go_at_call 22; refine (hw _).mono ?_; rintro e w1 ⟨rfl, rfl⟩)
      | (go_at_call 23; refine (hse _).mono ?_; rintro e w1 ⟨rfl, rfl⟩))
    refine bodyPost_ret (results_row_two rfl _ _ w.heap.size _ rfl (rfr_load (three_stored HN.out _ _ _))) rfl ?_
    exact ⟨by rw [HR.out]; rfl, three_below HB.out (by omega) _ _ _⟩
  have e8 : decide ((K : Int) < (y : Int)) = false := decide_eq_false (by omega)
  have e8n : decide (K < y) = false := decide_eq_false q8
  rw [if_neg (by omega)] at hEa
  have HD := Lib.hid (And.intro hrl (And.intro hm (And.intro hr (And.intro hin (And.intro q5 (And.intro hK (And.intro hz (And.intro hEa (And.intro hE (And.intro hQ (And.intro hn (And.intro hk (And.intro hup (And.intro q8 (And.intro w1 (And.intro w2 (And.intro w3 (And.intro hy q7))))))))))))))))))
  have HS := Lib.hid hs
  clear hrl hm hr hin q5 hK hz hEa hE hQ hn hk hup q8 w1 w2 w3 q7 hy q1 q3 q4 q6 hp0 hp1 hqK hs
  go_upto_region 20 with (first
      | (go_at_call 22; refine (hw _).mono ?_; rintro e w1 ⟨rfl, rfl⟩)
      | (go_at_call 23; refine (hse _).mono ?_; rintro e w1 ⟨rfl, rfl⟩))
  clear hw hse e8 e8n i1
  go_loopw [16, 17] (fun t' i' wr => wr = W ∧ ∃ i j : Nat, t' = .string (tx (join10 j r)) ∧ i' = .int .i64 i ∧ Hid (i = q + j ∧ j ≤ k) ∧ Hid (∀ i, i < j → 1 ≤ i → r.getD (64 * i) 0 = 2)) (fun _ i _ => y - (intOf i).toNat)
  case atStart => exact ⟨rfl, q, 0, rfl, rfl, Lib.hid ⟨rfl, Nat.zero_le _⟩, Lib.hid fun i h => absurd h (by omega)⟩
  case round =>
    obtain ⟨rfl, i, j, rfl, rfl, hj, H2⟩ := hrel
    obtain ⟨hrl, hm, hr, hin, q5, hK, hz, hEa, hE, hQ, hn, hk, hup, q8, w1, w2, w3, hy, q7⟩ := HD.out
    have hs := HS.out
    obtain ⟨hi, hj⟩ := hj.out
    by_cases hlt : j < k
    · have d1 : decide (i < y) = true := decide_eq_true (by omega)
      have d1i : decide ((i : Int) < (y : Int)) = true := decide_eq_true (by omega)
      obtain ⟨x, hx⟩ : ∃ x, 64 * i = x := ⟨_, rfl⟩
      have a1 : IntKind.i64.wrap (64 * (i : Int)) = (x : Int) := by rw [show 64 * (i : Int) = x by omega]; exact IntWalk.i64_in _ (by omega)
      obtain ⟨x1, hx1⟩ : ∃ x1, x + 1 = x1 := ⟨_, rfl⟩
      obtain ⟨x2, hx2⟩ : ∃ x2, x + 64 = x2 := ⟨_, rfl⟩
      have a2 : IntKind.i64.wrap ((x : Int) + 1) = (x1 : Int) := by rw [show (x : Int) + 1 = (x1 : Int) by omega]; exact IntWalk.i64_in _ (by omega)
      have a3 : IntKind.i64.wrap ((x : Int) + 64) = (x2 : Int) := by rw [show (x : Int) + 64 = (x2 : Int) by omega]; exact IntWalk.i64_in _ (by omega)
      have a4 : IntKind.i64.wrap ((i : Int) + 1) = ((i + 1 : Nat) : Int) := IntWalk.i64_in _ (by omega)
      have hsz : (tx (join10 j r)).size = 63 * j := by rw [tx_size, join_len _ _ (by omega)]
      have hcut := cut_mid s (x1 : Int) (x2 : Int) (by omega) (by omega) (by omega)
      simp only [Int.toNat_natCast] at hcut
      obtain ⟨P, hP⟩ : ∃ P, s.extract x1 x2 = P := ⟨_, rfl⟩
      have hPs : P.size = 63 := by rw [← hP, ByteArray.size_extract]; omega
      have hnew : tx (join10 j r) ++ P = tx (join10 (j + 1) r) := by
        apply text_eq
        rw [tx_list, ByteArray.data_append, Array.toList_append, tx_list, join_snoc, ← hP, cut_list, ← hr, List.drop_drop, show 64 * q + (64 * j + 1) = x1 by omega]
        congr 2
        omega
      have i5 : ¬ (9223372036854775807 < (tx (join10 j r)).size + P.size) := by omega
      rw [hP] at hcut
      obtain ⟨TJ, hTJ⟩ : ∃ TJ, tx (join10 j r) = TJ := ⟨_, rfl⟩
      rw [hTJ] at hnew i5
      have HNEW := Lib.hid hnew
      rcases Nat.eq_zero_or_pos j with hj0 | hj0
      · have d2 : decide (q < i) = false := decide_eq_false (by omega)
        have d2i : decide ((q : Int) < (i : Int)) = false := decide_eq_false (by omega)
        have HJ := Lib.hid (And.intro hlt (And.intro hi hy))
        have HZ := Lib.hid hj0
        clear hrl hm hr hin q5 hK hz hEa hE hQ hn hk hup q8 w1 w2 w3 q7 hy hs hi hj hlt hsz hPs hnew hP hx hx1 hx2 hj0
        rw [hTJ]
        clear hTJ
        go_wp2
        go_roundw
        case rel => exact ⟨trivial, i + 1, j + 1, by rw [HNEW.out], by first | rfl | go_num, Lib.hid (by have := HJ.out; omega), Lib.hid fun i h1 h2 => absurd h1 (by have := HZ.out; omega)⟩
        case measure => have := HJ.out; simp [intOf]; omega
      · have d2 : decide (q < i) = true := decide_eq_true (by omega)
        have d2i : decide ((q : Int) < (i : Int)) = true := decide_eq_true (by omega)
        have hxs : x < s.size := by omega
        have b0 : (0 : Int) ≤ (x : Int) := by omega
        have b1 : (x : Int) < (s.size : Int) := by omega
        have hr0 : s[x].toNat = (r.getD (64 * j) 0).toNat := by
          rw [← hr, List.getD_eq_getElem?_getD, List.getElem?_drop, show 64 * q + 64 * j = x by omega, List.getElem?_eq_getElem (by omega)]
          rfl
        by_cases q9 : r.getD (64 * j) 0 ≠ 2
        · have e9 : ((s[x].toNat : Int) != 2) = true := by
            rw [bne_iff_ne, hr0]
            intro h
            exact q9 (UInt8.toNat_inj.1 (by rw [show (2 : UInt8).toNat = 2 from rfl]; omega))
          have HR := Lib.hid (res_bad (L := s.data.toList) (p := (q : Int)) (e := 5) (by rw [hin, hEa, if_pos ⟨j, hlt, hj0, q9⟩]) (by omega))
          clear hrl hm hr hin q5 hK hz hEa hE hQ hn hk hup q8 w1 w2 w3 q7 hy hs hi hj hlt hsz hPs hnew hP hx hx1 hx2 hj0 q9 hr0 HD
          rw [hTJ]
          clear hTJ
          go_wp2
          refine bodyPost_ret (results_row_two rfl _ _ w.heap.size _ rfl (rfr_load (three_stored HN.out _ _ _))) rfl ?_
          exact ⟨by rw [HR.out]; rfl, three_below HB.out (by omega) _ _ _⟩
        · have q9 := Decidable.not_not.1 q9
          have e9 : ((s[x].toNat : Int) != 2) = false := by
            rw [bne_eq_false_iff_eq, hr0, q9]
            rfl
          have HJ := Lib.hid (And.intro hlt (And.intro hi hy))
          have HZ : Hid (∀ i, i < j + 1 → 1 ≤ i → r.getD (64 * i) 0 = 2) := Lib.hid fun i h1 h2 => by
            rcases (by omega : i < j ∨ i = j) with g | g
            · exact H2.out i g h2
            · rw [g]; exact q9
          clear hrl hm hr hin q5 hK hz hEa hE hQ hn hk hup q8 w1 w2 w3 q7 hy hs hi hj hlt hsz hPs hnew hP hx hx1 hx2 hj0 q9 hr0
          rw [hTJ]
          clear hTJ
          go_wp2
          go_roundw
          case rel => exact ⟨trivial, i + 1, j + 1, by rw [HNEW.out], by first | rfl | go_num, Lib.hid (by have := HJ.out; omega), HZ⟩
          case measure => have := HJ.out; simp [intOf]; omega
    · obtain rfl : j = k := by omega
      obtain rfl : i = y := by omega
      have d1 : decide (i < i) = false := decide_eq_false (by omega)
      have d1i : decide ((i : Int) < (i : Int)) = false := decide_eq_false (by omega)
      rw [if_neg (fun h => by
        obtain ⟨i, h1, h2, h3⟩ := h
        exact h3 (H2.out i h1 h2))] at hEa
      obtain ⟨P, hP⟩ : ∃ P, n + 20 = P := ⟨_, rfl⟩
      have a1 : IntKind.i64.wrap ((n : Int) + 20) = (P : Int) := by rw [show (n : Int) + 20 = (P : Int) by omega]; exact IntWalk.i64_in _ (by omega)
      obtain ⟨TK, hTK⟩ : ∃ TK, tx (join10 j r) = TK := ⟨_, rfl⟩
      have hTl : TK.data.toList = join10 j r := by rw [← hTK, tx_list]
      have hTs : TK.size = 63 * j := by rw [← hTK, tx_size, join_len _ _ (by omega)]
      have hcut := cut_to TK (P : Int) (by omega) (by omega)
      simp only [Int.toNat_natCast] at hcut
      have hUl : (TK.extract 0 P).data.toList = (join10 j r).take P := by rw [cut_list, hTl]; simp
      have hun := fun W => runseal_any (TK.extract 0 P) (by rw [ByteArray.size_extract]; omega) W
      rw [hUl] at hun
      obtain ⟨U, hU⟩ : ∃ U, TK.extract 0 P = U := ⟨_, rfl⟩
      rw [hU] at hun hcut
      rw [hP] at hEa
      have HEa := Lib.hid hEa
      have HG := Lib.hid (And.intro hin (And.intro hr (And.intro hE (And.intro hQ (And.intro hn (And.intro hk (And.intro hup (And.intro hP (And.intro hTl (And.intro hTs (And.intro hy (And.intro hs (And.intro w3 hz)))))))))))))
      have HP := Lib.hid hP
      clear hrl hm hr hin q5 hK hz hEa hE hQ hn hk hup q8 w1 w2 w3 q7 hs hi hj hlt hP hTl hTs hUl hU HD H2 HK HS hy
      rw [hTK]
      clear hTK
      by_cases q6 : unE ((join10 j r).take P) ≠ 0
      · have HR := Lib.hid (res_bad (L := s.data.toList) (p := (q : Int)) (e := unE ((join10 j r).take P)) (by rw [HG.out.1, HEa.out, if_pos q6]) q6)
        have e6 : (unE ((join10 j r).take P) != 0) = true := by rw [bne_iff_ne]; exact q6
        clear q6
        go_wp2_with (go_at_call 24; refine (hun _).mono ?_; rintro e w3 ⟨t2, rfl, ht2, hb⟩; have HN3 := Lib.hid (old_obj hb HN.out); have HB3 := Lib.hid (HB.out.trans (hb.mono HB.out.size)); clear ht2 hb c0 c1 c2 f0 f1 f2; obtain ⟨c0, c1, c2, f0, f1, f2⟩ := three_cells HN3.out)
        refine bodyPost_ret (results_row_two rfl _ _ w.heap.size _ rfl (rfr_load (three_stored HN3.out _ _ _))) rfl ?_
        exact ⟨by rw [HR.out]; rfl, three_below HB3.out (by omega) _ _ _⟩
      · have q6 := Decidable.not_not.1 q6
        rw [q6] at hun
        have HQ := Lib.hid q6
        clear q6
        go_upto_region 29 with (go_at_call 24; refine (hun _).mono ?_; rintro e w3 ⟨t2, rfl, ht2, hb⟩; have HN3 := Lib.hid (old_obj hb HN.out); have HB3 := Lib.hid (HB.out.trans (hb.mono HB.out.size)); have HT2 := Lib.hid ht2.out; clear ht2 hb c0 c1 c2 f0 f1 f2; obtain ⟨c0, c1, c2, f0, f1, f2⟩ := three_cells HN3.out)
        have HEb : Hid (gotE r = if ∀ c ∈ rest10 r, c = 0 then 0 else 5) := Lib.hid (by rw [HEa.out, if_neg (fun h => h HQ.out)])
        have HPAD : Hid ((∀ c ∈ rest10 r, c = 0) ↔ ∀ x, P ≤ x → ∀ h : x < TK.size, TK[x] = 0) := Lib.hid (by
          obtain ⟨hin, hr, hE, hQ, hn, hk, hup, hP, hTl, hTs, hy, hs, w3, hz⟩ := HG.out
          unfold rest10
          rw [hn, hk, hP, ← hTl]
          constructor
          · intro h x h1 h2
            refine h _ ?_
            rw [List.mem_iff_getElem?]
            refine ⟨x - P, ?_⟩
            rw [List.getElem?_drop, show P + (x - P) = x by omega, List.getElem?_eq_getElem (by rw [text_size]; exact h2)]
            rfl
          · intro h c hc
            obtain ⟨k', hk'⟩ := List.mem_iff_getElem?.1 hc
            rw [List.getElem?_drop] at hk'
            obtain ⟨hk3, hk4⟩ := List.getElem?_eq_some_iff.1 hk'
            rw [← hk4]
            exact h (P + k') (by omega) (by rw [← text_size]; exact hk3))
        obtain ⟨Z2, hZ2⟩ : ∃ Z2, 63 * j = Z2 := ⟨_, rfl⟩
        have HTS : Hid (TK.size = Z2 ∧ P ≤ Z2 ∧ Z2 ≤ 4611686018427387904) := Lib.hid (by
          obtain ⟨hin, hr, hE, hQ, hn, hk, hup, hP, hTl, hTs, hy, hs, w3, hz⟩ := HG.out
          omega)
        clear hZ2 HEa hun hcut
        go_loopw [19] (fun i' wr => wr = w3 ∧ ∃ x : Nat, i' = .int .i64 x ∧ Hid (P ≤ x ∧ x ≤ TK.size) ∧ Hid (∀ z, P ≤ z → z < x → ∀ h : z < TK.size, TK[z] = 0)) (fun i _ => TK.size - (intOf i).toNat)
        case atStart => exact ⟨rfl, P, rfl, Lib.hid ⟨Nat.le_refl _, by have := HTS.out; omega⟩, Lib.hid fun z h1 h2 => by omega⟩
        case round =>
          obtain ⟨rfl, x, rfl, hx, HX⟩ := hrel
          by_cases hlt : x < TK.size
          · have d2 : decide (x < TK.size) = true := decide_eq_true hlt
            have d2i : decide ((x : Int) < (TK.size : Int)) = true := decide_eq_true (by omega)
            have b0 : (0 : Int) ≤ (x : Int) := by omega
            have b1 : (x : Int) < (TK.size : Int) := by omega
            have a4 : IntKind.i64.wrap ((x : Int) + 1) = ((x + 1 : Nat) : Int) := IntWalk.i64_in _ (by have := HTS.out; omega)
            by_cases hz0 : TK[x] = 0
            · have d3 : (((TK[x]).toNat : Int) != 0) = false := by rw [hz0]; rfl
              have HX2 : Hid (∀ z, P ≤ z → z < x + 1 → ∀ h : z < TK.size, TK[z] = 0) := Lib.hid fun z h1 h2 h => by
                rcases (by omega : z < x ∨ z = x) with g | g
                · exact HX.out z h1 g h
                · subst g; exact hz0
              clear hz0
              go_wp2
              go_roundw
              case rel => exact ⟨trivial, x + 1, by first | rfl | go_num, Lib.hid (by have := hx.out; omega), HX2⟩
              case measure => simp [intOf]; omega
            · have d3 : (((TK[x]).toNat : Int) != 0) = true := by
                rw [bne_iff_ne]
                intro h
                apply hz0
                exact UInt8.toNat_inj.1 (by rw [show (0 : UInt8).toNat = 0 from rfl]; omega)
              have HR := Lib.hid (res_bad (L := s.data.toList) (p := (q : Int)) (e := 5) (by
                rw [HG.out.1, HEb.out, if_neg]
                intro h
                exact hz0 (HPAD.out.1 h x hx.out.1 hlt)) (by omega))
              clear hz0
              go_wp2
              refine bodyPost_ret (results_row_two rfl _ _ w.heap.size _ rfl (rfr_load (three_stored HN3.out _ _ _))) rfl ?_
              exact ⟨by rw [HR.out]; rfl, three_below HB3.out (by omega) _ _ _⟩
          · obtain rfl : x = TK.size := by have := hx.out; omega
            have d2 : decide (TK.size < TK.size) = false := decide_eq_false (by omega)
            obtain ⟨hin, hr, hE, hQ, hn, hk, hup, hP, hTl, hTs, hy, hs, w3, hz⟩ := HG.out
            have hE0 : getE10 s.data.toList q = 0 := by
              rw [hin, HEb.out, if_pos]
              exact HPAD.out.2 fun z h1 h => HX.out z h1 h h
            have ht2 : t2.data.toList = (join10 j r).take (n + 16) := by
              rw [HT2.out]
              unfold unL
              rw [if_pos HQ.out, List.length_take, List.take_take]
              congr 1
              rw [← hTl, text_size]
              omega
            have ht2s : t2.size = n + 16 := by
              rw [← text_size, ht2, List.length_take, ← hTl, text_size]
              omega
            have hcut2 := cut_from t2 (16 : Int) (by omega) (by omega)
            simp only [show (16 : Int).toNat = 16 from rfl] at hcut2
            have hbt : t2.extract 16 t2.size = tx (getB s.data.toList q) := by
              apply tx_of
              unfold getB
              rw [if_pos hE0, Int.toNat_natCast, hr, cut_list, ht2, ht2s]
              unfold gotB
              rw [hn, hk, List.drop_take, List.take_take]
              congr 1
              omega
            have HR : Hid (res10 s.data.toList q = .tuple #[.agg #[.int .i64 E, .int .i64 Q, .string (t2.extract 16 t2.size)], .int .i64 i, .int .i64 0]) := Lib.hid (by
              have g1 : getEp s.data.toList q = E := by unfold getEp; rw [if_pos hE0, Int.toNat_natCast, hr, hE]
              have g2 : getSq s.data.toList q = Q := by unfold getSq; rw [if_pos hE0, Int.toNat_natCast, hr, hQ]
              have g3 : getTo s.data.toList q = i := by unfold getTo; rw [if_pos hE0, Int.toNat_natCast, hr, hn, hk]; omega
              unfold res10
              rw [g1, g2, g3, hbt, hE0])
            obtain ⟨Y, hY⟩ : ∃ Y, t2.extract 16 t2.size = Y := ⟨_, rfl⟩
            rw [hY] at hcut2 HR
            clear hin hr hE hQ hn hk hup hP hTl hTs hy hs w3 hz hE0 ht2 ht2s hbt hY hlt
            go_wp2
            refine bodyPost_ret (results_row_two rfl _ _ w.heap.size _ rfl (rfr_load (three_stored HN3.out _ _ _))) rfl ?_
            exact ⟨by rw [HR.out]; rfl, three_below HB3.out (by omega) _ _ _⟩
end Go.Proofs.YtpjahfobjnajcaaDoor
