/- The law that a scan grows by the frame that is appended, walked over what is wanted of frame. -/
import Derived.Test.YtpjahfobjnajcaaDoorApart10
namespace Go.Proofs.YtpjahfobjnajcaaDoor
open Go.RowKit

def sumS (xs : List (List UInt8)) : Nat := (xs.map fun b => nsec b.length).sum
theorem sumS_take (xs : List (List UInt8)) (i : Nat) (h : i < xs.length) : sumS (xs.take (i + 1)) = sumS (xs.take i) + nsec (rowAt xs i).length := by
  unfold sumS rowAt
  rw [List.take_add_one, List.getD_eq_getElem?_getD, List.getElem?_eq_getElem h, List.map_append, List.sum_append]
  simp
theorem sumS_le (xs : List (List UInt8)) (i : Nat) : sumS (xs.take i) ≤ sumS xs := by
  have : xs = xs.take i ++ xs.drop i := (List.take_append_drop i xs).symm
  conv => rhs; rw [this]
  unfold sumS
  rw [List.map_append, List.sum_append]
  omega
theorem sumS_one (xs : List (List UInt8)) (i : Nat) (h : i < xs.length) : nsec (rowAt xs i).length ≤ sumS xs := by
  have h1 := sumS_take xs i h
  have h2 := sumS_le xs (i + 1)
  omega
set_option maxRecDepth 100000 in
set_option maxHeartbeats 2000000 in
theorem frameGrows_walk10 {T : World → Prop} (H : Frame10 T) (HA : Wakes10 T) (w : World) (hT : T w) (s : ByteArray) (ep : Int) (t : ByteArray) :
    Calls Tryd.prog 6 #[.string s, .int .i64 ep, .string t] w fun e w' => e = .returned (.bool true) ∧ Below w.heap.size w w' := by
  have HT := Lib.hid hT
  have HB : Hid (∀ v v', T v → Below v.heap.size v v' → T v') := Lib.hid fun _ _ h hb => H.below h hb
  by_cases q1 : 6400 < s.size
  · have e1 : decide (6400 < s.size) = true := decide_eq_true q1
    have e1i : decide (6400 < (s.size : Int)) = true := decide_eq_true (by omega)
    clear q1
    go_enter Tryd.func6, Tryd.ntmps6
    go_wp2_with (go_at_call 7; refine (HA _ HT.out).mono ?_; rintro e w1 ⟨rfl, hb1⟩)
    go_ret
    exact ⟨rfl, hb1⟩
  have e1 : decide (6400 < s.size) = false := decide_eq_false q1
  have e1i : decide (6400 < (s.size : Int)) = false := decide_eq_false (by omega)
  by_cases q2 : 3100 < t.size
  · have e2 : decide (3100 < t.size) = true := decide_eq_true q2
    have e2i : decide (3100 < (t.size : Int)) = true := decide_eq_true (by omega)
    clear q1 q2
    go_enter Tryd.func6, Tryd.ntmps6
    go_wp2_with (go_at_call 7; refine (HA _ HT.out).mono ?_; rintro e w1 ⟨rfl, hb1⟩)
    go_ret
    exact ⟨rfl, hb1⟩
  have e2 : decide (3100 < t.size) = false := decide_eq_false q2
  have e2i : decide (3100 < (t.size : Int)) = false := decide_eq_false (by omega)
  have hsc := H.scan s ep (by omega) w HT.out
  have hl := scan_len s.data.toList ep
  obtain ⟨hsum, hl2⟩ := scanV_sum s.data.toList ep
  have hz := text_size s
  have hgrow := scanV_grows s.data.toList ep t.data.toList
  obtain ⟨L, hL⟩ : ∃ L, s.data.toList = L := ⟨_, rfl⟩
  rw [hL] at hsc hl hsum hl2 hz hgrow
  obtain ⟨xs, hxs⟩ : ∃ xs, (scanV L ep).1 = xs := ⟨_, rfl⟩
  obtain ⟨n, hn⟩ : ∃ n, (scanV L ep).2 = n := ⟨_, rfl⟩
  rw [hxs, hn] at hsc hl hsum hgrow
  rw [hn] at hl2
  rw [text_size] at hgrow
  have HN := Lib.hid (show xs.length ≤ n ∧ 64 * n ≤ s.size ∧ s.size ≤ 6400 ∧ t.size ≤ 3100 ∧ sumS xs = n by
    refine ⟨hl, by omega, by omega, by omega, ?_⟩
    unfold sumS
    exact hsum.symm)
  have HGROW := Lib.hid hgrow
  have HL := Lib.hid hL
  clear hl hl2 hz q1 q2 hsum hgrow hL hxs hn
  go_enter Tryd.func6, Tryd.ntmps6
  go_upto_region 6 with (go_at_call 10; refine hsc.mono ?_; rintro e w1 ⟨a, c, rfl, _, hx, hb1⟩; have HX := Lib.hid hx; have B1 := Lib.hid hb1; clear hx hb1)
  have HSE : Hid (∀ (i : Nat) (v : World), i < xs.length → Calls Tryd.prog 15 #[.string (tx (rowAt xs i))] v fun e w' => e = .returned (.int .i64 (nsec (rowAt xs i).length : Nat)) ∧ Below v.heap.size v w') := Lib.hid fun i v hi => by
    have h1 := sumS_one xs i hi
    have h2 := nsec_up (rowAt xs i).length
    have h3 := HN.out
    refine (H.sect _ (by rw [tx_size]; omega) v).mono ?_
    rintro e w' ⟨rfl, hb⟩
    exact ⟨by rw [tx_size], hb⟩
  go_loopw [9, 10] (fun n' i' wr => ∃ i : Nat, n' = .int .i64 (sumS (xs.take i) : Nat) ∧ i' = .int .i64 i ∧ Hid (i ≤ xs.length) ∧ Hid (Below w1.heap.size w1 wr)) (fun _ i _ => xs.length - (intOf i).toNat)
  case atStart => exact ⟨0, rfl, rfl, Lib.hid (Nat.zero_le _), Lib.hid (Below.refl _ _)⟩
  case round =>
    obtain ⟨i, rfl, rfl, hi, hb⟩ := hrel
    by_cases hlt : i < xs.length
    · have d1 : decide (i < xs.length) = true := decide_eq_true hlt
      have d1i : decide ((i : Int) < (xs.length : Int)) = true := decide_eq_true (by omega)
      have i0 : (0 : Int) ≤ (i : Int) := by omega
      have i1 : (i : Int) < (xs.length : Int) := by omega
      have a1 : IntKind.i64.wrap ((i : Int) + 1) = ((i + 1 : Nat) : Int) := IntWalk.i64_in _ (by have := HN.out; omega)
      have hse := fun v => HSE.out i v hlt
      have hst := sumS_take xs i hlt
      have hle := sumS_le xs (i + 1)
      have a2 : IntKind.i64.wrap (((sumS (xs.take i) : Nat) : Int) + ((nsec (rowAt xs i).length : Nat) : Int)) = ((sumS (xs.take (i + 1)) : Nat) : Int) := by
        rw [show ((sumS (xs.take i) : Nat) : Int) + ((nsec (rowAt xs i).length : Nat) : Int) = ((sumS (xs.take (i + 1)) : Nat) : Int) by omega]
        exact IntWalk.i64_in _ (by have := HN.out; omega)
      rcases HX.out with h0 | ⟨b, off, rfl, _, hbl, hc⟩
      · rw [h0] at hlt
        exact absurd hlt (by simp)
      have hcell := (hb.out.cell (p := ⟨b, off + i, none⟩) hbl).trans (hc i hlt)
      have HLT := Lib.hid hlt
      generalize sumS (xs.take i) = S0 at *
      obtain ⟨S1, hS1⟩ : ∃ S1, sumS (xs.take (i + 1)) = S1 := ⟨_, rfl⟩
      rw [hS1] at a2
      have HS1 := Lib.hid hS1
      clear hS1
      generalize nsec (rowAt xs i).length = S2 at *
      generalize tx (rowAt xs i) = TI at *
      clear hc hbl hst hle
      go_wp2_with (go_at_call 15; refine (hse _).mono ?_; rintro e w3 ⟨rfl, hb3⟩; have HB3 := Lib.hid (hb.out.trans (hb3.mono hb.out.size)); clear hb3)
      go_roundw
      case rel => exact ⟨i + 1, by rw [HS1.out], by first | rfl | go_num, Lib.hid (by have := HLT.out; omega), HB3⟩
      case measure => have := HLT.out; simp [intOf]; omega
    · obtain rfl : i = xs.length := by have := hi.out; omega
      have d1 : decide (xs.length < xs.length) = false := decide_eq_false (by omega)
      have d1i : decide ((xs.length : Int) < (xs.length : Int)) = false := decide_eq_false (by omega)
      rw [List.take_length, HN.out.2.2.2.2]
      obtain ⟨m, hm⟩ : ∃ m, 64 * n = m := ⟨_, rfl⟩
      have a1 : IntKind.i64.wrap (64 * (n : Int)) = (m : Int) := by rw [show 64 * (n : Int) = (m : Int) by omega]; exact IntWalk.i64_in _ (by have := HN.out; omega)
      have d2 : decide (s.size < m) = false := decide_eq_false (by have := HN.out; omega)
      have d2i : decide ((s.size : Int) < (m : Int)) = false := decide_eq_false (by have := HN.out; omega)
      have d3 : ((n : Int) != (n : Int)) = false := by simp
      have a2 : IntKind.i64.wrap ((xs.length : Int) + 1) = (xs.length : Int) + 1 := IntWalk.i64_in _ (by have := HN.out; omega)
      have BR := Lib.hid (B1.out.trans (hb.out.mono B1.out.size))
      have HXR := Lib.hid (HX.out.step hb.out)
      have hp := H.put ep ((xs.length : Int) + 1) t (by have := HN.out; omega) wr (HB.out _ _ HT.out BR.out)
      have hms := HN.out.2.1
      rw [hm] at hms
      have HM := Lib.hid hm
      have HMS := Lib.hid hms
      clear hm hms hlt HSE hb B1 HX
      by_cases q3 : wrong10 ep ((xs.length : Int) + 1) t.size ≠ 0
      · have d4 : (wrong10 ep ((xs.length : Int) + 1) t.size != 0) = true := by rw [bne_iff_ne]; exact q3
        generalize tx (putL10 ep ((xs.length : Int) + 1) t.data.toList) = u at *
        clear q3
        go_wp2_with (first
          | (go_at_call 14; refine hp.mono ?_; rintro e w4 ⟨rfl, hb4⟩; have B4 := Lib.hid (BR.out.trans (hb4.mono BR.out.size)); clear hb4)
          | (go_at_call 7; refine (HA _ (HB.out _ _ HT.out B4.out)).mono ?_; rintro e w5 ⟨rfl, hb5⟩))
        go_ret
        exact ⟨rfl, B4.out.trans (hb5.mono B4.out.size)⟩
      have q3 := Decidable.not_not.1 q3
      have hg := HGROW.out q3
      rw [q3, putL_good (by rw [text_size]; exact q3)] at hp
      have hpl := put10_len ep ((xs.length : Int) + 1) t.data.toList
      rw [text_size] at hpl
      obtain ⟨u, hu⟩ : ∃ u, tx (put10 ep ((xs.length : Int) + 1) t.data.toList) = u := ⟨_, rfl⟩
      have hus : u.size = 64 * nsec t.size := by rw [← hu, tx_size, hpl]
      rw [hu] at hp
      have hup := nsec_up t.size
      have hcut := cut_to s (m : Int) (by omega) (by have := HMS.out; omega)
      simp only [Int.toNat_natCast] at hcut
      obtain ⟨P, hP⟩ : ∃ P, s.extract 0 m = P := ⟨_, rfl⟩
      have hPs : P.size = m := by rw [← hP, ByteArray.size_extract]; have := HMS.out; omega
      have i5 : ¬ (9223372036854775807 < P.size + u.size) := by have := HN.out; have := HM.out; omega
      have hjl : (P ++ u).data.toList = L.take (64 * n) ++ put10 ep ((xs.length : Int) + 1) t.data.toList := by
        rw [ByteArray.data_append, Array.toList_append, ← hP, cut_list, HL.out, List.drop_zero, Nat.sub_zero, ← hu, tx_list, HM.out]
      have hsc2 := fun v h => H.scan (P ++ u) ep (by rw [ByteArray.size_append]; have := HN.out; have := HM.out; omega) v h
      rw [hjl, hg] at hsc2
      rw [hP] at hcut
      have hse := fun v => H.sect t (by have := HN.out; omega) v
      have HUP := Lib.hid hup
      clear hjl hg hpl hu hus hPs hP q3 hup
      go_upto_region 14 with (go_at_call 14; refine hp.mono ?_; rintro e w4 ⟨rfl, hb4⟩; have HB4 := Lib.hid hb4; have B4 := Lib.hid (BR.out.trans (hb4.mono BR.out.size)); clear hb4)
      have HX4 := Lib.hid (HXR.out.step HB4.out)
      clear hp BR HXR HB4
      go_upto_region 15 with (go_at_call 10; refine (hsc2 _ (HB.out _ _ HT.out B4.out)).mono ?_; rintro e w5 ⟨a2, c2, rfl, hc2, hx2, hb5⟩; have HC2 := Lib.hid hc2; have HX5 := Lib.hid (HX4.out.step hb5); have HY5 := Lib.hid hx2; have B5 := Lib.hid (B4.out.trans (hb5.mono B4.out.size)); clear hc2 hx2 hb5)
      clear hsc2
      have hll : (xs ++ [t.data.toList]).length = xs.length + 1 := by simp
      rcases HY5.out with h0 | ⟨b, off, rfl, _, hbl, hc⟩
      · exact absurd h0 (by simp)
      have hlast := hc xs.length (by rw [hll]; omega)
      rw [rowAt_last, show tx t.data.toList = t from (tx_of rfl).symm] at hlast
      have hle := HC2.out
      have hle : xs.length + 1 ≤ c2 := by rw [← hll]; exact hle
      have HY := Lib.hid HY5.out.short
      have HCC := Lib.hid hlast
      have HBL := Lib.hid hbl
      clear hc hbl hlast HY5 HC2
      try simp only [hll]
      have i0 : (0 : Int) ≤ (xs.length : Int) := by omega
      have i1 : (xs.length : Int) ≤ (c2 : Int) := by omega
      have i1n : xs.length ≤ c2 := by omega
      have i2 : (xs.length : Int) < ((xs.length + 1 : Nat) : Int) := by omega
      have i2n : xs.length < xs.length + 1 := by omega
      have d5 : (((xs.length + 1 : Nat) : Int) == (xs.length : Int) + 1) = true := by rw [beq_iff_eq]; omega
      have d6 : (t.toList == t.toList) = true := by simp
      have a3 : IntKind.i64.wrap ((n : Int) + ((nsec t.size : Nat) : Int)) = ((n + nsec t.size : Nat) : Int) := by
        rw [show (n : Int) + ((nsec t.size : Nat) : Int) = ((n + nsec t.size : Nat) : Int) by omega]
        exact IntWalk.i64_in _ (by have := HN.out; have := HUP.out; omega)
      go_wp2_with (first
        | (go_at_call 13; refine (same_txs _ a _ _ _ _ _ c xs (by have := HN.out; omega) _ HY.out HX5.out).mono ?_; rintro e w6 ⟨rfl, hb6⟩; have B6 := Lib.hid hb6; have BW6 := Lib.hid (B5.out.trans (hb6.mono B5.out.size)); have hl6 := (hb6.cell (p := ⟨b, off + xs.length, none⟩) HBL.out).trans HCC.out; clear hb6)
        | (go_at_call 15; refine (hse _).mono ?_; rintro e w7 ⟨rfl, hb7⟩; have BW7 := Lib.hid (BW6.out.trans (hb7.mono BW6.out.size)); clear hb7)
        | (go_at_call 7; refine (HA _ (HB.out _ _ HT.out BW7.out)).mono ?_; rintro e w8 ⟨rfl, hb8⟩))
      go_ret
      exact ⟨rfl, BW7.out.trans (hb8.mono BW7.out.size)⟩
end Go.Proofs.YtpjahfobjnajcaaDoor
