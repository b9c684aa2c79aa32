/- The document's own step, On, Of, four, Seal and Unseal, for every text and sum, in every world. -/
import Derived.Test.YtpjahfobjnajcaaDoorSum7
import Derived.Test.YtpjahfobjnajcaaDoorRows
import Derived.Test.YtpjahfobjnajcaaDoorCuts
import Derived.WalkKit
import Derived.LoopTactic
import Derived.Outline
import Derived.Below
import Derived.Lib.Hide
import Derived.Deep.RegionWith
import Derived.Deep.DeepCutAuto
import Derived.RegionTactic
import Derived.BigRegion
import Derived.ChangeAlike
namespace Go.Proofs.YtpjahfobjnajcaaDoor
open Go.RowKit

theorem bits8_take (c : UInt8) (j : Nat) (h : j < 8) : (bits8 c).take (j + 1) = (bits8 c).take j ++ [c.toNat / 2 ^ j % 2 == 1] := by
  rw [List.take_succ_eq_append_getElem (by rw [bits_len]; exact h)]
  have e : (bits8 c)[j]'(by rw [bits_len]; exact h) = (c.toNat / 2 ^ j % 2 == 1) := by
    simp [bits8, testBit_bool]
  rw [e]
theorem run_snoc (n : Nat) (l : List Bool) (b : Bool) : runB n (l ++ [b]) = stepB (runB n l) b := by rw [run_append7]; rfl
theorem xor32 (a b : Nat) (ha : a < 4294967296) (hb : b < 4294967296) : bits BinOp.xor IntKind.u32 (a : Int) (b : Int) = ((a ^^^ b : Nat) : Int) := by
  have e1 : ∀ c : Nat, c < 4294967296 → (BitVec.ofInt 32 (c : Int)).toNat = c := fun c h => by rw [BitVec.toNat_ofInt]; omega
  show IntKind.u32.wrap ((BitVec.ofInt 32 (a : Int) ^^^ BitVec.ofInt 32 (b : Int)).toNat : Int) = _
  rw [BitVec.toNat_xor, e1 a ha, e1 b hb]
  have := Nat.xor_lt_two_pow (n := 32) (show a < 2 ^ 32 by omega) (show b < 2 ^ 32 by omega)
  exact IntWalk.u32_in _ (by omega)

set_option maxHeartbeats 1000000 in
theorem rstep_any (n : Nat) (hn : n < 4294967296) (c : UInt8) (w : World) :
    Calls Tryd.prog 60 #[.int .u32 n, .int .u8 c.toNat] w fun e w' => e = .returned (.int .u32 (runB n (bits8 c) : Nat)) ∧ w = w' := by
  have HT : Hid (∀ j, j < 8 → runB n ((bits8 c).take (j + 1)) = stepB (runB n ((bits8 c).take j)) (c.toNat / 2 ^ j % 2 == 1)) := Lib.hid fun j hj => by rw [bits8_take c j hj, run_snoc]
  have HL : Hid (∀ j, runB n ((bits8 c).take j) < 4294967296) := Lib.hid fun j => run_lt hn
  have H8 : Hid (runB n ((bits8 c).take 8) = runB n (bits8 c)) := Lib.hid (by rw [List.take_of_length_le (by rw [bits_len]; omega)])
  have hc : c.toNat < 256 := c.toNat_lt
  generalize c.toNat = C at *
  go_enter Tryd.func60, Tryd.ntmps60
  go_wp2
  go_loop [0, 1, 5] (fun n' c' i' => ∃ j : Nat, n' = .int .u32 (runB n ((bits8 c).take j) : Nat) ∧ c' = .int .u8 ((C / 2 ^ j : Nat) : Int) ∧ i' = .int .i64 j ∧ j ≤ 8) (fun _ _ i => 8 - (intOf i).toNat)
  case atStart => exact ⟨0, by simp [runB], by simp, rfl, by omega⟩
  case round =>
    obtain ⟨j, rfl, rfl, rfl, hj⟩ := hrel
    by_cases hlt : j < 8
    · have HTj := Lib.hid (HT.out j hlt)
      have hNl := HL.out j
      have HDj : Hid (C / 2 ^ (j + 1) = C / 2 ^ j / 2) := Lib.hid (by rw [Nat.pow_succ, Nat.div_div_eq_div_mul])
      have hDl : C / 2 ^ j < 256 := Nat.lt_of_le_of_lt (Nat.div_le_self _ _) hc
      generalize runB n ((bits8 c).take j) = N at *
      generalize C / 2 ^ j = D at *
      have hx : bits BinOp.xor IntKind.u32 ((N : Int) / 2) 2197175160 = ((N / 2 ^^^ 2197175160 : Nat) : Int) := by
        have h := xor32 (N / 2) 2197175160 (by omega) (by omega)
        rw [Int.natCast_ediv] at h
        exact h
      rcases Nat.mod_two_eq_zero_or_one N with hNm | hNm
      · have n1 : (((N : Int) % 2) == 1) = false := by rw [beq_eq_false_iff_ne]; omega
        rcases Nat.mod_two_eq_zero_or_one D with hDm | hDm
        · have d1 : (((D : Int) % 2) == 1) = false := by rw [beq_eq_false_iff_ne]; omega
          · have hs : stepB N (D % 2 == 1) = N / 2 := by
              unfold stepB
              rw [show (N % 2 == 1) = false from by simp [hNm], show (D % 2 == 1) = false from by simp [hDm]]
              simp
            have HS : Hid (runB n ((bits8 c).take (j + 1)) = N / 2) := Lib.hid (by rw [HTj.out, hs])
            have HXX := Lib.hid hx
            clear hs hNm hDm
            go_wp2
            go_round
            case rel => exact ⟨j + 1, by rw [HS.out]; go_num, by rw [HDj.out]; go_num, by go_num, by omega⟩
            case measure => simp [intOf]; omega
        · have d1 : (((D : Int) % 2) == 1) = true := by rw [beq_iff_eq]; omega
          · have hs : stepB N (D % 2 == 1) = N / 2 ^^^ 2197175160 := by
              unfold stepB
              rw [show (N % 2 == 1) = false from by simp [hNm], show (D % 2 == 1) = true from by simp [hDm]]
              simp
            have HS : Hid (runB n ((bits8 c).take (j + 1)) = N / 2 ^^^ 2197175160) := Lib.hid (by rw [HTj.out, hs])
            have HXX := Lib.hid hx
            clear hs hNm hDm
            go_wp2
            go_round
            case rel => exact ⟨j + 1, by rw [HS.out, ← HXX.out], by rw [HDj.out]; go_num, by go_num, by omega⟩
            case measure => simp [intOf]; omega
      · have n1 : (((N : Int) % 2) == 1) = true := by rw [beq_iff_eq]; omega
        rcases Nat.mod_two_eq_zero_or_one D with hDm | hDm
        · have d1 : (((D : Int) % 2) == 1) = false := by rw [beq_eq_false_iff_ne]; omega
          · have hs : stepB N (D % 2 == 1) = N / 2 ^^^ 2197175160 := by
              unfold stepB
              rw [show (N % 2 == 1) = true from by simp [hNm], show (D % 2 == 1) = false from by simp [hDm]]
              simp
            have HS : Hid (runB n ((bits8 c).take (j + 1)) = N / 2 ^^^ 2197175160) := Lib.hid (by rw [HTj.out, hs])
            have HXX := Lib.hid hx
            clear hs hNm hDm
            go_wp2
            go_round
            case rel => exact ⟨j + 1, by rw [HS.out, ← HXX.out], by rw [HDj.out]; go_num, by go_num, by omega⟩
            case measure => simp [intOf]; omega
        · have d1 : (((D : Int) % 2) == 1) = true := by rw [beq_iff_eq]; omega
          · have hs : stepB N (D % 2 == 1) = N / 2 := by
              unfold stepB
              rw [show (N % 2 == 1) = true from by simp [hNm], show (D % 2 == 1) = true from by simp [hDm]]
              simp
            have HS : Hid (runB n ((bits8 c).take (j + 1)) = N / 2) := Lib.hid (by rw [HTj.out, hs])
            have HXX := Lib.hid hx
            clear hs hNm hDm
            go_wp2
            go_round
            case rel => exact ⟨j + 1, by rw [HS.out]; go_num, by rw [HDj.out]; go_num, by go_num, by omega⟩
            case measure => simp [intOf]; omega
    · obtain rfl : j = 8 := by omega
      go_wp2
      go_ret
      exact ⟨by rw [H8.out]; rfl, rfl⟩

theorem reg_take (n : Nat) (l : List UInt8) (j : Nat) (h : j < l.length) : regOn n (l.take (j + 1)) = runB (regOn n (l.take j)) (bits8 l[j]) := by
  rw [List.take_succ_eq_append_getElem h, reg_snoc]

set_option maxHeartbeats 1000000 in
theorem ron_any (sum : Nat) (hn : sum < 4294967296) (s : ByteArray) (hs : s.size ≤ 4611686018427387904) (w : World) :
    Calls Tryd.prog 52 #[.int .u32 sum, .string s] w fun e w' => e = .returned (.int .u32 (onN sum s.data.toList : Nat)) ∧ w = w' := by
  have HR : Hid (∀ j, (h : j < s.size) → regOn (4294967295 - sum) (s.data.toList.take (j + 1)) = runB (regOn (4294967295 - sum) (s.data.toList.take j)) (bits8 s[j])) := Lib.hid fun j h => reg_take _ s.data.toList j (by simpa using h)
  have HL : Hid (∀ j, regOn (4294967295 - sum) (s.data.toList.take j) < 4294967296) := Lib.hid fun j => reg_lt (by omega) _
  have HE : Hid (onN sum s.data.toList = 4294967295 - regOn (4294967295 - sum) (s.data.toList.take s.size)) := Lib.hid (by
    unfold onN; rw [List.take_of_length_le (by simp)])
  have h0 : IntKind.u32.wrap (4294967295 - (sum : Int)) = ((4294967295 - sum : Nat) : Int) := by rw [IntWalk.u32_in _ (by omega)]; omega
  have H0 : Hid (regOn (4294967295 - sum) (s.data.toList.take 0) = 4294967295 - sum) := Lib.hid rfl
  have HC : Hid (∀ (n : Nat) (c : UInt8) (w : World), n < 4294967296 → Calls Tryd.prog 60 #[.int .u32 n, .int .u8 c.toNat] w fun e w' => e = .returned (.int .u32 (runB n (bits8 c) : Nat)) ∧ w = w') := Lib.hid fun n c w h => rstep_any n h c w
  generalize onN sum s.data.toList = R at *
  generalize (4294967295 - sum : Nat) = S at *
  go_enter Tryd.func52, Tryd.ntmps52
  go_wp2
  go_loop [5, 6] (fun n' i' => ∃ j : Nat, n' = .int .u32 (regOn S (s.data.toList.take j) : Nat) ∧ i' = .int .i64 j ∧ j ≤ s.size) (fun _ i => s.size - (intOf i).toNat)
  case atStart => exact ⟨0, by rw [H0.out], rfl, by omega⟩
  case round =>
    obtain ⟨j, rfl, rfl, hj⟩ := hrel
    by_cases hlt : j < s.size
    · have HRj := Lib.hid (HR.out j hlt)
      have hNl := HL.out j
      have i1 : (j : Int) < (s.size : Int) := by omega
      have hcb : (s[j]).toNat < 256 := (s[j]).toNat_lt
      have HCj := Lib.hid (HC.out (regOn S (s.data.toList.take j)) s[j])
      generalize regOn S (s.data.toList.take j) = N at *
      go_wp2_with (go_at_call 60; refine (HCj.out _ hNl).mono ?_; rintro e w1 ⟨rfl, rfl⟩)
      go_round
      case rel => exact ⟨j + 1, by rw [HRj.out], by go_num, by omega⟩
      case measure => simp [intOf]; omega
    · obtain rfl : j = s.size := by omega
      have hNl := HL.out s.size
      have HE2 := Lib.hid HE.out
      generalize regOn S (s.data.toList.take s.size) = N at *
      have h2 : IntKind.u32.wrap (4294967295 - (N : Int)) = ((4294967295 - N : Nat) : Int) := by rw [IntWalk.u32_in _ (by omega)]; omega
      go_wp2
      go_ret
      exact ⟨by rw [HE2.out]; rfl, rfl⟩

theorem rof_any (s : ByteArray) (hs : s.size ≤ 4611686018427387904) (w : World) :
    Calls Tryd.prog 40 #[.string s] w fun e w' => e = .returned (.int .u32 (ofN s.data.toList : Nat)) ∧ w = w' := by
  have HC := Lib.hid (ron_any 0 (by omega) s hs)
  go_enter Tryd.func40, Tryd.ntmps40
  go_wp2_with (go_at_call 52; refine (HC.out _).mono ?_; rintro e w1 ⟨rfl, rfl⟩)
  go_ret
  exact ⟨rfl, rfl⟩

/-- A text of four bytes, made of a literal of four bytes in the newest block. -/
theorem conv_four (W : World) (x y z u : Int) : (convert 39 9 (.slice (some ⟨W.heap.size, 0, none⟩) 4 4)).run Tryd.prog (W.alloc (.cells #[.int .u8 x, .int .u8 y, .int .u8 z, .int .u8 u] 5)) = .ok (.string ⟨#[UInt8.ofNat x.toNat, UInt8.ofNat y.toNat, UInt8.ofNat z.toNat, UInt8.ofNat u.toNat]⟩) (W.alloc (.cells #[.int .u8 x, .int .u8 y, .int .u8 z, .int .u8 u] 5)) := by
  rw [run_convert_bytes_string (P := Tryd.prog) _ 39 9 5 _ _ _ Tryd.underlying39 Tryd.underlying5 Tryd.underlying9]
  have hl : (loadCells ⟨W.heap.size, 0, none⟩ 4).run Tryd.prog (W.alloc (.cells #[.int .u8 x, .int .u8 y, .int .u8 z, .int .u8 u] 5)) = .ok ([x, y, z, u].map (Value.int .u8)).toArray (W.alloc (.cells #[.int .u8 x, .int .u8 y, .int .u8 z, .int .u8 u] 5)) :=
    run_loadCells_list (P := Tryd.prog) _ ⟨W.heap.size, 0, none⟩ ([x, y, z, u].map (Value.int .u8)) (fun j v hj => by
      match j, hj with
      | 0, hj => simp at hj; subst hj; simp [Addr.add]
      | 1, hj => simp at hj; subst hj; simp [Addr.add]
      | 2, hj => simp at hj; subst hj; simp [Addr.add]
      | 3, hj => simp at hj; subst hj; simp [Addr.add])
  exact (run_bytesToString (P := Tryd.prog) _ _ 4 4 [x, y, z, u] hl).trans rfl

def fourT (n : Nat) : ByteArray := ⟨(fourL n).toArray⟩
theorem fourT_list (n : Nat) : (fourT n).data.toList = fourL n := rfl
theorem fourT_size (n : Nat) : (fourT n).size = 4 := rfl
theorem rfour_any (n : Nat) (hn : n < 4294967296) (w : World) :
    Calls Tryd.prog 39 #[.int .u32 n] w fun e w' => e = .returned (.string (fourT n)) ∧ Below w.heap.size w w' := by
  have hcv := conv_four
  have u0 : IntKind.u8.wrap ((n : Int) % 256) = ((n % 256 : Nat) : Int) := by rw [IntWalk.u8_in _ (by omega)]; omega
  have u1 : IntKind.u8.wrap ((n : Int) / 256 % 256) = ((n / 256 % 256 : Nat) : Int) := by rw [IntWalk.u8_in _ (by omega)]; omega
  have u2 : IntKind.u8.wrap ((n : Int) / 65536 % 256) = ((n / 65536 % 256 : Nat) : Int) := by rw [IntWalk.u8_in _ (by omega)]; omega
  have u3 : IntKind.u8.wrap ((n : Int) / 16777216) = ((n / 16777216 % 256 : Nat) : Int) := by rw [IntWalk.u8_in _ (by omega)]; omega
  go_enter Tryd.func39, Tryd.ntmps39
  go_wp2
  go_ret
  exact ⟨rfl, (Below.refl _ _).alloc (Nat.le_refl _) _⟩

theorem cat_four (s : ByteArray) (n : Nat) : (s ++ fourT n).data.toList = s.data.toList ++ fourL n := by
  rw [← fourT_list]; simp
theorem four_same (n : Nat) (u : ByteArray) : ((fourT n).toList == u.toList) = decide (fourL n = u.data.toList) := by
  rw [ByteArray.toList_eq, ByteArray.toList_eq, Bool.eq_iff_iff, beq_iff_eq, decide_eq_true_iff, fourT_list]
set_option maxHeartbeats 1000000 in
theorem runseal_any (s : ByteArray) (hs : s.size ≤ 4611686018427387904) (w : World) :
    Calls Tryd.prog 24 #[.string s] w fun e w' => ∃ t : ByteArray, e = .returned (.tuple #[.string t, .int .i64 (unE s.data.toList)]) ∧ Hid (t.data.toList = unL s.data.toList) ∧ Below w.heap.size w w' := by
  have hz := text_size s
  have hbad : unE s.data.toList ≠ 0 → unL s.data.toList = [] := fun h => by unfold unL; rw [if_neg h]
  by_cases h4 : s.size < 4
  · have he : unE s.data.toList = 4 := by unfold unE; rw [hz, if_pos h4]
    have hl := hbad (by omega)
    rw [he, hl]
    clear hbad he hl hz
    go_enter Tryd.func24, Tryd.ntmps24
    go_wp2
    go_ret2
    exact ⟨_, rfl, Lib.hid rfl, Below.refl _ _⟩
  · obtain ⟨n, hn⟩ : ∃ n, s.size = n + 4 := ⟨s.size - 4, by omega⟩
    have ht : (s.extract 0 n).data.toList = s.data.toList.take (s.data.toList.length - 4) := by rw [cut_list, hz, hn]; simp
    have hd : (s.extract n s.size).data.toList = s.data.toList.drop (s.data.toList.length - 4) := by
      rw [cut_list, hz, hn, Nat.add_sub_cancel, List.take_of_length_le (by rw [List.length_drop, hz]; omega)]
    have hts : (s.extract 0 n).size ≤ 4611686018427387904 := by simp; omega
    have HO := Lib.hid (rof_any (s.extract 0 n) hts)
    have HF := Lib.hid (rfour_any (ofN (s.extract 0 n).data.toList) (on_lt 0 _))
    have hU : unE s.data.toList = if fourL (ofN (s.extract 0 n).data.toList) = (s.extract n s.size).data.toList then 0 else 7 := by
      unfold unE; rw [if_neg (by omega), ht, hd]
    have hL : unE s.data.toList = 0 → unL s.data.toList = (s.extract 0 n).data.toList := fun h => by unfold unL; rw [if_pos h, ht]
    have hs1 := cut_to s (n : Int) (by omega) (by omega)
    have hs2 := cut_from s (n : Int) (by omega) (by omega)
    have hq := four_same (ofN (s.extract 0 n).data.toList) (s.extract n s.size)
    simp only [Int.toNat_natCast] at hs1 hs2
    generalize s.extract 0 n = T at *
    generalize s.extract n s.size = D at *
    generalize fourT (ofN T.data.toList) = F at *
    by_cases he : fourL (ofN T.data.toList) = D.data.toList
    · rw [if_pos he] at hU
      rw [decide_eq_true he] at hq
      have hL2 := Lib.hid (hL hU).symm
      rw [hU]
      clear hbad hz hU hL ht hd he
      go_enter Tryd.func24, Tryd.ntmps24
      go_upto_region 4 with fail
      go_region_with (first | (go_at_call 40; refine (HO.out _).mono ?_; rintro e w1 ⟨rfl, rfl⟩) | (go_at_call 39; refine (HF.out _).mono ?_; rintro e w1 ⟨rfl, b1⟩))
      all_goals
        go_wp2
        go_ret2
        exact ⟨_, rfl, hL2, (Below.refl w.heap.size w).drew.trans b1⟩
    · rw [if_neg he] at hU
      rw [decide_eq_false he] at hq
      have hl := hbad (by omega)
      rw [hU, hl]
      clear hbad hz hU hL ht hd he hl
      go_enter Tryd.func24, Tryd.ntmps24
      go_upto_region 4 with fail
      go_region_with (first | (go_at_call 40; refine (HO.out _).mono ?_; rintro e w1 ⟨rfl, rfl⟩) | (go_at_call 39; refine (HF.out _).mono ?_; rintro e w1 ⟨rfl, b1⟩))
      all_goals
        go_wp2
        go_ret2
        exact ⟨_, rfl, Lib.hid rfl, (Below.refl w.heap.size w).drew.trans b1⟩
end Go.Proofs.YtpjahfobjnajcaaDoor
