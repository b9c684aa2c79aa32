/- The document's own Put, Get and Lay, for every number, text and place, in every world. -/
import Derived.Test.YteccahggahpeeaaMByte
import Derived.Test.YteccahggahpeeaaMInts
import Derived.Test.YteccahggahpeeaaProg
import Derived.WalkKit
import Derived.WalkSpells
import Derived.WalkLawsBesides
import Derived.Below
import Derived.OneCell
import Derived.Lib.Hide
namespace Go.Proofs.Yteccahggahpeeaa
open Go.RowKit

theorem rwide_any (x : Int) (w : World) : Calls Try.prog 69 #[.int .i64 x] w fun e w' => e = .returned (.bool (decide (wideW x))) ∧ w = w' := by
  by_cases h1 : x = 1
  · subst h1
    go_enter Try.func69, Try.ntmps69
    go_wp2
    go_ret
    exact ⟨rfl, rfl⟩
  · by_cases h2 : x = 2
    · subst h2
      go_enter Try.func69, Try.ntmps69
      go_wp2
      go_ret
      exact ⟨rfl, rfl⟩
    · by_cases h4 : x = 4
      · subst h4
        go_enter Try.func69, Try.ntmps69
        go_wp2
        go_ret
        exact ⟨rfl, rfl⟩
      · by_cases h8 : x = 8
        · subst h8
          go_enter Try.func69, Try.ntmps69
          go_wp2
          go_ret
          exact ⟨rfl, rfl⟩
        · have e1 : (x == 1) = false := by rw [beq_eq_false_iff_ne]; exact h1
          have e2 : (x == 2) = false := by rw [beq_eq_false_iff_ne]; exact h2
          have e4 : (x == 4) = false := by rw [beq_eq_false_iff_ne]; exact h4
          have e8 : (x == 8) = false := by rw [beq_eq_false_iff_ne]; exact h8
          have He : Hid (decide (wideW x) = false) := Lib.hid (decide_eq_false (by unfold wideW; omega))
          clear h1 h2 h4 h8
          go_enter Try.func69, Try.ntmps69
          go_wp2
          go_ret
          exact ⟨by rw [He.out]; rfl, rfl⟩

theorem be_cons (i n : Nat) : be (i + 1) n = UInt8.ofNat (n / 256 ^ i % 256) :: be i n := by
  induction i generalizing n with
  | zero => simp [be]
  | succ i ih =>
    rw [show be (i + 1 + 1) n = be (i + 1) (n / 256) ++ [UInt8.ofNat (n % 256)] from rfl, ih, Nat.div_div_eq_div_mul, ← Nat.pow_succ', List.cons_append]
    rfl
/-- A text of one byte, made of a literal of one byte in the newest block. -/
theorem conv_one5 (W : World) (x : Int) : (convert 88 9 (.slice (some ⟨W.heap.size, 0, none⟩) 1 1)).run Try.prog (W.alloc (.cells #[.int .u8 x] 5)) = .ok (.string ⟨#[UInt8.ofNat x.toNat]⟩) (W.alloc (.cells #[.int .u8 x] 5)) := by
  rw [run_convert_bytes_string (P := Try.prog) _ 88 9 5 _ _ _ Try.underlying88 Try.underlying5 Try.underlying9]
  have hl : (loadCells ⟨W.heap.size, 0, none⟩ 1).run Try.prog (W.alloc (.cells #[.int .u8 x] 5)) = .ok ([x].map (Value.int .u8)).toArray (W.alloc (.cells #[.int .u8 x] 5)) :=
    run_loadCells_list (P := Try.prog) _ ⟨W.heap.size, 0, none⟩ ([x].map (Value.int .u8)) (fun j v hj => by
      match j, hj with
      | 0, hj => simp at hj; subst hj; simp [Addr.add])
  exact (run_bytesToString (P := Try.prog) _ _ 1 1 [x] hl).trans rfl

set_option maxHeartbeats 1000000 in
theorem rput_any (n x : Int) (hn : n ≤ 9223372036854775807) (w : World) :
    Calls Try.prog 45 #[.int .i64 n, .int .i64 x] w fun e w' => ∃ t : ByteArray, e = .returned (.tuple #[.string t, .int .i64 (putE n x)]) ∧ Hid (t.data.toList = putL n x) ∧ Below w.heap.size w w' := by
  have HW : Hid (∀ v, Calls Try.prog 69 #[.int .i64 x] v fun e w' => e = .returned (.bool (decide (wideW x))) ∧ v = w') := Lib.hid fun v => rwide_any x v
  by_cases hw : wideW x
  · rw [decide_eq_true hw] at HW
    by_cases h0 : n < 0
    · have he : putE n x = 8 := by unfold putE; rw [if_pos hw, if_neg (by omega)]
      have hl : putL n x = [] := by unfold putL; rw [if_neg (by omega)]
      have hd : decide (n < 0) = true := decide_eq_true h0
      rw [he, hl]
      clear h0
      go_enter Try.func45, Try.ntmps45
      go_wp2_with (go_at_call 69; refine (HW.out _).mono ?_; rintro e w1 ⟨rfl, rfl⟩)
      go_ret2
      exact ⟨_, rfl, Lib.hid rfl, Below.refl _ _⟩
    · obtain ⟨m, rfl⟩ : ∃ m : Nat, n = m := ⟨n.toNat, by omega⟩
      obtain ⟨w1, w2, w3⟩ := wide_nat hw
      obtain ⟨k, rfl⟩ : ∃ k : Nat, x = k := ⟨x.toNat, by omega⟩
      have hd : decide ((m : Int) < 0) = false := decide_eq_false (by omega)
      have hcv := conv_one5
      clear h0
      go_enter Try.func45, Try.ntmps45
      go_wp2_with (go_at_call 69; refine (HW.out _).mono ?_; rintro e w1 ⟨rfl, rfl⟩)
      go_loopw [0, 6, 7] (fun n' o' i' wr => ∃ (i q : Nat) (t : ByteArray), i' = .int .i64 i ∧ n' = .int .i64 q ∧ o' = .string t ∧ i ≤ k ∧ q ≤ m ∧ Hid (q = m / 256 ^ i) ∧ Hid (t.data.toList = be i m) ∧ Hid (Below w.heap.size w wr)) (fun _ _ i _ => k - (intOf i).toNat)
      case atStart => exact ⟨0, m, _, rfl, rfl, rfl, by omega, Nat.le_refl _, Lib.hid (by simp), Lib.hid rfl, Lib.hid (Below.refl _ _)⟩
      case round =>
        obtain ⟨i, q, t, rfl, rfl, rfl, hi, hq, hqe, ht, hbl⟩ := hrel
        by_cases hlt : i < k
        · have i1 : (i : Int) < (k : Int) := by omega
          have hts : t.size = i := by have := congrArg List.length ht.out; rw [be_len] at this; simpa using this
          have hsz : ¬ 9223372036854775807 < 1 + t.size := by omega
          have HN : Hid (q / 256 = m / 256 ^ (i + 1)) := Lib.hid (by rw [hqe.out, Nat.div_div_eq_div_mul, Nat.pow_succ])
          have HT : Hid ((⟨#[UInt8.ofNat (q % 256)]⟩ ++ t : ByteArray).data.toList = be (i + 1) m) := Lib.hid (by
            rw [be_cons, ← hqe.out, ← ht.out]; simp)
          clear hts
          go_wp2
          go_roundw
          case rel => exact ⟨i + 1, q / 256, _, by go_num, by go_num, rfl, by omega, by omega, HN, HT, Lib.hid (hbl.out.alloc hbl.out.size _)⟩
          case measure => simp [intOf]; omega
        · obtain rfl : i = k := by omega
          have hkn : (i : Int).toNat = i := Int.toNat_natCast i
          have hpw : ((256 : Int) ^ (i : Int).toNat) = ((256 ^ i : Nat) : Int) := by rw [hkn, Int.natCast_pow]; rfl
          by_cases hb : 0 < q
          · have hge : 256 ^ i ≤ m := by
              rcases Nat.lt_or_ge m (256 ^ i) with g | g
              · have := Nat.div_eq_of_lt g; have := hqe.out; omega
              · exact g
            have he : Hid (putE (m : Int) (i : Int) = 8) := Lib.hid (by unfold putE; rw [if_pos hw, if_neg (by rw [hpw]; omega)])
            have hl : Hid (putL (m : Int) (i : Int) = []) := Lib.hid (by unfold putL; rw [if_neg (by rw [he.out]; omega)])
            have hd2 : decide (0 < (q : Int)) = true := decide_eq_true (by omega)
            clear hge hpw hkn
            go_wp2
            go_ret2
            exact ⟨_, by rw [he.out]; rfl, Lib.hid (by rw [hl.out]), hbl.out⟩
          · have hlt2 : m < 256 ^ i := by
              rcases Nat.lt_or_ge m (256 ^ i) with g | g
              · exact g
              · have h9 : 0 < 256 ^ i := Nat.pow_pos (by decide); have := Nat.div_pos g h9; have := hqe.out; omega
            have he : Hid (putE (m : Int) (i : Int) = 0) := Lib.hid (by unfold putE; rw [if_pos hw, if_pos (by rw [hpw]; omega)])
            have hl : Hid (putL (m : Int) (i : Int) = be i m) := Lib.hid (by unfold putL; rw [if_pos he.out, hkn, Int.toNat_natCast])
            have hd2 : decide (0 < (q : Int)) = false := decide_eq_false (by omega)
            clear hlt2 hpw hkn
            go_wp2
            go_ret2
            exact ⟨t, by rw [he.out]; rfl, Lib.hid (by rw [hl.out]; exact ht.out), hbl.out⟩
  · have he : putE n x = 2 := by unfold putE; rw [if_neg hw]
    have hl : putL n x = [] := by unfold putL; rw [if_neg (by omega)]
    rw [decide_eq_false hw] at HW
    rw [he, hl]
    go_enter Try.func45, Try.ntmps45
    go_wp2_with (go_at_call 69; refine (HW.out _).mono ?_; rintro e w1 ⟨rfl, rfl⟩)
    go_ret2
    exact ⟨_, rfl, Lib.hid rfl, Below.refl _ _⟩

theorem val_take_more (l : List UInt8) (p j : Nat) (h : p + j < l.length) : val ((l.drop p).take (j + 1)) = 256 * val ((l.drop p).take j) + (l[p + j]).toNat := by
  rw [List.take_succ_eq_append_getElem (by simp; omega), val_snoc, List.getElem_drop]
theorem val_take_le (l : List UInt8) {j k : Nat} (h : j ≤ k) : val (l.take j) ≤ val (l.take k) := by
  have e : l.take k = l.take j ++ (l.take k).drop j := by
    have := List.take_append_drop j (l.take k)
    rw [List.take_take, Nat.min_eq_left h] at this
    exact this.symm
  rw [e, val_append]
  have : 1 ≤ 256 ^ ((l.take k).drop j).length := Nat.pow_pos (by decide)
  have := Nat.mul_le_mul_left (val (l.take j)) this
  omega

set_option maxHeartbeats 1000000 in
theorem rget_any (s : ByteArray) (hs : s.size ≤ 4611686018427387904) (p x : Int) (hp0 : -9223372036854775808 ≤ p) (hp1 : p ≤ 9223372036854775807) (w : World) :
    Calls Try.prog 78 #[.string s, .int .i64 p, .int .i64 x] w fun e w' => e = .returned (.tuple #[.int .i64 (getV s.data.toList p x), .int .i64 (getT s.data.toList p x), .int .i64 (getE s.data.toList p x)]) ∧ w = w' := by
  have HW : Hid (∀ v, Calls Try.prog 69 #[.int .i64 x] v fun e w' => e = .returned (.bool (decide (wideW x))) ∧ v = w') := Lib.hid fun v => rwide_any x v
  have hz : s.data.toList.length = s.size := by simp
  have hbad : getE s.data.toList p x ≠ 0 → getV s.data.toList p x = 0 ∧ getT s.data.toList p x = 0 := fun h => by unfold getV getT; rw [if_neg h, if_neg h]; exact ⟨rfl, rfl⟩
  by_cases hw : wideW x
  · rw [decide_eq_true hw] at HW
    by_cases h0 : p < 0
    · have he : getE s.data.toList p x = 2 := by unfold getE; rw [if_neg (by omega)]
      obtain ⟨hv, ht⟩ := hbad (by omega)
      have hd : decide (p < 0) = true := decide_eq_true h0
      rw [he, hv, ht]
      clear hz hbad he hv ht h0
      go_enter Try.func78, Try.ntmps78
      go_wp2_with (go_at_call 69; refine (HW.out _).mono ?_; rintro e w1 ⟨rfl, rfl⟩)
      go_ret3
      exact ⟨rfl, rfl⟩
    · have hd : decide (p < 0) = false := decide_eq_false h0
      by_cases h1 : (s.size : Int) < p
      · have he : getE s.data.toList p x = 2 := by unfold getE; rw [if_neg (by omega)]
        obtain ⟨hv, ht⟩ := hbad (by omega)
        have hd2 : decide ((s.size : Int) < p) = true := decide_eq_true h1
        rw [he, hv, ht]
        clear hz hbad he hv ht h0 h1
        go_enter Try.func78, Try.ntmps78
        go_wp2_with (go_at_call 69; refine (HW.out _).mono ?_; rintro e w1 ⟨rfl, rfl⟩)
        go_ret3
        exact ⟨rfl, rfl⟩
      · obtain ⟨q, rfl⟩ : ∃ q : Nat, p = q := ⟨p.toNat, by omega⟩
        obtain ⟨w1, w2, w3⟩ := wide_nat hw
        obtain ⟨k, rfl⟩ : ∃ k : Nat, x = k := ⟨x.toNat, by omega⟩
        have hd2 : decide ((s.size : Int) < (q : Int)) = false := decide_eq_false h1
        have hd3 : decide (s.size < q) = false := decide_eq_false (by omega)
        have hd4 : decide ((q : Int) > (s.size : Int)) = false := decide_eq_false (by omega)
        by_cases h2 : (s.size : Int) - (q : Int) < (k : Int)
        · have he : getE s.data.toList q k = 4 := by unfold getE; rw [if_pos ⟨hw, by omega, by omega⟩, hz, if_pos h2]
          obtain ⟨hv, ht⟩ := hbad (by omega)
          have hd5 : decide ((s.size : Int) - (q : Int) < (k : Int)) = true := decide_eq_true h2
          rw [he, hv, ht]
          clear hz hbad he hv ht h0 h1 h2
          go_enter Try.func78, Try.ntmps78
          go_wp2_with (go_at_call 69; refine (HW.out _).mono ?_; rintro e w1 ⟨rfl, rfl⟩)
          go_ret3
          exact ⟨rfl, rfl⟩
        · have hqn : q < s.size := by omega
          have hd5 : decide ((s.size : Int) - (q : Int) < (k : Int)) = false := decide_eq_false h2
          have hix : (s.data.toList.getD (q : Int).toNat 0) = s[q] := by
            rw [Int.toNat_natCast, List.getD_eq_getElem?_getD, List.getElem?_eq_getElem (by omega)]; rfl
          by_cases h8 : (k : Int) = 8 ∧ 127 < (s[q]).toNat
          · have he : getE s.data.toList q k = 8 := by unfold getE; rw [if_pos ⟨hw, by omega, by omega⟩, hz, if_neg h2, hix, if_pos h8]
            obtain ⟨hv, ht⟩ := hbad (by omega)
            obtain ⟨h8a, h8b⟩ := h8
            have hb1 : decide ((127 : Int) < ((s[q]).toNat : Int)) = true := decide_eq_true (by omega)
            obtain rfl : k = 8 := by omega
            have hd6 : decide ((s.size : Int) - (q : Int) < 8) = false := decide_eq_false (by omega)
            rw [he, hv, ht]
            clear hz hbad he hv ht h0 h1 h2 hix h8a hd5
            go_enter Try.func78, Try.ntmps78
            go_wp2_with (go_at_call 69; refine (HW.out _).mono ?_; rintro e w1 ⟨rfl, rfl⟩)
            all_goals first | (exfalso; omega) | (go_ret3; exact ⟨rfl, rfl⟩)
          · have he : getE s.data.toList q k = 0 := by unfold getE; rw [if_pos ⟨hw, by omega, by omega⟩, hz, if_neg h2, hix, if_neg h8]
            have hv : getV s.data.toList q k = (val ((s.data.toList.drop q).take k) : Int) := by unfold getV; rw [if_pos he, Int.toNat_natCast, Int.toNat_natCast]
            have ht : getT s.data.toList q k = (q : Int) + (k : Int) := by unfold getT; rw [if_pos he]
            obtain ⟨_, hb2, _, _⟩ := get_bound he
            rw [hv] at hb2
            have HVB : Hid (∀ j, j ≤ k → val ((s.data.toList.drop q).take j) ≤ 9223372036854775807) := Lib.hid fun j hj => by
              have := val_take_le (s.data.toList.drop q) hj; omega
            have HVM : Hid (∀ j, (h : q + j < s.size) → val ((s.data.toList.drop q).take (j + 1)) = 256 * val ((s.data.toList.drop q).take j) + (s[q + j]).toNat) := Lib.hid fun j h => val_take_more s.data.toList q j (by omega)
            have HLN : Hid (∀ j, j < k → q + j < s.size) := Lib.hid fun j hj => by omega
            have hk8 : ((k : Int) == 8) = true → decide ((127 : Int) < ((s[q]).toNat : Int)) = false := fun e => decide_eq_false (by
              have e' : (k : Int) = 8 := by simpa using e
              intro h9; exact h8 ⟨e', by omega⟩)
            have HK8 := Lib.hid hk8
            rw [he, hv, ht]
            generalize getE s.data.toList q k = E at *
            clear hz hbad he hv ht h0 h1 h2 hix h8 hk8 hb2
            by_cases hk : k = 8
            · have e1 : ((k : Int) == 8) = true := by rw [hk]; rfl
              have e2 := HK8.out e1
              clear hk
              go_enter Try.func78, Try.ntmps78
              go_wp2_with (go_at_call 69; refine (HW.out _).mono ?_; rintro e w1 ⟨rfl, rfl⟩)
              go_loop [9, 10] (fun n' i' => ∃ j v : Nat, i' = .int .i64 ((q + j : Nat) : Int) ∧ n' = .int .i64 v ∧ j ≤ k ∧ v ≤ 9223372036854775807 ∧ Hid (v = val ((s.data.toList.drop q).take j))) (fun _ i => q + k - (intOf i).toNat)
              case atStart => exact ⟨0, 0, rfl, rfl, by omega, by omega, Lib.hid (by simp [val, valOn])⟩
              case round =>
                obtain ⟨j, v, rfl, rfl, hj, hv, hve⟩ := hrel
                by_cases hlt : j < k
                · have hin : q + j < s.size := HLN.out j hlt
                  have m1 := HVM.out j hin
                  have m2 := HVB.out (j + 1) (by omega)
                  rw [m1, ← hve.out] at m2
                  have hv2 : 256 * v + (s[q + j]).toNat ≤ 9223372036854775807 := m2
                  have HV3 : Hid (256 * v + (s[q + j]).toNat = val ((s.data.toList.drop q).take (j + 1))) := Lib.hid (by rw [m1, ← hve.out])
                  clear m1 m2
                  obtain ⟨z, hz⟩ : ∃ z, q + j = z := ⟨_, rfl⟩
                  have HZ : Hid (q + j = z) := Lib.hid hz
                  have hzk : (z : Int) < (q : Int) + (k : Int) := by omega
                  subst hz
                  go_wp2
                  go_round
                  case rel => exact ⟨j + 1, 256 * v + (s[q + j]).toNat, by go_num, by go_num, by omega, hv2, HV3⟩
                  case measure => simp [intOf]; omega
                · obtain rfl : j = k := by omega
                  have hx : ¬ ((q + j : Nat) : Int) < (q : Int) + (j : Int) := by omega
                  go_wp2
                  go_ret3
                  exact ⟨by rw [← hve.out]; rfl, rfl⟩
            · have e1 : ((k : Int) == 8) = false := by rw [beq_eq_false_iff_ne]; omega
              clear hk
              go_enter Try.func78, Try.ntmps78
              go_wp2_with (go_at_call 69; refine (HW.out _).mono ?_; rintro e w1 ⟨rfl, rfl⟩)
              go_loop [9, 10] (fun n' i' => ∃ j v : Nat, i' = .int .i64 ((q + j : Nat) : Int) ∧ n' = .int .i64 v ∧ j ≤ k ∧ v ≤ 9223372036854775807 ∧ Hid (v = val ((s.data.toList.drop q).take j))) (fun _ i => q + k - (intOf i).toNat)
              case atStart => exact ⟨0, 0, rfl, rfl, by omega, by omega, Lib.hid (by simp [val, valOn])⟩
              case round =>
                obtain ⟨j, v, rfl, rfl, hj, hv, hve⟩ := hrel
                by_cases hlt : j < k
                · have hin : q + j < s.size := HLN.out j hlt
                  have m1 := HVM.out j hin
                  have m2 := HVB.out (j + 1) (by omega)
                  rw [m1, ← hve.out] at m2
                  have hv2 : 256 * v + (s[q + j]).toNat ≤ 9223372036854775807 := m2
                  have HV3 : Hid (256 * v + (s[q + j]).toNat = val ((s.data.toList.drop q).take (j + 1))) := Lib.hid (by rw [m1, ← hve.out])
                  clear m1 m2
                  obtain ⟨z, hz⟩ : ∃ z, q + j = z := ⟨_, rfl⟩
                  have HZ : Hid (q + j = z) := Lib.hid hz
                  have hzk : (z : Int) < (q : Int) + (k : Int) := by omega
                  subst hz
                  go_wp2
                  go_round
                  case rel => exact ⟨j + 1, 256 * v + (s[q + j]).toNat, by go_num, by go_num, by omega, hv2, HV3⟩
                  case measure => simp [intOf]; omega
                · obtain rfl : j = k := by omega
                  have hx : ¬ ((q + j : Nat) : Int) < (q : Int) + (j : Int) := by omega
                  go_wp2
                  go_ret3
                  exact ⟨by rw [← hve.out]; rfl, rfl⟩
  · have he : getE s.data.toList p x = 2 := by unfold getE; rw [if_neg (fun h => hw h.1)]
    obtain ⟨hv, ht⟩ := hbad (by omega)
    rw [decide_eq_false hw] at HW
    rw [he, hv, ht]
    clear hz hbad he hv ht
    go_enter Try.func78, Try.ntmps78
    go_wp2_with (go_at_call 69; refine (HW.out _).mono ?_; rintro e w1 ⟨rfl, rfl⟩)
    go_ret3
    exact ⟨rfl, rfl⟩
end Go.Proofs.Yteccahggahpeeaa
namespace Go.Proofs.Yteccahggahpeeaa
open Go.RowKit

/-- A text of two bytes, made of a literal of two bytes in the newest block. -/
theorem conv_two5 (W : World) (x y : Int) : (convert 88 9 (.slice (some ⟨W.heap.size, 0, none⟩) 2 2)).run Try.prog (W.alloc (.cells #[.int .u8 x, .int .u8 y] 5)) = .ok (.string ⟨#[UInt8.ofNat x.toNat, UInt8.ofNat y.toNat]⟩) (W.alloc (.cells #[.int .u8 x, .int .u8 y] 5)) := by
  rw [run_convert_bytes_string (P := Try.prog) _ 88 9 5 _ _ _ Try.underlying88 Try.underlying5 Try.underlying9]
  have hl : (loadCells ⟨W.heap.size, 0, none⟩ 2).run Try.prog (W.alloc (.cells #[.int .u8 x, .int .u8 y] 5)) = .ok ([x, y].map (Value.int .u8)).toArray (W.alloc (.cells #[.int .u8 x, .int .u8 y] 5)) :=
    run_loadCells_list (P := Try.prog) _ ⟨W.heap.size, 0, none⟩ ([x, y].map (Value.int .u8)) (fun j v hj => by
      match j, hj with
      | 0, hj => simp at hj; subst hj; simp [Addr.add]
      | 1, hj => simp at hj; subst hj; simp [Addr.add])
  exact (run_bytesToString (P := Try.prog) _ _ 2 2 [x, y] hl).trans rfl

set_option maxHeartbeats 1000000 in
theorem rlay_any (s : ByteArray) (hs : s.size ≤ 4611686018427387904) (w : World) :
    Calls Try.prog 46 #[.string s] w fun e w' => ∃ t : ByteArray, e = .returned (.tuple #[.string t, .int .i64 (layE s.data.toList)]) ∧ Hid (t.data.toList = layL s.data.toList) ∧ Below w.heap.size w w' := by
  have hz : s.data.toList.length = s.size := by simp
  by_cases hb : s.size ≤ 65535
  · have he : layE s.data.toList = 0 := by unfold layE; rw [hz, if_pos hb]
    have HL : Hid ((⟨#[UInt8.ofNat (s.size / 256), UInt8.ofNat (s.size % 256)]⟩ ++ s : ByteArray).data.toList = layL s.data.toList) := Lib.hid (by
      unfold layL
      rw [if_pos he, hz, show be 2 s.size = [UInt8.ofNat (s.size / 256 % 256), UInt8.ofNat (s.size % 256)] from rfl, Nat.mod_eq_of_lt (show s.size / 256 < 256 by omega)]
      simp)
    have hd : decide ((65535 : Int) < (s.size : Int)) = false := decide_eq_false (by omega)
    have hcv := conv_two5
    have hsz : ¬ 9223372036854775807 < 2 + s.size := by omega
    have hu : IntKind.u8.wrap ((s.size : Int) / 256) = (s.size : Int) / 256 := IntWalk.u8_in _ (by omega)
    rw [he]
    clear he hb hz
    go_enter Try.func46, Try.ntmps46
    go_wp2
    go_ret2
    exact ⟨_, rfl, HL, Below.alloc (Below.refl _ _) (Nat.le_refl _) _⟩
  · have he : layE s.data.toList = 3 := by unfold layE; rw [hz, if_neg hb]
    have hl : layL s.data.toList = [] := by unfold layL; rw [if_neg (by omega)]
    have hd : decide ((65535 : Int) < (s.size : Int)) = true := decide_eq_true (by omega)
    rw [he, hl]
    clear hb he hl hz
    go_enter Try.func46, Try.ntmps46
    go_wp2
    go_ret2
    exact ⟨_, rfl, Lib.hid rfl, Below.refl _ _⟩

theorem extract_list (s : ByteArray) (a b : Nat) : (s.extract a b).data.toList = (s.data.toList.drop a).take (b - a) := by
  rw [ByteArray.data_extract, Array.toList_extract, List.extract_eq_take_drop]

set_option maxHeartbeats 1000000 in
theorem rtake_any (s : ByteArray) (hs : s.size ≤ 4611686018427387904) (p m : Int) (hp0 : -9223372036854775808 ≤ p) (hp1 : p ≤ 9223372036854775807) (w : World) :
    Calls Try.prog 80 #[.string s, .int .i64 p, .int .i64 m] w fun e w' => ∃ t : ByteArray, e = .returned (.tuple #[.string t, .int .i64 (takeT s.data.toList p m), .int .i64 (takeE s.data.toList p m)]) ∧ Hid (t.data.toList = takeL s.data.toList p m) ∧ w = w' := by
  have HG := Lib.hid (rget_any s hs p 2 hp0 hp1 w)
  have hz : s.data.toList.length = s.size := by simp
  have hbad : takeE s.data.toList p m ≠ 0 → takeL s.data.toList p m = [] ∧ takeT s.data.toList p m = 0 := fun h => by unfold takeL takeT; rw [if_neg h, if_neg h]; exact ⟨rfl, rfl⟩
  by_cases ha : 0 ≤ m ∧ 0 ≤ p ∧ p ≤ s.size
  · have d1 : decide (m < 0) = false := decide_eq_false (by omega)
    have d2 : decide (p < 0) = false := decide_eq_false (by omega)
    have d3 : decide ((s.size : Int) < p) = false := decide_eq_false (by omega)
    by_cases hg : getE s.data.toList p 2 = 0
    · have hv : getT s.data.toList p 2 = p + 2 := by unfold getT; rw [if_pos hg]
      obtain ⟨b0, _, _, b3⟩ := get_bound hg
      have b4 := b3 rfl
      obtain ⟨_, _, f1, _⟩ := get_fine hg
      rw [hz] at f1
      have hgd : (getE s.data.toList p 2 != 0) = false := by rw [hg]; rfl
      rw [hv] at HG
      by_cases h1 : m < getV s.data.toList p 2
      · have he : takeE s.data.toList p m = 3 := by unfold takeE; rw [hz, if_pos ⟨ha.1, ha.2.1, ha.2.2⟩, if_pos hg, if_pos h1]
        obtain ⟨hl, ht⟩ := hbad (by omega)
        have d4 : decide (m < getV s.data.toList p 2) = true := decide_eq_true h1
        rw [he, hl, ht]
        clear hbad he hl ht hz ha hg hv b0 b3 b4 f1 h1
        go_enter Try.func80, Try.ntmps80
        go_wp2_with (go_at_call 78; refine HG.out.mono ?_; rintro e w1 ⟨rfl, rfl⟩)
        go_ret3
        exact ⟨_, rfl, Lib.hid rfl, rfl⟩
      · have d4 : decide (m < getV s.data.toList p 2) = false := decide_eq_false h1
        by_cases h2 : (s.size : Int) < p + 2 + getV s.data.toList p 2
        · have he : takeE s.data.toList p m = 4 := by unfold takeE; rw [hz, if_pos ⟨ha.1, ha.2.1, ha.2.2⟩, if_pos hg, if_neg h1, if_pos h2]
          obtain ⟨hl, ht⟩ := hbad (by omega)
          have d5 : decide ((s.size : Int) < p + 2 + getV s.data.toList p 2) = true := decide_eq_true h2
          rw [he, hl, ht]
          clear hbad he hl ht hz ha hg hv b3 h1 h2
          generalize getV s.data.toList p 2 = V at *
          generalize getE s.data.toList p 2 = E at *
          go_enter Try.func80, Try.ntmps80
          go_wp2_with (go_at_call 78; refine HG.out.mono ?_; rintro e w1 ⟨rfl, rfl⟩)
          go_ret3
          exact ⟨_, rfl, Lib.hid rfl, rfl⟩
        · have he : takeE s.data.toList p m = 0 := by unfold takeE; rw [hz, if_pos ⟨ha.1, ha.2.1, ha.2.2⟩, if_pos hg, if_neg h1, if_neg h2]
          have ht : takeT s.data.toList p m = p + 2 + getV s.data.toList p 2 := by unfold takeT; rw [if_pos he]
          obtain ⟨q, rfl⟩ : ∃ q : Nat, p = q := ⟨p.toNat, by omega⟩
          obtain ⟨V, hV⟩ : ∃ V : Nat, getV s.data.toList (q : Int) 2 = V := ⟨(getV s.data.toList (q : Int) 2).toNat, by omega⟩
          have HL : Hid ((s.extract (q + 2) (q + 2 + V)).data.toList = takeL s.data.toList (q : Int) m) := Lib.hid (by
            unfold takeL
            rw [if_pos he, hV, extract_list, Int.toNat_natCast, show ((q : Int) + 2).toNat = q + 2 by omega, show q + 2 + V - (q + 2) = V by omega])
          rw [hV] at h1 h2 b0 b4 d4 HG ht
          have d5 : decide ((s.size : Int) < (q : Int) + 2 + (V : Int)) = false := decide_eq_false h2
          have hin : q + 2 + V ≤ s.size := by omega
          rw [he, ht]
          generalize takeL s.data.toList (q : Int) m = LL at *
          generalize getE s.data.toList (q : Int) 2 = E at *
          clear hbad he ht hz ha hg hv b3 f1 h1 h2 hV
          go_enter Try.func80, Try.ntmps80
          go_wp2_with (go_at_call 78; refine HG.out.mono ?_; rintro e w1 ⟨rfl, rfl⟩)
          go_ret3
          exact ⟨_, rfl, HL, rfl⟩
    · have hgd : (getE s.data.toList p 2 != 0) = true := by rw [bne_iff_ne]; exact hg
      have he : takeE s.data.toList p m = getE s.data.toList p 2 := by unfold takeE; rw [hz, if_pos ⟨ha.1, ha.2.1, ha.2.2⟩, if_neg hg]
      obtain ⟨hl, ht⟩ := hbad (by rw [he]; exact hg)
      rw [he, hl, ht]
      clear hbad he hl ht hz ha hg
      go_enter Try.func80, Try.ntmps80
      go_wp2_with (go_at_call 78; refine HG.out.mono ?_; rintro e w1 ⟨rfl, rfl⟩)
      go_ret3
      exact ⟨_, rfl, Lib.hid rfl, rfl⟩
  · have he : takeE s.data.toList p m = 2 := by unfold takeE; rw [hz, if_neg (by omega)]
    obtain ⟨hl, ht⟩ := hbad (by omega)
    rw [he, hl, ht]
    clear hbad he hl ht hz
    by_cases h1 : m < 0
    · have d1 : decide (m < 0) = true := decide_eq_true h1
      clear ha h1
      go_enter Try.func80, Try.ntmps80
      go_wp2
      go_ret3
      exact ⟨_, rfl, Lib.hid rfl, rfl⟩
    · have d1 : decide (m < 0) = false := decide_eq_false h1
      by_cases h2 : p < 0
      · have d2 : decide (p < 0) = true := decide_eq_true h2
        clear ha h1 h2
        go_enter Try.func80, Try.ntmps80
        go_wp2
        go_ret3
        exact ⟨_, rfl, Lib.hid rfl, rfl⟩
      · have d2 : decide (p < 0) = false := decide_eq_false h2
        have d3 : decide ((s.size : Int) < p) = true := decide_eq_true (by omega)
        clear ha h1 h2
        go_enter Try.func80, Try.ntmps80
        go_wp2
        go_ret3
        exact ⟨_, rfl, Lib.hid rfl, rfl⟩
end Go.Proofs.Yteccahggahpeeaa
namespace Go.Proofs.Yteccahggahpeeaa
open Go.RowKit

theorem put_two {x : Int} (hw : wideW x) (n : Int) : putE n x = 0 ∨ putE n x = 8 := by
  unfold putE; rw [if_pos hw]; split
  · exact Or.inl rfl
  · exact Or.inr rfl
theorem put_len {n x : Int} (h : putE n x = 0) : (putL n x).length = x.toNat := by unfold putL; rw [if_pos h, be_len]
theorem flat_take (w : Nat) (l : List Int) (k : Nat) (h : k < l.length) : flat w (l.take (k + 1)) = flat w (l.take k) ++ be w (numAt l k).toNat := by
  rw [take_more l k h, flat_more]
  simp [flat]

end Go.Proofs.Yteccahggahpeeaa
namespace Go.Proofs.Yteccahggahpeeaa
open Go.RowKit

theorem bytes_eq {a b : ByteArray} (h : a.data.toList = b.data.toList) : a = b := by
  cases a; cases b; simp at h; simp [h]
/-- Bytes as a text. -/
def bt (l : List UInt8) : ByteArray := ⟨l.toArray⟩
theorem bt_list (l : List UInt8) : (bt l).data.toList = l := by unfold bt; simp
theorem bt_of {t : ByteArray} {l : List UInt8} (h : t.data.toList = l) : t = bt l := bytes_eq (h.trans (bt_list l).symm)
theorem rput_bt (n x : Int) (hn : n ≤ 9223372036854775807) (w : World) :
    Calls Try.prog 45 #[.int .i64 n, .int .i64 x] w fun e w' => e = .returned (.tuple #[.string (bt (putL n x)), .int .i64 (putE n x)]) ∧ Below w.heap.size w w' :=
  (rput_any n x hn w).mono fun _ _ ⟨t, he, ht, hb⟩ => ⟨by rw [he, bt_of ht.out], hb⟩
theorem rlay_bt (s : ByteArray) (hs : s.size ≤ 4611686018427387904) (w : World) :
    Calls Try.prog 46 #[.string s] w fun e w' => e = .returned (.tuple #[.string (bt (layL s.data.toList)), .int .i64 (layE s.data.toList)]) ∧ Below w.heap.size w w' :=
  (rlay_any s hs w).mono fun _ _ ⟨t, he, ht, hb⟩ => ⟨by rw [he, bt_of ht.out], hb⟩
theorem rtake_bt (s : ByteArray) (hs : s.size ≤ 4611686018427387904) (p m : Int) (hp0 : -9223372036854775808 ≤ p) (hp1 : p ≤ 9223372036854775807) (w : World) :
    Calls Try.prog 80 #[.string s, .int .i64 p, .int .i64 m] w fun e w' => e = .returned (.tuple #[.string (bt (takeL s.data.toList p m)), .int .i64 (takeT s.data.toList p m), .int .i64 (takeE s.data.toList p m)]) ∧ w = w' :=
  (rtake_any s hs p m hp0 hp1 w).mono fun _ _ ⟨t, he, ht, hb⟩ => ⟨by rw [he, bt_of ht.out], hb⟩
end Go.Proofs.Yteccahggahpeeaa
