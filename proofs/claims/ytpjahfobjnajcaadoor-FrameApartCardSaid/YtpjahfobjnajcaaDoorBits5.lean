/- The document's own Put, Get and Lay, for every number, text and place, in every world. -/
import Derived.Test.YtpjahfobjnajcaaDoorFlat
import Derived.Test.YtpjahfobjnajcaaDoorProg
import Derived.WalkKit
import Derived.WalkSpells
import Derived.WalkLawsBesides
import Derived.Below
import Derived.OneCell
import Derived.Lib.Hide
namespace Go.Proofs.YtpjahfobjnajcaaDoor
open Go.RowKit

theorem rwide_any (x : Int) (w : World) : Calls Tryd.prog 38 #[.int .i64 x] w fun e w' => e = .returned (.bool (decide (wideW x))) ∧ w = w' := by
  by_cases h1 : x = 1
  · subst h1
    go_enter Tryd.func38, Tryd.ntmps38
    go_wp2
    go_ret
    exact ⟨rfl, rfl⟩
  · by_cases h2 : x = 2
    · subst h2
      go_enter Tryd.func38, Tryd.ntmps38
      go_wp2
      go_ret
      exact ⟨rfl, rfl⟩
    · by_cases h4 : x = 4
      · subst h4
        go_enter Tryd.func38, Tryd.ntmps38
        go_wp2
        go_ret
        exact ⟨rfl, rfl⟩
      · by_cases h8 : x = 8
        · subst h8
          go_enter Tryd.func38, Tryd.ntmps38
          go_wp2
          go_ret
          exact ⟨rfl, rfl⟩
        · have e1 : (x == 1) = false := by rw [beq_eq_false_iff_ne]; exact h1
          have e2 : (x == 2) = false := by rw [beq_eq_false_iff_ne]; exact h2
          have e4 : (x == 4) = false := by rw [beq_eq_false_iff_ne]; exact h4
          have e8 : (x == 8) = false := by rw [beq_eq_false_iff_ne]; exact h8
          have He : Hid (decide (wideW x) = false) := Lib.hid (decide_eq_false (by unfold wideW; omega))
          clear h1 h2 h4 h8
          go_enter Tryd.func38, Tryd.ntmps38
          go_wp2
          go_ret
          exact ⟨by rw [He.out]; rfl, rfl⟩

theorem be_cons (i n : Nat) : be (i + 1) n = UInt8.ofNat (n / 256 ^ i % 256) :: be i n := by
  induction i generalizing n with
  | zero => simp [be]
  | succ i ih =>
    rw [show be (i + 1 + 1) n = be (i + 1) (n / 256) ++ [UInt8.ofNat (n % 256)] from rfl, ih, Nat.div_div_eq_div_mul, ← Nat.pow_succ', List.cons_append]
    rfl
/-- A text of one byte, made of a literal of one byte in the newest block. -/
theorem conv_one5 (W : World) (x : Int) : (convert 39 9 (.slice (some ⟨W.heap.size, 0, none⟩) 1 1)).run Tryd.prog (W.alloc (.cells #[.int .u8 x] 5)) = .ok (.string ⟨#[UInt8.ofNat x.toNat]⟩) (W.alloc (.cells #[.int .u8 x] 5)) := by
  rw [run_convert_bytes_string (P := Tryd.prog) _ 39 9 5 _ _ _ Tryd.underlying39 Tryd.underlying5 Tryd.underlying9]
  have hl : (loadCells ⟨W.heap.size, 0, none⟩ 1).run Tryd.prog (W.alloc (.cells #[.int .u8 x] 5)) = .ok ([x].map (Value.int .u8)).toArray (W.alloc (.cells #[.int .u8 x] 5)) :=
    run_loadCells_list (P := Tryd.prog) _ ⟨W.heap.size, 0, none⟩ ([x].map (Value.int .u8)) (fun j v hj => by
      match j, hj with
      | 0, hj => simp at hj; subst hj; simp [Addr.add])
  exact (run_bytesToString (P := Tryd.prog) _ _ 1 1 [x] hl).trans rfl

theorem val_take_more (l : List UInt8) (p j : Nat) (h : p + j < l.length) : val ((l.drop p).take (j + 1)) = 256 * val ((l.drop p).take j) + (l[p + j]).toNat := by
  rw [List.take_succ_eq_append_getElem (by simp; omega), val_snoc, List.getElem_drop]
theorem val_take_le (l : List UInt8) {j k : Nat} (h : j ≤ k) : val (l.take j) ≤ val (l.take k) := by
  have e : l.take k = l.take j ++ (l.take k).drop j := by
    have := List.take_append_drop j (l.take k)
    rw [List.take_take, Nat.min_eq_left h] at this
    exact this.symm
  rw [e, val_append]
  have : 1 ≤ 256 ^ ((l.take k).drop j).length := Nat.pow_pos (by decide)
  have := Nat.mul_le_mul_left (val (l.take j)) this
  omega

set_option maxHeartbeats 1000000 in
theorem rget_any (s : ByteArray) (hs : s.size ≤ 4611686018427387904) (p x : Int) (hp0 : -9223372036854775808 ≤ p) (hp1 : p ≤ 9223372036854775807) (w : World) :
    Calls Tryd.prog 21 #[.string s, .int .i64 p, .int .i64 x] w fun e w' => e = .returned (.tuple #[.int .i64 (getV s.data.toList p x), .int .i64 (getT s.data.toList p x), .int .i64 (getE s.data.toList p x)]) ∧ w = w' := by
  have HW : Hid (∀ v, Calls Tryd.prog 38 #[.int .i64 x] v fun e w' => e = .returned (.bool (decide (wideW x))) ∧ v = w') := Lib.hid fun v => rwide_any x v
  have hz : s.data.toList.length = s.size := by simp
  have hbad : getE s.data.toList p x ≠ 0 → getV s.data.toList p x = 0 ∧ getT s.data.toList p x = 0 := fun h => by unfold getV getT; rw [if_neg h, if_neg h]; exact ⟨rfl, rfl⟩
  by_cases hw : wideW x
  · rw [decide_eq_true hw] at HW
    by_cases h0 : p < 0
    · have he : getE s.data.toList p x = 2 := by unfold getE; rw [if_neg (by omega)]
      obtain ⟨hv, ht⟩ := hbad (by omega)
      have hd : decide (p < 0) = true := decide_eq_true h0
      rw [he, hv, ht]
      clear hz hbad he hv ht h0
      go_enter Tryd.func21, Tryd.ntmps21
      go_wp2_with (go_at_call 38; refine (HW.out _).mono ?_; rintro e w1 ⟨rfl, rfl⟩)
      go_ret3
      exact ⟨rfl, rfl⟩
    · have hd : decide (p < 0) = false := decide_eq_false h0
      by_cases h1 : (s.size : Int) < p
      · have he : getE s.data.toList p x = 2 := by unfold getE; rw [if_neg (by omega)]
        obtain ⟨hv, ht⟩ := hbad (by omega)
        have hd2 : decide ((s.size : Int) < p) = true := decide_eq_true h1
        rw [he, hv, ht]
        clear hz hbad he hv ht h0 h1
        go_enter Tryd.func21, Tryd.ntmps21
        go_wp2_with (go_at_call 38; refine (HW.out _).mono ?_; rintro e w1 ⟨rfl, rfl⟩)
        go_ret3
        exact ⟨rfl, rfl⟩
      · obtain ⟨q, rfl⟩ : ∃ q : Nat, p = q := ⟨p.toNat, by omega⟩
        obtain ⟨w1, w2, w3⟩ := wide_nat hw
        obtain ⟨k, rfl⟩ : ∃ k : Nat, x = k := ⟨x.toNat, by omega⟩
        have hd2 : decide ((s.size : Int) < (q : Int)) = false := decide_eq_false h1
        have hd3 : decide (s.size < q) = false := decide_eq_false (by omega)
        have hd4 : decide ((q : Int) > (s.size : Int)) = false := decide_eq_false (by omega)
        by_cases h2 : (s.size : Int) - (q : Int) < (k : Int)
        · have he : getE s.data.toList q k = 4 := by unfold getE; rw [if_pos ⟨hw, by omega, by omega⟩, hz, if_pos h2]
          obtain ⟨hv, ht⟩ := hbad (by omega)
          have hd5 : decide ((s.size : Int) - (q : Int) < (k : Int)) = true := decide_eq_true h2
          rw [he, hv, ht]
          clear hz hbad he hv ht h0 h1 h2
          go_enter Tryd.func21, Tryd.ntmps21
          go_wp2_with (go_at_call 38; refine (HW.out _).mono ?_; rintro e w1 ⟨rfl, rfl⟩)
          go_ret3
          exact ⟨rfl, rfl⟩
        · have hqn : q < s.size := by omega
          have hd5 : decide ((s.size : Int) - (q : Int) < (k : Int)) = false := decide_eq_false h2
          have hix : (s.data.toList.getD (q : Int).toNat 0) = s[q] := by
            rw [Int.toNat_natCast, List.getD_eq_getElem?_getD, List.getElem?_eq_getElem (by omega)]; rfl
          by_cases h8 : (k : Int) = 8 ∧ 127 < (s[q]).toNat
          · have he : getE s.data.toList q k = 8 := by unfold getE; rw [if_pos ⟨hw, by omega, by omega⟩, hz, if_neg h2, hix, if_pos h8]
            obtain ⟨hv, ht⟩ := hbad (by omega)
            obtain ⟨h8a, h8b⟩ := h8
            have hb1 : decide ((127 : Int) < ((s[q]).toNat : Int)) = true := decide_eq_true (by omega)
            obtain rfl : k = 8 := by omega
            have hd6 : decide ((s.size : Int) - (q : Int) < 8) = false := decide_eq_false (by omega)
            rw [he, hv, ht]
            clear hz hbad he hv ht h0 h1 h2 hix h8a hd5
            go_enter Tryd.func21, Tryd.ntmps21
            go_wp2_with (go_at_call 38; refine (HW.out _).mono ?_; rintro e w1 ⟨rfl, rfl⟩)
            all_goals first | (exfalso; omega) | (go_ret3; exact ⟨rfl, rfl⟩)
          · have he : getE s.data.toList q k = 0 := by unfold getE; rw [if_pos ⟨hw, by omega, by omega⟩, hz, if_neg h2, hix, if_neg h8]
            have hv : getV s.data.toList q k = (val ((s.data.toList.drop q).take k) : Int) := by unfold getV; rw [if_pos he, Int.toNat_natCast, Int.toNat_natCast]
            have ht : getT s.data.toList q k = (q : Int) + (k : Int) := by unfold getT; rw [if_pos he]
            obtain ⟨_, hb2, _, _⟩ := get_bound he
            rw [hv] at hb2
            have HVB : Hid (∀ j, j ≤ k → val ((s.data.toList.drop q).take j) ≤ 9223372036854775807) := Lib.hid fun j hj => by
              have := val_take_le (s.data.toList.drop q) hj; omega
            have HVM : Hid (∀ j, (h : q + j < s.size) → val ((s.data.toList.drop q).take (j + 1)) = 256 * val ((s.data.toList.drop q).take j) + (s[q + j]).toNat) := Lib.hid fun j h => val_take_more s.data.toList q j (by omega)
            have HLN : Hid (∀ j, j < k → q + j < s.size) := Lib.hid fun j hj => by omega
            have hk8 : ((k : Int) == 8) = true → decide ((127 : Int) < ((s[q]).toNat : Int)) = false := fun e => decide_eq_false (by
              have e' : (k : Int) = 8 := by simpa using e
              intro h9; exact h8 ⟨e', by omega⟩)
            have HK8 := Lib.hid hk8
            rw [he, hv, ht]
            generalize getE s.data.toList q k = E at *
            clear hz hbad he hv ht h0 h1 h2 hix h8 hk8 hb2
            by_cases hk : k = 8
            · have e1 : ((k : Int) == 8) = true := by rw [hk]; rfl
              have e2 := HK8.out e1
              clear hk
              go_enter Tryd.func21, Tryd.ntmps21
              go_wp2_with (go_at_call 38; refine (HW.out _).mono ?_; rintro e w1 ⟨rfl, rfl⟩)
              go_loop [9, 10] (fun n' i' => ∃ j v : Nat, i' = .int .i64 ((q + j : Nat) : Int) ∧ n' = .int .i64 v ∧ j ≤ k ∧ v ≤ 9223372036854775807 ∧ Hid (v = val ((s.data.toList.drop q).take j))) (fun _ i => q + k - (intOf i).toNat)
              case atStart => exact ⟨0, 0, rfl, rfl, by omega, by omega, Lib.hid (by simp [val, valOn])⟩
              case round =>
                obtain ⟨j, v, rfl, rfl, hj, hv, hve⟩ := hrel
                by_cases hlt : j < k
                · have hin : q + j < s.size := HLN.out j hlt
                  have m1 := HVM.out j hin
                  have m2 := HVB.out (j + 1) (by omega)
                  rw [m1, ← hve.out] at m2
                  have hv2 : 256 * v + (s[q + j]).toNat ≤ 9223372036854775807 := m2
                  have HV3 : Hid (256 * v + (s[q + j]).toNat = val ((s.data.toList.drop q).take (j + 1))) := Lib.hid (by rw [m1, ← hve.out])
                  clear m1 m2
                  obtain ⟨z, hz⟩ : ∃ z, q + j = z := ⟨_, rfl⟩
                  have HZ : Hid (q + j = z) := Lib.hid hz
                  have hzk : (z : Int) < (q : Int) + (k : Int) := by omega
                  subst hz
                  go_wp2
                  go_round
                  case rel => exact ⟨j + 1, 256 * v + (s[q + j]).toNat, by go_num, by go_num, by omega, hv2, HV3⟩
                  case measure => simp [intOf]; omega
                · obtain rfl : j = k := by omega
                  have hx : ¬ ((q + j : Nat) : Int) < (q : Int) + (j : Int) := by omega
                  go_wp2
                  go_ret3
                  exact ⟨by rw [← hve.out]; rfl, rfl⟩
            · have e1 : ((k : Int) == 8) = false := by rw [beq_eq_false_iff_ne]; omega
              clear hk
              go_enter Tryd.func21, Tryd.ntmps21
              go_wp2_with (go_at_call 38; refine (HW.out _).mono ?_; rintro e w1 ⟨rfl, rfl⟩)
              go_loop [9, 10] (fun n' i' => ∃ j v : Nat, i' = .int .i64 ((q + j : Nat) : Int) ∧ n' = .int .i64 v ∧ j ≤ k ∧ v ≤ 9223372036854775807 ∧ Hid (v = val ((s.data.toList.drop q).take j))) (fun _ i => q + k - (intOf i).toNat)
              case atStart => exact ⟨0, 0, rfl, rfl, by omega, by omega, Lib.hid (by simp [val, valOn])⟩
              case round =>
                obtain ⟨j, v, rfl, rfl, hj, hv, hve⟩ := hrel
                by_cases hlt : j < k
                · have hin : q + j < s.size := HLN.out j hlt
                  have m1 := HVM.out j hin
                  have m2 := HVB.out (j + 1) (by omega)
                  rw [m1, ← hve.out] at m2
                  have hv2 : 256 * v + (s[q + j]).toNat ≤ 9223372036854775807 := m2
                  have HV3 : Hid (256 * v + (s[q + j]).toNat = val ((s.data.toList.drop q).take (j + 1))) := Lib.hid (by rw [m1, ← hve.out])
                  clear m1 m2
                  obtain ⟨z, hz⟩ : ∃ z, q + j = z := ⟨_, rfl⟩
                  have HZ : Hid (q + j = z) := Lib.hid hz
                  have hzk : (z : Int) < (q : Int) + (k : Int) := by omega
                  subst hz
                  go_wp2
                  go_round
                  case rel => exact ⟨j + 1, 256 * v + (s[q + j]).toNat, by go_num, by go_num, by omega, hv2, HV3⟩
                  case measure => simp [intOf]; omega
                · obtain rfl : j = k := by omega
                  have hx : ¬ ((q + j : Nat) : Int) < (q : Int) + (j : Int) := by omega
                  go_wp2
                  go_ret3
                  exact ⟨by rw [← hve.out]; rfl, rfl⟩
  · have he : getE s.data.toList p x = 2 := by unfold getE; rw [if_neg (fun h => hw h.1)]
    obtain ⟨hv, ht⟩ := hbad (by omega)
    rw [decide_eq_false hw] at HW
    rw [he, hv, ht]
    clear hz hbad he hv ht
    go_enter Tryd.func21, Tryd.ntmps21
    go_wp2_with (go_at_call 38; refine (HW.out _).mono ?_; rintro e w1 ⟨rfl, rfl⟩)
    go_ret3
    exact ⟨rfl, rfl⟩
end Go.Proofs.YtpjahfobjnajcaaDoor
