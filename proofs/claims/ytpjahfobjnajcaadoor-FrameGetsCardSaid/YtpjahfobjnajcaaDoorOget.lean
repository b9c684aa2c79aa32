/- The program's Get, for every text and place, in every world. -/
import Derived.Test.YtpjahfobjnajcaaDoorOenc2
import Derived.Test.YtpjahfobjnajcaaDoorCells
namespace Go.Proofs.YtpjahfobjnajcaaDoor
open Go.RowKit

theorem two_cells {w : World} {g : Nat} {x y : Value} {t : TypeId} (h : w.heap[g]? = some (.cells #[x, y] t (0, 0))) :
    w.cell? ⟨g, 0, none⟩ = some x ∧ w.cell? ⟨g, 1, none⟩ = some y ∧ w.frozen? ⟨g, 0, none⟩ = false ∧ w.frozen? ⟨g, 1, none⟩ = false :=
  ⟨cell_of (j := 0) h rfl, cell_of (j := 1) h rfl, frozen_of_row w g 0 _ _ h, frozen_of_row w g 1 _ _ h⟩
theorem two_stored {w : World} {g : Nat} {x y : Value} {t : TypeId} (h : w.heap[g]? = some (.cells #[x, y] t (0, 0))) (x' y' : Value) :
    ((w.setCell ⟨g, 0, none⟩ x').setCell ⟨g, 1, none⟩ y').heap[g]? = some (.cells #[x', y'] t (0, 0)) := by
  have h0 := heap_setCell_same w g 0 _ t x' h
  exact heap_setCell_same _ g 1 _ t y' h0
theorem two_below {B : Nat} {w w' : World} (h : Below B w w') {g : Nat} (hg : B ≤ g) (x y : Value) :
    Below B w ((w'.setCell ⟨g, 0, none⟩ x).setCell ⟨g, 1, none⟩ y) :=
  (h.setCell (p := ⟨g, 0, none⟩) hg x).setCell (p := ⟨g, 1, none⟩) hg y
theorem pair_load {w : World} {g : Nat} {t : TypeId} {x y : Value} {fr : Nat × Nat} (h : w.heap[g]? = some (.cells #[x, y] t fr)) : (loadVar 62 ⟨g, 0, none⟩).run Tryd.prog w = .ok (.agg #[x, y]) w :=
  run_loadVar_row (P := Tryd.prog) w g t 62 #[x, y] fr _ h Tryd.underlying62 rfl (by kernel_rfl)

theorem or_byte (v c : Nat) (hv : v < 72057594037927936) (hc : c < 256) : bits BinOp.or IntKind.u64 ((v : Int) * 256) (c : Int) = ((256 * v + c : Nat) : Int) := by
  have e1 : (BitVec.ofInt 64 ((v : Int) * 256)).toNat = v * 256 := by rw [BitVec.toNat_ofInt]; omega
  have e2 : (BitVec.ofInt 64 (c : Int)).toNat = c := by rw [BitVec.toNat_ofInt]; omega
  have e3 : v * 256 ||| c = 256 * v + c := by
    have := Nat.shiftLeft_add_eq_or_of_lt (show c < 2 ^ 8 from hc) v
    rw [Nat.shiftLeft_eq, show (2 : Nat) ^ 8 = 256 from rfl] at this
    omega
  show IntKind.u64.wrap ((BitVec.ofInt 64 ((v : Int) * 256) ||| BitVec.ofInt 64 (c : Int)).toNat : Int) = _
  rw [BitVec.toNat_or, e1, e2, e3]
  exact IntWalk.u64_in _ (by omega)

set_option maxHeartbeats 2000000 in
theorem oget_any (s : ByteArray) (hs : s.size ≤ 4611686018427387904) (p x : Int) (hp0 : -9223372036854775808 ≤ p) (hp1 : p ≤ 9223372036854775807) (w : World) :
    Calls Tryd.prog 30 #[.string s, .int .i64 p, .int .i64 x] w fun e w' => e = .returned (.tuple #[.agg #[.int .i64 (getV s.data.toList p x), .int .i64 (getT s.data.toList p x)], .int .i64 (getE s.data.toList p x)]) ∧ Below w.heap.size w w' := by
  have HW : Hid (∀ v, Calls Tryd.prog 42 #[.int .i64 x] v fun e w' => e = .returned (.bool (decide (wideW x))) ∧ v = w') := Lib.hid fun v => oiswidth_any x v
  have hz : s.data.toList.length = s.size := by simp
  have hbad : getE s.data.toList p x ≠ 0 → getV s.data.toList p x = 0 ∧ getT s.data.toList p x = 0 := fun h => by unfold getV getT; rw [if_neg h, if_neg h]; exact ⟨rfl, rfl⟩
  by_cases hw : wideW x
  · rw [decide_eq_true hw] at HW
    by_cases h0 : p < 0
    · have he : getE s.data.toList p x = 2 := by unfold getE; rw [if_neg (by omega)]
      obtain ⟨hv, ht⟩ := hbad (by omega)
      have hd : decide (p < 0) = true := decide_eq_true h0
      rw [he, hv, ht]
      clear hz hbad he hv ht h0
      go_enter Tryd.func30, Tryd.ntmps30
      go_wp2_with (go_at_call 42; refine (HW.out _).mono ?_; rintro e w1 ⟨rfl, rfl⟩)
      refine bodyPost_ret (results_row_slot rfl _ _ w.heap.size _ rfl (pair_load (heap_alloc_new _ _))) rfl ?_
      exact ⟨rfl, (Below.refl _ w).alloc (Nat.le_refl _) _⟩
    · have hd : decide (p < 0) = false := decide_eq_false h0
      by_cases h1 : (s.size : Int) < p
      · have he : getE s.data.toList p x = 2 := by unfold getE; rw [if_neg (by omega)]
        obtain ⟨hv, ht⟩ := hbad (by omega)
        have hd2 : decide ((s.size : Int) < p) = true := decide_eq_true h1
        rw [he, hv, ht]
        clear hz hbad he hv ht h0 h1
        go_enter Tryd.func30, Tryd.ntmps30
        go_wp2_with (go_at_call 42; refine (HW.out _).mono ?_; rintro e w1 ⟨rfl, rfl⟩)
        refine bodyPost_ret (results_row_slot rfl _ _ w.heap.size _ rfl (pair_load (heap_alloc_new _ _))) rfl ?_
        exact ⟨rfl, (Below.refl _ w).alloc (Nat.le_refl _) _⟩
      · obtain ⟨q, rfl⟩ : ∃ q : Nat, p = q := ⟨p.toNat, by omega⟩
        obtain ⟨w1, w2, w3⟩ := wide_nat hw
        obtain ⟨k, rfl⟩ : ∃ k : Nat, x = k := ⟨x.toNat, by omega⟩
        have hd2 : decide ((s.size : Int) < (q : Int)) = false := decide_eq_false h1
        have hd3 : decide (s.size < q) = false := decide_eq_false (by omega)
        by_cases h2 : (s.size : Int) - (q : Int) < (k : Int)
        · have he : getE s.data.toList q k = 4 := by unfold getE; rw [if_pos ⟨hw, by omega, by omega⟩, hz, if_pos h2]
          obtain ⟨hv, ht⟩ := hbad (by omega)
          have hd5 : decide ((s.size : Int) - (q : Int) < (k : Int)) = true := decide_eq_true h2
          rw [he, hv, ht]
          clear hz hbad he hv ht h0 h1 h2
          go_enter Tryd.func30, Tryd.ntmps30
          go_wp2_with (go_at_call 42; refine (HW.out _).mono ?_; rintro e w1 ⟨rfl, rfl⟩)
          refine bodyPost_ret (results_row_slot rfl _ _ w.heap.size _ rfl (pair_load (heap_alloc_new _ _))) rfl ?_
          exact ⟨rfl, (Below.refl _ w).alloc (Nat.le_refl _) _⟩
        · have hd5 : decide ((s.size : Int) - (q : Int) < (k : Int)) = false := decide_eq_false h2
          have hlen : ((s.data.toList.drop q).take k).length = k := by simp; omega
          have hV := val_lt ((s.data.toList.drop q).take k)
          rw [hlen] at hV
          have hix : (s.data.toList.getD (q : Int).toNat 0) = ((s.data.toList.drop q).take k).getD 0 0 := by
            rw [Int.toNat_natCast, List.getD_eq_getElem?_getD, List.getD_eq_getElem?_getD, List.getElem?_take_of_lt (by omega), List.getElem?_drop, Nat.add_zero]
          have HGE : Hid (getE s.data.toList q k = if 9223372036854775807 < val ((s.data.toList.drop q).take k) then 8 else 0) := Lib.hid (by
            unfold getE
            rw [if_pos ⟨hw, by omega, by omega⟩, hz, if_neg h2, hix]
            by_cases h8 : (k : Int) = 8
            · have e8 : k = 8 := by omega
              subst e8
              by_cases h9 : 127 < (((s.data.toList.drop q).take 8).getD 0 0).toNat
              · rw [if_pos ⟨h8, h9⟩, if_pos]
                rcases Nat.lt_or_ge 9223372036854775807 (val ((s.data.toList.drop q).take 8)) with g | g
                · exact g
                · exact absurd h9 (by have := first_byte hlen g; omega)
              · rw [if_neg (fun h => h9 h.2), if_neg]
                have := val_eight hlen (by omega)
                omega
            · rw [if_neg (fun h => h8 h.1), if_neg]
              have : 256 ^ k ≤ 256 ^ 7 := Nat.pow_le_pow_right (by decide) (by unfold wideW at hw; omega)
              omega)
          have HVM : Hid (∀ j, (h : q + j < s.size) → val ((s.data.toList.drop q).take (j + 1)) = 256 * val ((s.data.toList.drop q).take j) + (s[q + j]).toNat) := Lib.hid fun j h => val_take_more s.data.toList q j (by omega)
          have HVB : Hid (∀ j, j < k → val ((s.data.toList.drop q).take j) < 72057594037927936) := Lib.hid fun j hj => by
            have h3 := val_lt ((s.data.toList.drop q).take j)
            have h4 : ((s.data.toList.drop q).take j).length = j := by simp; omega
            rw [h4] at h3
            have : 256 ^ j ≤ 256 ^ 7 := Nat.pow_le_pow_right (by decide) (by omega)
            omega
          have HLN : Hid (∀ j, j < k → q + j < s.size) := Lib.hid fun j hj => by omega
          have HVT : Hid (getE s.data.toList q k = 0 → getV s.data.toList q k = (val ((s.data.toList.drop q).take k) : Int) ∧ getT s.data.toList q k = (q : Int) + (k : Int)) := Lib.hid fun he => by
            unfold getV getT; rw [if_pos he, if_pos he, Int.toNat_natCast, Int.toNat_natCast]; exact ⟨rfl, rfl⟩
          have HBD := Lib.hid hbad
          have hqs : q ≤ 4611686018427387904 := by omega
          have hk8 : k ≤ 8 := by omega
          clear hz hbad h0 h1 h2 hix hlen hV
          go_enter Tryd.func30, Tryd.ntmps30
          go_wp2_with (go_at_call 42; refine (HW.out _).mono ?_; rintro e w1 ⟨rfl, rfl⟩)
          go_loop [9, 10] (fun n' i' => ∃ j v : Nat, i' = .int .i64 ((q + j : Nat) : Int) ∧ n' = .int .u64 v ∧ j ≤ k ∧ Hid (v = val ((s.data.toList.drop q).take j))) (fun _ i => q + k - (intOf i).toNat)
          case atStart => exact ⟨0, 0, rfl, rfl, by omega, Lib.hid (by simp [val, valOn])⟩
          case round =>
            obtain ⟨j, v, rfl, rfl, hj, hve⟩ := hrel
            by_cases hlt : j < k
            · have hin : q + j < s.size := HLN.out j hlt
              have m1 := HVM.out j hin
              have hv2 := HVB.out j hlt
              rw [← hve.out] at hv2
              have HV3 : Hid (256 * v + (s[q + j]).toNat = val ((s.data.toList.drop q).take (j + 1))) := Lib.hid (by rw [m1, ← hve.out])
              have hcb : (s[q + j]).toNat < 256 := (s[q + j]).toNat_lt
              have hu : IntKind.u64.wrap ((s[q + j]).toNat : Int) = ((s[q + j]).toNat : Int) := IntWalk.u64_in _ (by omega)
              have hor := or_byte v (s[q + j]).toNat hv2 hcb
              clear m1
              obtain ⟨z, hz⟩ : ∃ z, q + j = z := ⟨_, rfl⟩
              have HZ : Hid (q + j = z) := Lib.hid hz
              have hzk : (z : Int) < (q : Int) + (k : Int) := by omega
              subst hz
              go_wp2
              go_round
              case rel => exact ⟨j + 1, 256 * v + (s[q + j]).toNat, by go_num, by go_num, by omega, HV3⟩
              case measure => simp [intOf]; omega
            · obtain rfl : j = k := by omega
              have hx : ¬ ((q + j : Nat) : Int) < (q : Int) + (j : Int) := by omega
              by_cases hbig : 9223372036854775807 < v
              · have he : getE s.data.toList q j = 8 := by have := HGE.out; rw [← hve.out, if_pos hbig] at this; exact this
                obtain ⟨h8, h9⟩ := HBD.out (by omega)
                have H8 := Lib.hid h8
                have H9 := Lib.hid h9
                have HE := Lib.hid he
                clear h8 h9 he
                have hdb : decide ((9223372036854775807 : Int) < (v : Int)) = true := decide_eq_true (by omega)
                go_wp2
                rw [H8.out, H9.out, HE.out]
                refine bodyPost_ret (results_row_slot rfl _ _ w.heap.size _ rfl (pair_load (heap_alloc_new _ _))) rfl ?_
                exact ⟨rfl, (Below.refl _ w).alloc (Nat.le_refl _) _⟩
              · have he : getE s.data.toList q j = 0 := by have := HGE.out; rw [← hve.out, if_neg hbig] at this; exact this
                obtain ⟨h8, h9⟩ := HVT.out he
                have H8 := Lib.hid h8
                have H9 := Lib.hid h9
                have HE := Lib.hid he
                clear h8 h9 he
                have hdb : decide ((9223372036854775807 : Int) < (v : Int)) = false := decide_eq_false (by omega)
                have hwv : IntKind.i64.wrap (v : Int) = (v : Int) := IntWalk.i64_in _ (by omega)
                go_wp2
                rw [H8.out, H9.out, HE.out, ← hve.out]
                refine bodyPost_ret (results_row_slot rfl _ _ w.heap.size _ rfl (pair_load (heap_alloc_new _ _))) rfl ?_
                exact ⟨rfl, (Below.refl _ w).alloc (Nat.le_refl _) _⟩
  · have he : getE s.data.toList p x = 2 := by unfold getE; rw [if_neg (fun h => hw h.1)]
    obtain ⟨hv, ht⟩ := hbad (by omega)
    rw [decide_eq_false hw] at HW
    rw [he, hv, ht]
    clear hz hbad he hv ht
    go_enter Tryd.func30, Tryd.ntmps30
    go_wp2_with (go_at_call 42; refine (HW.out _).mono ?_; rintro e w1 ⟨rfl, rfl⟩)
    refine bodyPost_ret (results_row_slot rfl _ _ w.heap.size _ rfl (pair_load (heap_alloc_new _ _))) rfl ?_
    exact ⟨rfl, (Below.refl _ w).alloc (Nat.le_refl _) _⟩
end Go.Proofs.YtpjahfobjnajcaaDoor
