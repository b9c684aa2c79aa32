/- The library's merging of two ranges side by side where one of them has one place alone. -/
import Derived.Test.YtmdonhkdkapjpaaInsert
namespace Go.Proofs.Ytmdonhkdkapjpaa
open Go.RowKit

theorem mid_of {i j : Nat} (h : i ≤ 4611686018427387904) (g : j ≤ 4611686018427387904) : IntKind.i64.wrap (IntKind.u64.wrap ((i : Int) + (j : Int)) / 2) = (((i + j) / 2 : Nat) : Int) := by
  rw [IntKind.wrap_i64, IntKind.wrap_u64]; omega

set_option maxRecDepth 100000 in
set_option maxHeartbeats 4000000 in
theorem merge_one (key : Int → Int) (B g n cap a b : Nat) (p : Addr) (d : Nat → Int) (w0 w : World) (h : RowOf B g n cap d w) (hw : Below B w0 w) (hn : n ≤ 2305843009213693952) (ha : a + 1 < b) (hb : b ≤ n) (hv : Vals d n) (hso : So key d (a + 1) b) (hst : St key d a b) (hC : Cmps key B w0 n p) :
    Calls Try.prog 50 #[.slice (some ⟨g, 0, none⟩) n cap, .int .i64 a, .int .i64 ((a + 1 : Nat) : Int), .int .i64 b, .func (.func 36) #[] #[.pointer (some p)]] w fun e w' => e = .returned (.tuple #[]) ∧ ∃ f, So key f a b ∧ Sub d f a b ∧ RowOf B g n cap f w' ∧ Below B w0 w' := by
  have HH := Lib.hid h
  have HC := Lib.hid hC
  have HV := Lib.hid hv
  have HS := Lib.hid hst
  have HO := Lib.hid hso
  have HW := Lib.hid hw
  have o1 : ((a + 1 : Nat) : Int) - (a : Int) = 1 := by omega
  have o2 : (((a + 1 : Nat) : Int) - (a : Int) == 1) = true := by rw [o1]; rfl
  clear h hC hv hst hw hso
  go_enter Try.func50, Try.ntmps50
  go_wp2
  go_loopw [10, 11] (fun i' j' wr => ∃ i j : Nat, i' = .int .i64 i ∧ j' = .int .i64 j ∧ a + 1 ≤ i ∧ i ≤ j ∧ j ≤ b ∧ Hid (∀ h, a + 1 ≤ h → h < i → bt key (d h) (d a)) ∧ Hid (∀ h, j ≤ h → h < b → bt key (d a) (d h)) ∧ Hid (RowOf B g n cap d wr) ∧ Hid (Below B w0 wr)) (fun i j _ => (intOf j).toNat - (intOf i).toNat)
  case atStart => exact ⟨a + 1, b, rfl, rfl, by omega, by omega, by omega, Lib.hid (fun h h1 h2 => by omega), Lib.hid (fun h h1 h2 => by omega), HH, HW⟩
  case round =>
    obtain ⟨i, j, rfl, rfl, hi, hij, hj, hl, hr, hrow, hbl⟩ := hrel
    by_cases hlt : i < j
    · obtain ⟨h, hq, h1, h2⟩ : ∃ h : Nat, ((i : Int) + (j : Int)) / 2 = (h : Int) ∧ i ≤ h ∧ h < j := ⟨(i + j) / 2, by omega, by omega, by omega⟩
      have i1 : (h : Int) < (n : Int) := by omega
      have i2 : (a : Int) < (n : Int) := by omega
      have cA := own_cell hrow.out h (by omega)
      have cB := own_cell hrow.out a (by omega)
      have hc := cmps_at HC.out HV.out (i := h) (j := a) (by omega) (by omega) hbl.out
      obtain ⟨tl1, tl2⟩ := st_tell HS.out (l := a) (r := h) (by omega) (by omega) (by omega)
      have hcn := cf_neg key (d h) (d a)
      obtain ⟨c, hce⟩ : ∃ c, cfOf key (d h) (d a) = c := ⟨_, rfl⟩
      rw [hce] at hc hcn
      have HCC := Lib.hid hc
      by_cases hneg : c < 0
      · have hd : decide (c < 0) = true := decide_eq_true hneg
        have HL : Hid (∀ k, a + 1 ≤ k → k < h + 1 → bt key (d k) (d a)) := Lib.hid fun k k1 k2 => by
          rcases (by omega : k = h ∨ k < h) with e | e
          · rw [e]; exact tl1 (hcn.1 hneg)
          · exact bt_trans (HO.out k h k1 e (by omega)) (tl1 (hcn.1 hneg))
        clear hneg hcn hc hce tl1 tl2
        go_upto_region 5 with fail
        go_quiet (first | (go_at_call 36; refine Calls.quiet_of (HCC.out _)))
        go_wp2
        go_roundw
        case rel => exact ⟨h + 1, j, by go_num, rfl, by omega, by omega, hj, HL, hr, hrow, Lib.hid (drawn_so hbl.out nq)⟩
        case measure => simp [intOf]; omega
      · have hd : decide (c < 0) = false := decide_eq_false hneg
        have HR : Hid (∀ k, h ≤ k → k < b → bt key (d a) (d k)) := Lib.hid fun k k1 k2 => by
          have h3 := tl2 (fun e => hneg (hcn.2 e))
          rcases (by omega : k = h ∨ h < k) with e | e
          · rw [e]; exact h3
          · exact bt_trans h3 (HO.out h k (by omega) e (by omega))
        clear hneg hcn hc hce tl1 tl2
        go_upto_region 5 with fail
        go_quiet (first | (go_at_call 36; refine Calls.quiet_of (HCC.out _)))
        go_wp2
        go_roundw
        case rel => exact ⟨i, h, rfl, by first | rfl | (rw [hq]), by omega, by omega, by omega, hl, HR, hrow, Lib.hid (drawn_so hbl.out nq)⟩
        case measure => simp [intOf]; omega
    · obtain rfl : i = j := by omega
      have HSO : Hid (So key (rot d a (a + 1) i) a b) := Lib.hid (merge_first HO.out hi hj hl.out hr.out)
      go_wp2
      go_loopw [13] (fun k' wr2 => ∃ k : Nat, k' = .int .i64 k ∧ a ≤ k ∧ k + 1 ≤ i ∧ Hid (RowOf B g n cap (rot d a (a + 1) (k + 1)) wr2) ∧ Hid (Below B w0 wr2)) (fun k _ => i - (intOf k).toNat)
      case atStart => exact ⟨a, rfl, by omega, hi, Lib.hid (by rw [rot_same d (by omega) (by omega) (by omega)]; exact hrow.out), hbl⟩
      case round =>
        clear hrow hbl
        obtain ⟨k, rfl, hk1, hk2, hrow, hbl⟩ := hrel
        have q1 : IntKind.i64.wrap ((i : Int) - 1) = (i : Int) - 1 := by rw [IntKind.wrap_i64]; omega
        by_cases hkt : k + 1 < i
        · have g1 : (k : Int) < (i : Int) - 1 := by omega
          have i1 : (k : Int) < (n : Int) := by omega
          have i2 : (k : Int) + 1 < (n : Int) := by omega
          have i3 : (0 : Int) ≤ (k : Int) + 1 := by omega
          have i4 : ((k : Int) + 1).toNat = k + 1 := by omega
          have q2 : IntKind.i64.wrap ((k : Int) + 1) = (k : Int) + 1 := by rw [IntKind.wrap_i64]; omega
          have cA := own_cell hrow.out k (by omega)
          have cB := own_cell hrow.out (k + 1) (by omega)
          have fA := hrow.out.frozenAt k
          have fB := hrow.out.frozenAt (k + 1)
          have HRS := Lib.hid (row_swp hrow.out k (k + 1) (by omega))
          obtain ⟨cB2, fB2⟩ := row_half hrow.out k (k + 1) (by omega) (by omega)
          go_wp2_with fail
          go_big_region
          go_wp2
          go_roundw
          case rel =>
            refine ⟨k + 1, by go_num, by omega, by omega, ?_, Lib.hid (((hbl.out.setCell (p := ⟨g, k, none⟩) (hrow.out.lt g rfl).1 _).setCell (p := ⟨g, k + 1, none⟩) (hrow.out.lt g rfl).1 _).drew)⟩
            have h1 := HRS.out
            rw [rot_next d hk1] at h1
            exact Lib.hid h1
          case measure => simp [intOf]; omega
        · obtain rfl : i = k + 1 := by omega
          have g1 : ¬ (k : Int) < ((k + 1 : Nat) : Int) - 1 := by omega
          go_wp2
          refine bodyPost_ret (results_none rfl _ _ _) rfl ?_
          exact ⟨rfl, _, HSO.out, (sub_rot d (by omega) (by omega)).wide (by omega) (by omega), hrow.out, hbl.out⟩

set_option maxRecDepth 100000 in
set_option maxHeartbeats 4000000 in
theorem merge_end (key : Int → Int) (B g n cap a m : Nat) (p : Addr) (d : Nat → Int) (w0 w : World) (h : RowOf B g n cap d w) (hw : Below B w0 w) (hn : n ≤ 2305843009213693952) (ha : a + 2 ≤ m) (hb : m + 1 ≤ n) (hv : Vals d n) (hso : So key d a m) (hst : St key d a (m + 1)) (hC : Cmps key B w0 n p) :
    Calls Try.prog 50 #[.slice (some ⟨g, 0, none⟩) n cap, .int .i64 a, .int .i64 m, .int .i64 ((m + 1 : Nat) : Int), .func (.func 36) #[] #[.pointer (some p)]] w fun e w' => e = .returned (.tuple #[]) ∧ ∃ f, So key f a (m + 1) ∧ Sub d f a (m + 1) ∧ RowOf B g n cap f w' ∧ Below B w0 w' := by
  have HH := Lib.hid h
  have HC := Lib.hid hC
  have HV := Lib.hid hv
  have HS := Lib.hid hst
  have HO := Lib.hid hso
  have HW := Lib.hid hw
  have o1 : ((m : Int) - (a : Int) == 1) = false := by rw [beq_eq_false_iff_ne]; omega
  have o2 : ((m : Int) + 1 - (m : Int) == 1) = true := by rw [show (m : Int) + 1 - (m : Int) = 1 by omega]; rfl
  clear h hC hv hst hw hso
  go_enter Try.func50, Try.ntmps50
  go_wp2
  go_loopw [14, 15] (fun i' j' wr => ∃ i j : Nat, i' = .int .i64 i ∧ j' = .int .i64 j ∧ a ≤ i ∧ i ≤ j ∧ j ≤ m ∧ Hid (∀ h, a ≤ h → h < i → bt key (d h) (d m)) ∧ Hid (∀ h, j ≤ h → h < m → bt key (d m) (d h)) ∧ Hid (RowOf B g n cap d wr) ∧ Hid (Below B w0 wr)) (fun i j _ => (intOf j).toNat - (intOf i).toNat)
  case atStart => exact ⟨a, m, rfl, rfl, by omega, by omega, by omega, Lib.hid (fun h h1 h2 => by omega), Lib.hid (fun h h1 h2 => by omega), HH, HW⟩
  case round =>
    obtain ⟨i, j, rfl, rfl, hi, hij, hj, hl, hr, hrow, hbl⟩ := hrel
    by_cases hlt : i < j
    · obtain ⟨h, hq, h1, h2⟩ : ∃ h : Nat, ((i : Int) + (j : Int)) / 2 = (h : Int) ∧ i ≤ h ∧ h < j := ⟨(i + j) / 2, by omega, by omega, by omega⟩
      have i1 : (h : Int) < (n : Int) := by omega
      have i2 : (m : Int) < (n : Int) := by omega
      have cA := own_cell hrow.out h (by omega)
      have cB := own_cell hrow.out m (by omega)
      have hc := cmps_at HC.out HV.out (i := m) (j := h) (by omega) (by omega) hbl.out
      obtain ⟨tl1, tl2⟩ := st_tell HS.out (l := h) (r := m) (by omega) (by omega) (by omega)
      have hcn := cf_neg key (d m) (d h)
      obtain ⟨c, hce⟩ : ∃ c, cfOf key (d m) (d h) = c := ⟨_, rfl⟩
      rw [hce] at hc hcn
      have HCC := Lib.hid hc
      by_cases hneg : c < 0
      · have hd : decide (c < 0) = true := decide_eq_true hneg
        have HR : Hid (∀ k, h ≤ k → k < m → bt key (d m) (d k)) := Lib.hid fun k k1 k2 => by
          have h3 := tl1 (hcn.1 hneg)
          rcases (by omega : k = h ∨ h < k) with e | e
          · rw [e]; exact h3
          · exact bt_trans h3 (HO.out h k (by omega) e (by omega))
        clear hneg hcn hc hce tl1 tl2
        go_upto_region 17 with fail
        go_quiet (first | (go_at_call 36; refine Calls.quiet_of (HCC.out _)))
        go_wp2
        go_roundw
        case rel => exact ⟨i, h, rfl, by first | rfl | (rw [hq]), by omega, by omega, by omega, hl, HR, hrow, Lib.hid (drawn_so hbl.out nq)⟩
        case measure => simp [intOf]; omega
      · have hd : decide (c < 0) = false := decide_eq_false hneg
        have HL : Hid (∀ k, a ≤ k → k < h + 1 → bt key (d k) (d m)) := Lib.hid fun k k1 k2 => by
          have h3 := tl2 (fun e => hneg (hcn.2 e))
          rcases (by omega : k = h ∨ k < h) with e | e
          · rw [e]; exact h3
          · exact bt_trans (HO.out k h k1 e (by omega)) h3
        clear hneg hcn hc hce tl1 tl2
        go_upto_region 17 with fail
        go_quiet (first | (go_at_call 36; refine Calls.quiet_of (HCC.out _)))
        go_wp2
        go_roundw
        case rel => exact ⟨h + 1, j, by go_num, rfl, by omega, by omega, hj, HL, hr, hrow, Lib.hid (drawn_so hbl.out nq)⟩
        case measure => simp [intOf]; omega
    · obtain rfl : i = j := by omega
      have HSO : Hid (So key (rot d i m (m + 1)) a (m + 1)) := Lib.hid (merge_last HO.out hi hj hl.out hr.out)
      go_wp2
      go_loopw [17] (fun k' wr2 => ∃ k : Nat, k' = .int .i64 k ∧ i ≤ k ∧ k ≤ m ∧ Hid (RowOf B g n cap (rot d k m (m + 1)) wr2) ∧ Hid (Below B w0 wr2)) (fun k _ => (intOf k).toNat)
      case atStart => exact ⟨m, rfl, by omega, by omega, Lib.hid (by rw [rot_same d (by omega) (by omega) (by omega)]; exact hrow.out), hbl⟩
      case round =>
        clear hrow hbl
        obtain ⟨k, rfl, hk1, hk2, hrow, hbl⟩ := hrel
        by_cases hkt : i < k
        · obtain ⟨x, rfl⟩ : ∃ x, k = x + 1 := ⟨k - 1, by omega⟩
          have g1 : (i : Int) < (x : Int) + 1 := by omega
          have i1 : (x : Int) < (n : Int) := by omega
          have i2 : (x : Int) + 1 < (n : Int) := by omega
          have i3 : (0 : Int) ≤ (x : Int) + 1 := by omega
          have i4 : ((x : Int) + 1).toNat = x + 1 := by omega
          have q2 : IntKind.i64.wrap (x : Int) = (x : Int) := by rw [IntKind.wrap_i64]; omega
          have cA := own_cell hrow.out x (by omega)
          have cB := own_cell hrow.out (x + 1) (by omega)
          have fA := hrow.out.frozenAt x
          have fB := hrow.out.frozenAt (x + 1)
          have HRS := Lib.hid (row_swp hrow.out (x + 1) x (by omega))
          obtain ⟨cB2, fB2⟩ := row_half hrow.out (x + 1) x (by omega) (by omega)
          go_wp2_with fail
          go_big_region
          go_wp2
          go_roundw
          case rel =>
            refine ⟨x, rfl, by omega, by omega, ?_, Lib.hid (((hbl.out.setCell (p := ⟨g, x + 1, none⟩) (hrow.out.lt g rfl).1 _).setCell (p := ⟨g, x, none⟩) (hrow.out.lt g rfl).1 _).drew)⟩
            have h1 := HRS.out
            rw [rot_prev d hk2] at h1
            exact Lib.hid h1
          case measure => simp [intOf]
        · obtain rfl : i = k := by omega
          go_wp2
          refine bodyPost_ret (results_none rfl _ _ _) rfl ?_
          exact ⟨rfl, _, HSO.out, (sub_rot d (by omega) (by omega)).wide (by omega) (by omega), hrow.out, hbl.out⟩
end Go.Proofs.Ytmdonhkdkapjpaa
