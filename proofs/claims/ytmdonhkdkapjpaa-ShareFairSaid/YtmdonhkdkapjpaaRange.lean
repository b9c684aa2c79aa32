/- The library's swapping of ranges and turning about, over a row of the call's own. -/
import Derived.Test.YtmdonhkdkapjpaaSorts
import Derived.Test.YtmdonhkdkapjpaaGrow
import Derived.Deep.DeepCutAuto
import Derived.BigRegion
import Derived.BigQuiet
import Derived.Deep.QuietTactic
namespace Go.Proofs.Ytmdonhkdkapjpaa
open Go.RowKit

/-- A row of numbers of the call's own, at block g. -/
abbrev RowOf (B g n cap : Nat) (d : Nat → Int) (w : World) : Prop := w.ownsRow B 3 1 (.slice (some ⟨g, 0, none⟩) n cap) n (intCells ((List.range n).map d))
theorem row_swp {B g n cap : Nat} {d : Nat → Int} {w : World} (h : RowOf B g n cap d w) (i j : Nat) (hij : i ≠ j) : RowOf B g n cap (swp d i j) ((w.setCell ⟨g, i, none⟩ (.int .i64 (d j))).setCell ⟨g, j, none⟩ (.int .i64 (d i))) := by
  have h1 := own_stored h i (f' := upd d i (d j)) (fun k _ hk => (upd_off d i (d j) k hk).symm)
  rw [upd_at] at h1
  have h2 := own_stored h1 j (f' := upd (upd d i (d j)) j (d i)) (fun k _ hk => (upd_off _ j (d i) k hk).symm)
  rw [upd_at, swp_two d i j hij] at h2
  exact h2

/-- The cell at the other place, behind the first store. -/
theorem row_half {B g n cap : Nat} {d : Nat → Int} {w : World} (h : RowOf B g n cap d w) (i j : Nat) (hj : j < n) (hij : i ≠ j) : (w.setCell ⟨g, i, none⟩ (.int .i64 (d j))).drew.cell? ⟨g, j, none⟩ = some (.int .i64 (d j)) ∧ (w.setCell ⟨g, i, none⟩ (.int .i64 (d j))).drew.frozen? ⟨g, j, none⟩ = false := by
  have h1 := own_stored h i (f' := upd d i (d j)) (fun k _ hk => (upd_off d i (d j) k hk).symm)
  rw [upd_at] at h1
  have h2 := own_cell h1 j hj
  rw [upd_off _ _ _ _ (fun e => hij e.symm)] at h2
  exact ⟨h2, h1.frozenAt j⟩

set_option maxHeartbeats 1000000 in
theorem swap_any (B g n cap a b m : Nat) (cv : Value) (d : Nat → Int) (w : World) (h : RowOf B g n cap d w) (hn : n ≤ 4611686018427387904) (ha : a + m ≤ n) (hb : b + m ≤ n) (hd : a + m ≤ b ∨ b + m ≤ a) :
    Calls Try.prog 53 #[.slice (some ⟨g, 0, none⟩) n cap, .int .i64 a, .int .i64 b, .int .i64 m, cv] w fun e w' => e = .returned (.tuple #[]) ∧ RowOf B g n cap (swr d a b m) w' ∧ Below B w w' := by
  have HH := Lib.hid h
  have HD := Lib.hid hd
  clear h hd
  go_enter Try.func53, Try.ntmps53
  go_wp2

  go_loopw [10] (fun i wr => ∃ k : Nat, i = .int .i64 k ∧ k ≤ m ∧ Hid (RowOf B g n cap (swr d a b k) wr) ∧ Hid (Below B w wr)) (fun i _ => m - (intOf i).toNat)
  case atStart => exact ⟨0, rfl, by omega, by rw [swr_none]; exact HH, Lib.hid (Below.refl _ _)⟩
  case round =>
    obtain ⟨k, rfl, hk, hr, hbl⟩ := hrel
    by_cases hlt : k < m
    · have cA := own_cell hr.out (a + k) (by omega)
      have cB := own_cell hr.out (b + k) (by omega)
      have fA := hr.out.frozenAt (a + k)
      have fB := hr.out.frozenAt (b + k)
      have hrs := row_swp hr.out (a + k) (b + k) (by have := HD.out; omega)
      have HRS := Lib.hid hrs
      obtain ⟨cB2, fB2⟩ := row_half hr.out (a + k) (b + k) (by omega) (by have := HD.out; omega)
      have i1 : (a : Int) + (k : Int) < (n : Int) := by omega
      have i2 : (b : Int) + (k : Int) < (n : Int) := by omega
      have i3 : (0 : Int) ≤ (a : Int) + (k : Int) := by omega
      have i4 : (0 : Int) ≤ (b : Int) + (k : Int) := by omega
      have i5 : ((a : Int) + (k : Int)).toNat = a + k := by omega
      have i6 : ((b : Int) + (k : Int)).toNat = b + k := by omega
      have i7 : IntKind.i64.wrap ((a : Int) + (k : Int)) = (a : Int) + (k : Int) := by rw [IntKind.wrap_i64]; omega
      have i8 : IntKind.i64.wrap ((b : Int) + (k : Int)) = (b : Int) + (k : Int) := by rw [IntKind.wrap_i64]; omega
      clear hrs
      go_wp2_with fail
      go_big_region
      go_wp2
      go_roundw
      case rel =>
        refine ⟨k + 1, by go_num, by omega, ?_, Lib.hid (((hbl.out.setCell (p := ⟨g, a + k, none⟩) (hr.out.lt g rfl).1 _).setCell (p := ⟨g, b + k, none⟩) (hr.out.lt g rfl).1 _).drew)⟩
        have h1 := HRS.out
        rw [swr_more d HD.out hlt] at h1
        exact Lib.hid h1
      case measure => simp [intOf]; omega
    · obtain rfl : k = m := by omega
      go_wp2
      go_end0
      exact ⟨rfl, hr.out, hbl.out⟩

set_option maxHeartbeats 1000000 in
theorem turn_any (B g n cap a m b : Nat) (cv : Value) (d : Nat → Int) (w : World) (h : RowOf B g n cap d w) (hn : n ≤ 4611686018427387904) (ha : a < m) (hm : m < b) (hb : b ≤ n) :
    Calls Try.prog 52 #[.slice (some ⟨g, 0, none⟩) n cap, .int .i64 a, .int .i64 m, .int .i64 b, cv] w fun e w' => e = .returned (.tuple #[]) ∧ RowOf B g n cap (rot d a m b) w' ∧ Below B w w' := by
  have HS : Hid (∀ (p q s : Nat) (P Q S : Int) (f : Nat → Int) (v : World), RowOf B g n cap f v → P = p → Q = q → S = s → p + s ≤ n → q + s ≤ n → p + s ≤ q ∨ q + s ≤ p → Calls Try.prog 53 #[.slice (some ⟨g, 0, none⟩) n cap, .int .i64 P, .int .i64 Q, .int .i64 S, cv] v fun e w' => e = .returned (.tuple #[]) ∧ RowOf B g n cap (swr f p q s) w' ∧ Below B v w') :=
    Lib.hid fun p q s P Q S f v hv e1 e2 e3 h1 h2 h3 => by subst e1; subst e2; subst e3; exact swap_any B g n cap p q s cv f v hv hn h1 h2 h3
  have HH := Lib.hid h
  clear h
  go_enter Try.func52, Try.ntmps52
  go_wp2
  go_loopw [10, 11] (fun i j wr => ∃ (ii jj : Nat) (f : Nat → Int), 0 < ii ∧ 0 < jj ∧ a + ii ≤ m ∧ m + jj ≤ b ∧ i = .int .i64 ii ∧ j = .int .i64 jj ∧ Hid (rot f (m - ii) m (m + jj) = rot d a m b) ∧ Hid (RowOf B g n cap f wr) ∧ Hid (Below B w wr)) (fun i j _ => (intOf i).toNat + (intOf j).toNat)
  case atStart => exact ⟨m - a, b - m, d, by omega, by omega, by omega, by omega, congrArg (Value.int .i64) (by omega), congrArg (Value.int .i64) (by omega), Lib.hid (by rw [show m - (m - a) = a by omega, show m + (b - m) = b by omega]), HH, Lib.hid (Below.refl _ _)⟩
  case round =>
    obtain ⟨ii, jj, f, hi0, hj0, hi, hj, rfl, rfl, hrot, hr, hbl⟩ := hrel
    by_cases hne : ii = jj
    · have e1 : ((ii : Int) != (jj : Int)) = false := by rw [hne]; simp
      have hc := HS.out (m - ii) m ii ((m : Int) - (ii : Int)) m ii f wr hr.out (by omega) rfl rfl (by omega) (by omega) (by omega)
      have HR : Hid (swr f (m - ii) m ii = rot d a m b) := Lib.hid (by
        have := rot_even f (a := m - ii) (m := m) (b := m + jj) (by omega) (by omega) (by omega)
        rw [hrot.out, show m - (m - ii) = ii by omega] at this
        exact this)
      have HC := Lib.hid hc
      clear hne hc
      go_wp2_with (go_at_call 53; refine HC.out.mono ?_; rintro e w1 ⟨rfl, hr1, hb1⟩)
      go_end0
      exact ⟨rfl, by rw [← HR.out]; exact hr1, hbl.out.trans hb1⟩
    · have e1 : ((ii : Int) != (jj : Int)) = true := by rw [bne_iff_ne]; omega
      by_cases hgt : jj < ii
      · have e2 : decide ((jj : Int) < (ii : Int)) = true := decide_eq_true (by omega)
        have hc := HS.out (m - ii) m jj ((m : Int) - (ii : Int)) m jj f wr hr.out (by omega) rfl rfl (by omega) (by omega) (by omega)
        have HR : Hid (rot (swr f (m - ii) m jj) (m - (ii - jj)) m (m + jj) = rot d a m b) := Lib.hid (by
          have := rot_left f (a := m - ii) (m := m) (b := m + jj) (by omega) (by omega) (by omega)
          rw [hrot.out, show m + jj - m = jj by omega, show m - ii + jj = m - (ii - jj) by omega] at this
          exact this)
        have HC := Lib.hid hc
        clear hne hc
        go_wp2_with (go_at_call 53; refine HC.out.mono ?_; rintro e w1 ⟨rfl, hr1, hb1⟩)
        go_roundw
        case rel => exact ⟨ii - jj, jj, _, by omega, hj0, by omega, hj, by first | (congr 1; omega) | (go_num; omega), rfl, HR, Lib.hid hr1, Lib.hid (hbl.out.trans hb1)⟩
        case measure => simp [intOf]; omega
      · have e2 : decide ((jj : Int) < (ii : Int)) = false := decide_eq_false (by omega)
        have hc := HS.out (m - ii) (m + jj - ii) ii ((m : Int) - (ii : Int)) ((m : Int) + (jj : Int) - (ii : Int)) ii f wr hr.out (by omega) (by omega) rfl (by omega) (by omega) (by omega)
        have HR : Hid (rot (swr f (m - ii) (m + jj - ii) ii) (m - ii) m (m + (jj - ii)) = rot d a m b) := Lib.hid (by
          have := rot_right f (a := m - ii) (m := m) (b := m + jj) (by omega) (by omega) (by omega)
          rw [hrot.out, show m - (m - ii) = ii by omega, show m + jj - ii = m + (jj - ii) by omega] at this
          rw [show m + jj - ii = m + (jj - ii) by omega]
          exact this)
        have HC := Lib.hid hc
        clear hc
        go_wp2_with (go_at_call 53; refine HC.out.mono ?_; rintro e w1 ⟨rfl, hr1, hb1⟩)
        go_roundw
        case rel => exact ⟨ii, jj - ii, _, hi0, by omega, hi, by omega, rfl, by first | (congr 1; omega) | (go_num; omega), HR, Lib.hid hr1, Lib.hid (hbl.out.trans hb1)⟩
        case measure => simp [intOf]; omega
end Go.Proofs.Ytmdonhkdkapjpaa
