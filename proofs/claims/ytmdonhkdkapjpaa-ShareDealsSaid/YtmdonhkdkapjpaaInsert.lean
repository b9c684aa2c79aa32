/- The library's insertion, over a row of the call's own that holds places, by a function that compares keys. -/
import Derived.Test.YtmdonhkdkapjpaaRange
import Derived.Lib.Small
namespace Go.Proofs.Ytmdonhkdkapjpaa
open Go.RowKit

/-- All values are places from 0 to n - 1. -/
def Vals (d : Nat → Int) (n : Nat) : Prop := ∀ k, k < n → 0 ≤ d k ∧ d k < n
theorem Vals.sub {d e : Nat → Int} {n a b : Nat} (h : Vals d n) (hs : Sub d e a b) (hb : b ≤ n) : Vals e n := by
  intro k hk
  by_cases h1 : a ≤ k ∧ k < b
  · obtain ⟨j, _, hj, e1⟩ := hs.inn k h1.1 h1.2
    rw [e1]; exact h j (by omega)
  · rw [hs.out k (by omega)]; exact h k hk
/-- What the function that compares tells of two places: below 0 just if the first has the greater key. -/
def cfOf (key : Int → Int) (x y : Int) : Int := Lib.compareInt (key y) (key x)
theorem cf_neg (key : Int → Int) (x y : Int) : cfOf key x y < 0 ↔ key y < key x := by
  unfold cfOf Lib.compareInt
  split
  · omega
  · split <;> omega
/-- The function that compares, in each world that is as the first one was below block B. -/
def Cmps (key : Int → Int) (B : Nat) (w0 : World) (n : Nat) (p : Addr) : Prop :=
  ∀ x y : Int, 0 ≤ x → x < n → 0 ≤ y → y < n → ∀ w, Below B w0 w → Calls Try.prog 36 #[.int .i64 x, .int .i64 y, .pointer (some p)] w fun e w' => e = .returned (.int .i64 (cfOf key x y)) ∧ ∃ q, w' = w.drewN q
theorem drawn_so {B : Nat} {w0 w : World} (h : Below B w0 w) (q : Nat) : Below B w0 (w.drewN q) := ⟨h.os, h.tape, h.output, h.size, h.block⟩
theorem cmps_at {key : Int → Int} {B n : Nat} {w0 : World} {p : Addr} (h : Cmps key B w0 n p) {d : Nat → Int} (hv : Vals d n) {i j : Nat} (hi : i < n) (hj : j < n) {w : World} (hb : Below B w0 w) :
    ∀ m, Calls Try.prog 36 #[.int .i64 (d i), .int .i64 (d j), .pointer (some p)] (w.drewN m) fun e w' => e = .returned (.int .i64 (cfOf key (d i) (d j))) ∧ ∃ q, w' = (w.drewN m).drewN q :=
  fun m => h (d i) (d j) (hv i hi).1 (hv i hi).2 (hv j hj).1 (hv j hj).2 _ (drawn_so hb m)

set_option maxHeartbeats 4000000 in
theorem insert_any (key : Int → Int) (B g n cap a b : Nat) (p : Addr) (d : Nat → Int) (w0 w : World) (h : RowOf B g n cap d w) (hw : Below B w0 w) (hn : n ≤ 4611686018427387904) (ha : a ≤ b) (hb : b ≤ n) (hv : Vals d n) (hst : St key d a b) (hC : Cmps key B w0 n p) :
    Calls Try.prog 49 #[.slice (some ⟨g, 0, none⟩) n cap, .int .i64 a, .int .i64 b, .func (.func 36) #[] #[.pointer (some p)]] w fun e w' => e = .returned (.tuple #[]) ∧ ∃ f, So key f a b ∧ Sub d f a b ∧ RowOf B g n cap f w' ∧ Below B w0 w' := by
  have HH := Lib.hid h
  have HC := Lib.hid hC
  have HV := Lib.hid hv
  have HS := Lib.hid hst
  have HW := Lib.hid hw
  clear h hC hv hst hw
  go_enter Try.func49, Try.ntmps49
  go_wp2
  go_loopw [8] (fun i wr => ∃ (k : Nat) (f : Nat → Int), i = .int .i64 k ∧ a < k ∧ k ≤ b + 1 ∧ Hid (a < b → k ≤ b) ∧ Hid (So key f a k) ∧ Hid (St key f a b) ∧ Hid (Sub d f a b) ∧ Hid (RowOf B g n cap f wr) ∧ Hid (Below B w0 wr)) (fun i _ => b + 1 - (intOf i).toNat)
  case atStart => exact ⟨a + 1, d, by go_num, by omega, by omega, Lib.hid (by omega), Lib.hid (fun p q h1 h2 h3 => by omega), HS, Lib.hid (Sub.refl _ _ _), HH, HW⟩
  case round =>
    obtain ⟨k, f, rfl, hk1, hk2, hk3, hso, hst, hsub, hr, hbl⟩ := hrel
    by_cases hlt : k < b
    · go_wp2
      go_loopw [9] (fun j' wr2 => ∃ (j : Nat) (f2 : Nat → Int), j' = .int .i64 j ∧ a ≤ j ∧ j ≤ k ∧ Hid (Ins key f2 a k j) ∧ Hid (St key f2 a b) ∧ Hid (Sub d f2 a b) ∧ Hid (RowOf B g n cap f2 wr2) ∧ Hid (Below B w0 wr2)) (fun j _ => (intOf j).toNat)
      case atStart => exact ⟨k, f, rfl, by omega, by omega, Lib.hid (ins_start hso.out), hst, hsub, hr, hbl⟩
      case round =>
        clear hso hst hsub hr hbl
        obtain ⟨j, f2, rfl, hj1, hj2, hins, hst, hsub, hr, hbl⟩ := hrel
        by_cases hja : a < j
        · obtain ⟨i, rfl⟩ : ∃ i, j = i + 1 := ⟨j - 1, by omega⟩
          have g1 : decide ((a : Int) < (i : Int) + 1) = true := decide_eq_true (by omega)
          have i1 : (i : Int) + 1 < (n : Int) := by omega
          have i2 : (i : Int) < (n : Int) := by omega
          have i3 : (0 : Int) ≤ (i : Int) + 1 := by omega
          have i4 : ((i : Int) + 1).toNat = i + 1 := by omega
          have i5 : IntKind.i64.wrap (i : Int) = (i : Int) := by rw [IntKind.wrap_i64]; omega
          have cA := own_cell hr.out (i + 1) (by omega)
          have cB := own_cell hr.out i (by omega)
          have fA := hr.out.frozenAt (i + 1)
          have fB := hr.out.frozenAt i
          have hc := cmps_at HC.out (HV.out.sub hsub.out hb) (i := i + 1) (j := i) (by omega) (by omega) hbl.out
          obtain ⟨c, hce⟩ : ∃ c, cfOf key (f2 (i + 1)) (f2 i) = c := ⟨_, rfl⟩
          have hcn := cf_neg key (f2 (i + 1)) (f2 i)
          rw [hce] at hc hcn
          by_cases hneg : c < 0
          · have hd : decide (c < 0) = true := decide_eq_true hneg
            have hkey : Hid (key (f2 i) < key (f2 (i + 1))) := Lib.hid (hcn.1 hneg)
            have HCC := Lib.hid hc
            clear hneg hcn hc hce
            go_wp2_with fail
            go_quiet (first | (go_at_call 36; refine Calls.quiet_of (HCC.out _)))
            go_wp2_with fail
            have HV2 : Hid (RowOf B g n cap f2 (wr.drewN nq)) := hr.out
            have HB2 : Hid (Below B w0 (wr.drewN nq)) := drawn_so hbl.out nq
            clear cA cB fA fB HCC
            generalize wr.drewN nq = V at HV2 HB2 ⊢
            have cA := own_cell HV2.out (i + 1) (by omega)
            have cB := own_cell HV2.out i (by omega)
            have fA := HV2.out.frozenAt (i + 1)
            have fB := HV2.out.frozenAt i
            have HRS := Lib.hid (row_swp HV2.out (i + 1) i (by omega))
            obtain ⟨cB2, fB2⟩ := row_half HV2.out (i + 1) i (by omega) (by omega)
            go_big_region
            go_wp2
            go_roundw
            case rel => exact ⟨i, _, rfl, by omega, by omega, Lib.hid (ins_go hins.out (by omega) hj2 hkey.out), Lib.hid (st_swp hst.out (by omega) (by omega) hkey.out), Lib.hid (hsub.out.trans (sub_swp f2 (by omega) (by omega) (by omega) (by omega))), HRS, Lib.hid (((HB2.out.setCell (p := ⟨g, i + 1, none⟩) (HV2.out.lt g rfl).1 _).setCell (p := ⟨g, i, none⟩) (HV2.out.lt g rfl).1 _).drew)⟩
            case measure => simp [intOf]
          · have hd : decide (c < 0) = false := decide_eq_false hneg
            have hkey : Hid (¬ key (f2 i) < key (f2 (i + 1))) := Lib.hid (fun h => hneg (hcn.2 h))
            have HCC := Lib.hid hc
            have HSO : Hid (So key f2 a (k + 1)) := Lib.hid (ins_stop hins.out hst.out (by omega) hj2 hlt (Or.inr hkey.out))
            clear hneg hcn hc hce
            go_wp2_with fail
            go_quiet (first | (go_at_call 36; refine Calls.quiet_of (HCC.out _)))
            go_wp2
            go_roundw
            case rel => exact ⟨k + 1, f2, by go_num, by omega, by omega, Lib.hid (by omega), HSO, hst, hsub, hr, Lib.hid (drawn_so hbl.out nq)⟩
            case measure => simp [intOf]; omega
        · have hje : j = a := by omega
          have g1 : decide ((a : Int) < (j : Int)) = false := decide_eq_false (by omega)
          have g2 : decide (a < j) = false := decide_eq_false (by omega)
          have HSO : Hid (So key f2 a (k + 1)) := Lib.hid (ins_stop hins.out hst.out (by omega) hj2 hlt (Or.inl hje))
          clear hje hja
          go_wp2_with fail
          go_quiet (fail)
          go_wp2
          go_roundw
          case rel => exact ⟨k + 1, f2, by go_num, by omega, by omega, Lib.hid (by omega), HSO, hst, hsub, hr, Lib.hid (drawn_so hbl.out nq)⟩
          case measure => simp [intOf]; omega
    · go_wp2
      go_end0
      refine ⟨rfl, f, ?_, hsub.out, hr.out, hbl.out⟩
      have := hk3.out
      rcases (by omega : a = b ∨ k = b) with e | e
      · intro p q h1 h2 h3; omega
      · rw [← e]; exact hso.out
end Go.Proofs.Ytmdonhkdkapjpaa
