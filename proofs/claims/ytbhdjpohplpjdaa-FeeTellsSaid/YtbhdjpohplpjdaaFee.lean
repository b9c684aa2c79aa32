/- The program's fees: Check, Of, Less, Grade and All, for all numbers and lists, in every world. -/
import Derived.Test.YtbhdjpohplpjdaaTella
import Derived.Test.YtbhdjpohplpjdaaCents
namespace Go.Proofs.Ytbhdjpohplpjdaa
open Go.RowKit

def basisB (n : Int) : Bool := decide (0 ≤ n ∧ n ≤ 10000)
theorem basis_iff (n : Int) : basisB n = true ↔ 0 ≤ n ∧ n ≤ 10000 := by unfold basisB; exact decide_eq_true_iff
theorem basis_no {n : Int} (h : basisB n = false) : n < 0 ∨ 10000 < n := by
  unfold basisB at h; rw [decide_eq_false_iff_not] at h; omega
theorem basis_any (n : Int) (w : World) : Calls Try.prog 17 #[.int .i64 n] w fun e w' => e = .returned (.bool (basisB n)) ∧ w' = w := by
  by_cases h1 : 0 ≤ n
  · by_cases h2 : n ≤ 10000
    · have He : Hid (basisB n = true) := Lib.hid ((basis_iff n).2 ⟨h1, h2⟩)
      go_enter Try.func17, Try.ntmps17
      go_wp2
      go_ret
      exact ⟨by rw [He.out]; rfl, rfl⟩
    · have He : Hid (basisB n = false) := Lib.hid (by unfold basisB; rw [decide_eq_false_iff_not]; omega)
      have hd : decide (n ≤ 10000) = false := decide_eq_false h2
      clear h2
      go_enter Try.func17, Try.ntmps17
      go_wp2
      go_ret
      exact ⟨by rw [He.out]; rfl, rfl⟩
  · have He : Hid (basisB n = false) := Lib.hid (by unfold basisB; rw [decide_eq_false_iff_not]; omega)
    have hd : decide (0 ≤ n) = false := decide_eq_false h1
    clear h1
    go_enter Try.func17, Try.ntmps17
    go_wp2
    go_ret
    exact ⟨by rw [He.out]; rfl, rfl⟩

theorem fee_half {a b : Int} (hb : basisB b = true) : halfE a b 10000 = feeE a b ∧ halfV a b 10000 = feeV a b := by
  obtain ⟨h0, h1⟩ := (basis_iff b).1 hb
  by_cases ha : a < 0 ∨ 1000000000000 < a
  · have hm : mayE a b 10000 = 8 := by unfold mayE; rw [if_neg (by omega), if_pos (by omega)]
    obtain ⟨e1, e2⟩ := half_bad (a := a) (b := b) (c := 10000) (by rw [hm]; decide)
    obtain ⟨f1, f2, _⟩ := fee_over (a := a) (b := b) (by omega) ha
    rw [e1, e2, f1, f2, hm]; exact ⟨rfl, rfl⟩
  · have hm : mayE a b 10000 = 0 := by unfold mayE; rw [if_neg (by omega), if_neg (by omega)]
    have hN : halfN a b 10000 = feeN a b := by
      unfold halfN feeN
      rw [Int.mul_assoc]
      generalize a * b = x
      split <;> omega
    have hbd := fee_bd (a := a) (b := b) ⟨h0, h1⟩ ⟨by omega, by omega⟩
    obtain ⟨e1, e2⟩ := half_fine (a := a) (b := b) (c := 10000) hm (by rw [hN]; omega)
    obtain ⟨f1, f2, _⟩ := fee_good (a := a) (b := b) (by omega) ha
    rw [e1, e2, f1, f2, hN]; exact ⟨rfl, rfl⟩

theorem fof_any (a b : Int) (w : World) : Calls Try.prog 7 #[.int .i64 a, .int .i64 b] w fun e w' => e = .returned (.tuple #[.int .i64 (feeV a b), .int .i64 (feeE a b)]) ∧ Below w.heap.size w w' := by
  cases hb : basisB b with
  | true =>
    have He := Lib.hid (fee_half (a := a) hb)
    have HB : Hid (∀ w, Calls Try.prog 17 #[.int .i64 b] w fun e w' => e = .returned (.bool true) ∧ w = w') := Lib.hid fun w => (basis_any b w).mono fun _ _ h => ⟨by rw [h.1, hb], h.2.symm⟩
    clear hb
    go_enter Try.func7, Try.ntmps7
    go_wp2_with (first
      | (go_at_call 17; refine (HB.out _).mono ?_; rintro e w' ⟨rfl, rfl⟩)
      | (go_at_call 18; refine (chalf_any _ _ _ _).mono ?_; rintro e w1 ⟨rfl, b1⟩))
    go_ret2
    exact ⟨by rw [← He.out.1, ← He.out.2]; rfl, b1⟩
  | false =>
    have He := Lib.hid (fee_arg (a := a) (basis_no hb))
    have HB : Hid (∀ w, Calls Try.prog 17 #[.int .i64 b] w fun e w' => e = .returned (.bool false) ∧ w = w') := Lib.hid fun w => (basis_any b w).mono fun _ _ h => ⟨by rw [h.1, hb], h.2.symm⟩
    clear hb
    go_enter Try.func7, Try.ntmps7
    go_wp2_with (go_at_call 17; refine (HB.out _).mono ?_; rintro e w' ⟨rfl, rfl⟩)
    go_ret2
    exact ⟨by rw [He.out.1, He.out.2.1]; rfl, Below.refl _ _⟩

theorem fee_sub {a b : Int} (h : feeE a b = 0) : subV a (feeV a b) = lessV a b ∧ subE a (feeV a b) = 0 := by
  have hf := fee_fine h
  have hb := fee_bd ⟨hf.1, hf.2.1⟩ hf.2.2
  have h1 : feeV a b = feeN a b := by unfold feeV; rw [if_pos h]
  have h2 : lessV a b = a - feeN a b := by unfold lessV; rw [if_pos h]
  have h3 : subOk a (feeN a b) = true := by
    unfold subOk
    rw [(inB_iff a).2 (by omega), (inB_iff (feeN a b)).2 (by omega), (inB_iff (a - feeN a b)).2 (by omega)]; rfl
  rw [h1, h2]
  unfold subV subE
  rw [if_pos h3, if_pos h3]; exact ⟨rfl, rfl⟩

theorem fless_any (a b : Int) (w : World) : Calls Try.prog 9 #[.int .i64 a, .int .i64 b] w fun e w' => e = .returned (.tuple #[.int .i64 (lessV a b), .int .i64 (feeE a b)]) ∧ Below w.heap.size w w' := by
  have hb := Below.refl w.heap.size w
  by_cases h : feeE a b = 0
  · have hd : (feeE a b != 0) = false := by rw [h]; rfl
    have He := Lib.hid (fee_sub h)
    have H0 := Lib.hid h
    clear h
    go_enter Try.func9, Try.ntmps9
    go_wp2_with (first
      | (go_at_call 7; refine (fof_any _ _ _).mono ?_; rintro e w1 ⟨rfl, b1⟩; replace hb := hb.trans (b1.mono hb.size))
      | (go_at_call 19; refine (csub_any _ _ _).mono ?_; rintro e w2 ⟨rfl, b2⟩; replace hb := hb.trans (b2.mono hb.size)))
    go_ret2
    exact ⟨by rw [← He.out.1, H0.out, ← He.out.2]; rfl, hb⟩
  · have hd : (feeE a b != 0) = true := by rw [bne_iff_ne]; exact h
    have He : Hid (lessV a b = 0) := Lib.hid (by unfold lessV; rw [if_neg h])
    clear h
    go_enter Try.func9, Try.ntmps9
    go_wp2_with (go_at_call 7; refine (fof_any _ _ _).mono ?_; rintro e w1 ⟨rfl, b1⟩; replace hb := hb.trans (b1.mono hb.size))
    go_ret2
    exact ⟨by rw [He.out]; rfl, hb⟩

theorem lessi_yes {x y : Int} (h : x < y) (w : World) : Calls Try.prog 25 #[.int .i64 x, .int .i64 y] w fun e w' => e = .returned (.bool true) ∧ w' = w :=
  (Try.cmp_Less_int2 x y w).mono fun _ _ he => ⟨by rw [he.1, decide_eq_true h], he.2⟩
theorem lessi_no {x y : Int} (h : ¬ x < y) (w : World) : Calls Try.prog 25 #[.int .i64 x, .int .i64 y] w fun e w' => e = .returned (.bool false) ∧ w' = w :=
  (Try.cmp_Less_int2 x y w).mono fun _ _ he => ⟨by rw [he.1, decide_eq_false h], he.2⟩

def rise4 (l : List Int) : Bool := decide (numAt l 0 ≤ numAt l 1 ∧ numAt l 1 ≤ numAt l 2 ∧ numAt l 2 ≤ numAt l 3)
theorem rise4_yes {l : List Int} (h : ∀ j, 0 < j → j < 4 → numAt l (j - 1) ≤ numAt l j) : rise4 l = true := by
  unfold rise4; rw [decide_eq_true_iff]; exact ⟨h 1 (by omega) (by omega), h 2 (by omega) (by omega), h 3 (by omega) (by omega)⟩
theorem rise4_no {l : List Int} {k p : Nat} (hk : k < 4) (hp : k = p + 1) (h : numAt l k < numAt l p) : rise4 l = false := by
  unfold rise4; rw [decide_eq_false_iff_not]; intro h2
  subst hp
  match p, hk with
  | 0, _ => simp only [Nat.zero_add] at h; omega
  | 1, _ => simp only [Nat.reduceAdd] at h; omega
  | 2, _ => simp only [Nat.reduceAdd] at h; omega
set_option maxHeartbeats 1000000 in
theorem rises_any (b off cap : Nat) (l : List Int) (w : World) (hc : ∀ j, j < 4 → w.cell? ⟨b, off + j, none⟩ = some (.int .i64 (numAt l j))) :
    Calls Try.prog 22 #[.slice (some ⟨b, off, none⟩) 4 cap] w fun e w' => e = .returned (.bool (rise4 l)) ∧ ∃ m, w' = w.drewN m := by
  have HC := Lib.hid hc
  clear hc
  go_enter Try.func22, Try.ntmps22
  go_wp2
  go_loopw [3] (fun i wr => ∃ k m : Nat, i = .int .i64 k ∧ wr = w.drewN m ∧ k < 4 ∧ Hid (∀ j, k < j → j < 4 → numAt l (j - 1) ≤ numAt l j)) (fun i _ => (intOf i).toNat)
  case atStart => exact ⟨3, 0, rfl, rfl, by omega, Lib.hid fun j h1 h2 => absurd h1 (by omega)⟩
  case round =>
    obtain ⟨k, m, rfl, hw, hk, hs⟩ := hrel
    have HW := Lib.hid hw
    by_cases h0 : 0 < k
    · obtain ⟨p, hp⟩ : ∃ p, k = p + 1 := ⟨k - 1, by omega⟩
      have hx : wr.cell? ⟨b, off + k, none⟩ = some (.int .i64 (numAt l k)) := by rw [hw]; exact HC.out k hk
      have hy : wr.cell? ⟨b, off + p, none⟩ = some (.int .i64 (numAt l p)) := by rw [hw]; exact HC.out p (by omega)
      clear hw
      have i1 : (k : Int) < 4 := by omega
      have i2 : (0 : Int) ≤ (k : Int) := by omega
      have j1 : (p : Int) < 4 := by omega
      have j2 : (0 : Int) ≤ (p : Int) := by omega
      have hpk : p < k := by omega
      have hpf : p < 4 := by omega
      have w1 : IntKind.i64.wrap ((k : Int) - 1) = (p : Int) := by rw [IntWalk.i64_in _ (by omega)]; omega
      by_cases h1 : numAt l k < numAt l p
      · have He := Lib.hid (rise4_no hk hp h1)
        have HL := Lib.hid (lessi_yes h1)
        clear h1 hp
        go_upto_region 4 with fail
        go_quiet ((go_at_call 25; exact Calls.quiet_of_same (HL.out _)))
        go_wp2
        go_ret
        exact ⟨by rw [He.out]; rfl, m + nq, by rw [HW.out, World.drewN_drewN]⟩
      · have HL := Lib.hid (lessi_no h1)
        have Hs : Hid (∀ j, p < j → j < 4 → numAt l (j - 1) ≤ numAt l j) := Lib.hid fun j h2 h3 => by
          rcases (by omega : j = k ∨ k < j) with h4 | h4
          · rw [h4, show k - 1 = p by omega]; omega
          · exact hs.out j h4 h3
        clear h1 hp
        go_upto_region 4 with fail
        go_quiet ((go_at_call 25; exact Calls.quiet_of_same (HL.out _)))
        go_wp2
        go_roundw
        case rel => exact ⟨p, m + nq, rfl, by rw [HW.out, World.drewN_drewN], hpf, Hs⟩
        case measure => simp [intOf]; omega
    · obtain rfl : k = 0 := by omega
      have He := Lib.hid (rise4_yes hs.out)
      clear hw
      go_wp2
      go_ret
      exact ⟨by rw [He.out]; rfl, m, HW.out⟩

theorem check4_no {l : List Int} (h : ¬ (rise4 l = true ∧ basisB (numAt l 0) = true ∧ basisB (numAt l 3) = true)) : checkE l = 36 := by
  refine check_no ?_
  cases hf : feesB l with
  | false => rfl
  | true =>
    have hg := (fees_iff l).1 hf
    exact absurd ⟨rise4_yes fun j h1 h2 => (hg.2 j h2).2.2 h1, (basis_iff _).2 ⟨(hg.2 0 (by omega)).1, (hg.2 0 (by omega)).2.1⟩, (basis_iff _).2 ⟨(hg.2 3 (by omega)).1, (hg.2 3 (by omega)).2.1⟩⟩ h
theorem check4_yes {l : List Int} (h4 : l.length = 4) (h1 : rise4 l = true) (h2 : basisB (numAt l 0) = true) (h3 : basisB (numAt l 3) = true) : checkE l = 0 := by
  refine check_yes ?_
  unfold rise4 at h1
  rw [decide_eq_true_iff] at h1
  rw [basis_iff] at h2 h3
  unfold feesB
  rw [decide_eq_true_iff]
  exact ⟨h4, h2.1, h1.1, h1.2.1, h1.2.2, h3.2⟩
theorem basis_says {n : Int} {v : Bool} (h : basisB n = v) (w : World) : Calls Try.prog 17 #[.int .i64 n] w fun e w' => e = .returned (.bool v) ∧ w = w' :=
  (basis_any n w).mono fun _ _ he => ⟨by rw [he.1, h], he.2.symm⟩
theorem fcheck_len (a0 : Option Addr) (cap : Nat) (l : List Int) (w : World) (h : l.length ≠ 4) :
    Calls Try.prog 15 #[.slice a0 l.length cap] w fun e w' => e = .returned (.int .i64 (checkE l)) ∧ ∃ m, w' = w.drewN m := by
  have He := Lib.hid (fees_no (l := l) fun h2 => h h2.1)
  have hd : ((l.length : Int) != 4) = true := by rw [bne_iff_ne]; omega
  clear h
  go_enter Try.func15, Try.ntmps15
  go_wp2
  go_ret
  exact ⟨by rw [He.out]; rfl, 0, rfl⟩
set_option maxHeartbeats 1000000 in
theorem fcheck_some (b off cap : Nat) (l : List Int) (w : World) (h4 : l.length = 4) (hc : ∀ j, j < 4 → w.cell? ⟨b, off + j, none⟩ = some (.int .i64 (numAt l j))) :
    Calls Try.prog 15 #[.slice (some ⟨b, off, none⟩) 4 cap] w fun e w' => e = .returned (.int .i64 (checkE l)) ∧ ∃ m, w' = w.drewN m := by
  have HS := Lib.hid (rises_any b off cap l w hc)
  have hx := hc 0 (by omega)
  have hy := hc 3 (by omega)
  rw [Nat.add_zero] at hx
  have H4 := Lib.hid h4
  clear h4 hc
  cases h1 : rise4 l with
  | false =>
    have He := Lib.hid (check4_no (l := l) fun h => by rw [h1] at h; cases h.1)
    rw [h1] at HS
    clear h1
    go_enter Try.func15, Try.ntmps15
    go_wp2_with (go_at_call 22; refine HS.out.mono ?_; rintro e w' ⟨rfl, m, rfl⟩)
    go_ret
    exact ⟨by rw [He.out]; rfl, m, rfl⟩
  | true =>
    have H1 := Lib.hid h1
    rw [h1] at HS
    clear h1
    cases h2 : basisB (numAt l 0) with
    | false =>
      have He := Lib.hid (check4_no (l := l) fun h => by rw [h2] at h; cases h.2.1)
      have HB := Lib.hid (basis_says h2)
      clear h2
      go_enter Try.func15, Try.ntmps15
      go_wp2_with (first
        | (go_at_call 22; refine HS.out.mono ?_; rintro e w' ⟨rfl, m, rfl⟩)
        | (go_at_call 17; refine (HB.out _).mono ?_; rintro e w' ⟨rfl, rfl⟩))
      go_ret
      exact ⟨by rw [He.out]; rfl, m, rfl⟩
    | true =>
      cases h3 : basisB (numAt l 3) with
      | false =>
        have He := Lib.hid (check4_no (l := l) fun h => by rw [h3] at h; cases h.2.2)
        have HB := Lib.hid (basis_says h2)
        have HB3 := Lib.hid (basis_says h3)
        clear h2 h3
        go_enter Try.func15, Try.ntmps15
        go_wp2_with (first
          | (go_at_call 22; refine HS.out.mono ?_; rintro e w' ⟨rfl, m, rfl⟩)
          | (go_at_call 17; (with_reducible refine (HB.out _).mono ?_); rintro e w' ⟨rfl, rfl⟩)
          | (go_at_call 17; (with_reducible refine (HB3.out _).mono ?_); rintro e w' ⟨rfl, rfl⟩))
        go_ret
        exact ⟨by rw [He.out]; rfl, m, rfl⟩
      | true =>
        have He := Lib.hid (check4_yes H4.out H1.out h2 h3)
        have HB := Lib.hid (basis_says h2)
        have HB3 := Lib.hid (basis_says h3)
        clear h2 h3
        go_enter Try.func15, Try.ntmps15
        go_wp2_with (first
          | (go_at_call 22; refine HS.out.mono ?_; rintro e w' ⟨rfl, m, rfl⟩)
          | (go_at_call 17; (with_reducible refine (HB.out _).mono ?_); rintro e w' ⟨rfl, rfl⟩)
          | (go_at_call 17; (with_reducible refine (HB3.out _).mono ?_); rintro e w' ⟨rfl, rfl⟩))
        go_ret
        exact ⟨by rw [He.out]; rfl, m, rfl⟩
theorem fcheck_quiet (a0 : Option Addr) (cap : Nat) (l : List Int) (w : World) (hx : Ints w.heap.size w a0 l) :
    Calls Try.prog 15 #[.slice a0 l.length cap] w fun e w' => e = .returned (.int .i64 (checkE l)) ∧ ∃ m, w' = w.drewN m := by
  by_cases h : l.length = 4
  · rcases hx with rfl | ⟨b, off, rfl, _, hc⟩
    · cases h
    · have := fcheck_some b off cap l w h (by rw [← h]; exact hc)
      rw [h]; exact this
  · exact fcheck_len a0 cap l w h
theorem fcheck_any (a0 : Option Addr) (cap : Nat) (l : List Int) (w : World) (_ : l.length ≤ 4611686018427387904) (hx : Ints w.heap.size w a0 l) :
    Calls Try.prog 15 #[.slice a0 l.length cap] w fun e w' => e = .returned (.int .i64 (checkE l)) ∧ Below w.heap.size w w' :=
  (fcheck_quiet a0 cap l w hx).mono fun _ _ ⟨he, m, hm⟩ => ⟨he, by rw [hm]; exact drawn_below (Below.refl _ _) m⟩

theorem fgrade_any (a0 : Option Addr) (cap : Nat) (a : Int) (l : List Int) (g : Int) (w : World) (_ : l.length ≤ 4611686018427387904) (hx : Ints w.heap.size w a0 l) :
    Calls Try.prog 11 #[.int .i64 a, .slice a0 l.length cap, .int .i64 g] w fun e w' => e = .returned (.tuple #[.int .i64 (gradeV a l g), .int .i64 (gradeE a l g)]) ∧ Below w.heap.size w w' := by
  have Hc := Lib.hid (fcheck_quiet a0 cap l w hx)
  have hb := Below.refl w.heap.size w
  cases hf : feesB l with
  | false =>
    have he : gradeE a l g = 36 := by unfold gradeE; rw [if_neg (by rw [hf]; exact Bool.false_ne_true)]
    have hv : gradeV a l g = 0 := by unfold gradeV; rw [he]; rfl
    have hk := check_no hf
    rw [hk] at Hc
    rw [he, hv]
    clear hf he hv hk
    go_enter Try.func11, Try.ntmps11
    go_wp2_with (go_at_call 15; refine Hc.out.mono ?_; rintro e w' ⟨rfl, m, rfl⟩)
    go_ret2
    exact ⟨rfl, drawn_below hb _⟩
  | true =>
    have hk := check_yes hf
    rw [hk] at Hc
    have hl := (fees_are hf).1
    by_cases h1 : g < 0
    · have he : gradeE a l g = 2 := by unfold gradeE; rw [if_pos hf, if_pos (Or.inl h1)]
      have hv : gradeV a l g = 0 := by unfold gradeV; rw [he]; rfl
      have hd : decide (g < 0) = true := decide_eq_true h1
      rw [he, hv]
      clear hf he hv hk h1 hl
      go_enter Try.func11, Try.ntmps11
      go_wp2_with (go_at_call 15; refine Hc.out.mono ?_; rintro e w' ⟨rfl, m, rfl⟩)
      go_ret2
      exact ⟨rfl, drawn_below hb _⟩
    · have hd : decide (g < 0) = false := decide_eq_false h1
      by_cases h2 : 4 ≤ g
      · have he : gradeE a l g = 2 := by unfold gradeE; rw [if_pos hf, if_pos (Or.inr (by omega))]
        have hv : gradeV a l g = 0 := by unfold gradeV; rw [he]; rfl
        have hd2 : decide (4 ≤ g) = true := decide_eq_true h2
        rw [he, hv]
        clear hf he hv hk h1 h2 hl
        go_enter Try.func11, Try.ntmps11
        go_wp2_with (go_at_call 15; refine Hc.out.mono ?_; rintro e w' ⟨rfl, m, rfl⟩)
        go_ret2
        exact ⟨rfl, drawn_below hb _⟩
      · obtain ⟨k, rfl⟩ : ∃ k : Nat, g = k := ⟨g.toNat, by omega⟩
        have hd2 : decide ((4 : Int) ≤ (k : Int)) = false := decide_eq_false h2
        have hd3 : decide (4 ≤ k) = false := decide_eq_false (by omega)
        have he : gradeE a l k = feeE a (numAt l k) := by unfold gradeE; rw [if_pos hf, if_neg (by omega), Int.toNat_natCast]
        have hv : gradeV a l k = lessV a (numAt l k) := by
          unfold gradeV
          rw [he, Int.toNat_natCast]
          split
          · rfl
          · rename_i h; unfold lessV; rw [if_neg h]
        rw [he, hv]
        rcases hx with h0 | ⟨b, off, rfl, _, hc⟩
        · rw [h0] at hl; cases hl
        · have hcell := hc k (by omega)
          have i1 : (k : Int) < (l.length : Int) := by omega
          clear hf he hv hk h1 h2 hc hl
          go_enter Try.func11, Try.ntmps11
          go_wp2_with (first
            | (go_at_call 15; refine Hc.out.mono ?_; rintro e w' ⟨rfl, m, rfl⟩; replace hb := drawn_below hb m)
            | (go_at_call 9; refine (fless_any _ _ _).mono ?_; rintro e w2 ⟨rfl, b2⟩; replace hb := hb.trans (b2.mono hb.size)))
          go_ret2
          exact ⟨rfl, hb⟩

theorem pless_any (a b : Int) (w : World) : Calls Try.prog 21 #[.int .i64 a, .int .i64 b] w fun e w' => e = .returned (.tuple #[.int .i64 (lessV a b), .int .i64 (feeE a b)]) ∧ Below w.heap.size w w' := by
  go_enter Try.func21, Try.ntmps21
  go_wp2_with (go_at_call 9; refine (fless_any _ _ _).mono ?_; rintro e w2 ⟨rfl, b2⟩)
  go_ret2
  exact ⟨rfl, b2⟩

theorem kept_obj {wr w1 : World} (b1 : Below wr.heap.size wr w1) {g : Nat} {o : Obj} (h : wr.heap[g]? = some o) : w1.heap[g]? = some o := by
  rw [b1.block g (Array.getElem?_eq_some_iff.1 h).1]; exact h
set_option maxRecDepth 100000 in
set_option maxHeartbeats 2000000 in
theorem each_any (b off cap : Nat) (a : Int) (l : List Int) (w : World) (hf : feesB l = true) (hB : b < w.heap.size) (hc : ∀ j, j < 4 → w.cell? ⟨b, off + j, none⟩ = some (.int .i64 (numAt l j))) :
    Calls Try.prog 20 #[.slice (some ⟨b, off, none⟩) 4 cap, .func (.func 21) #[.int .i64 a] #[]] w fun e w' => e = .returned (.tuple #[allAgg a l, .int .i64 (allE a l)]) ∧ Below w.heap.size w w' := by
  have hb := Below.refl w.heap.size w
  have hfa := fees_are hf
  have HC := Lib.hid hc
  by_cases ha : a < 0 ∨ 1000000000000 < a
  · have he : allE a l = 8 := by unfold allE; rw [if_pos hf, if_pos ha]
    have hv := all_bad (a := a) (l := l) (by omega)
    have hx0 := hc 0 (by omega)
    have hfe : feeE a (numAt l 0) = 8 := (fee_over (by have := hfa.2 0 (by omega); omega) ha).1
    have Hl : Hid (∀ w, Calls Try.prog 21 #[.int .i64 a, .int .i64 (numAt l 0)] w fun e w' => ∃ v, e = .returned (.tuple #[v, .int .i64 8]) ∧ Below w.heap.size w w') := Lib.hid fun w => by
      have := pless_any a (numAt l 0) w
      rw [hfe] at this
      exact this.mono fun _ _ h => ⟨_, h.1, h.2⟩
    rw [he, hv]
    rw [Nat.add_zero] at hx0
    clear hf he hv hc hfa hfe ha
    go_enter Try.func20, Try.ntmps20
    go_upto_block 0 with fail
    obtain ⟨W, hW⟩ : ∃ W, W = (w.alloc (Obj.cells #[Value.int .i64 0, Value.int .i64 0, Value.int .i64 0, Value.int .i64 0] 31)).alloc (Obj.cells #[Value.int .i64 0, Value.int .i64 0, Value.int .i64 0, Value.int .i64 0] 31) := ⟨_, rfl⟩
    have hg0 := heap_alloc2_old w (Obj.cells #[Value.int .i64 0, Value.int .i64 0, Value.int .i64 0, Value.int .i64 0] 31) (Obj.cells #[Value.int .i64 0, Value.int .i64 0, Value.int .i64 0, Value.int .i64 0] 31)
    have hg1 := heap_alloc2_new w (Obj.cells #[Value.int .i64 0, Value.int .i64 0, Value.int .i64 0, Value.int .i64 0] 31) (Obj.cells #[Value.int .i64 0, Value.int .i64 0, Value.int .i64 0, Value.int .i64 0] 31)
    have hbW := (hb.alloc hb.size (Obj.cells #[Value.int .i64 0, Value.int .i64 0, Value.int .i64 0, Value.int .i64 0] 31)).alloc (hb.alloc hb.size (Obj.cells #[Value.int .i64 0, Value.int .i64 0, Value.int .i64 0, Value.int .i64 0] 31)).size (Obj.cells #[Value.int .i64 0, Value.int .i64 0, Value.int .i64 0, Value.int .i64 0] 31)
    rw [← hW] at hg0 hg1 hbW
    rw [← hW]
    clear hW
    have hcl := (hbW.cell (p := ⟨b, off, none⟩) hB).trans hx0
    have hzW : w.heap.size < W.heap.size := (Array.getElem?_eq_some_iff.1 hg0).1
    go_wp2
    go_loopw [7, 8, 9, 10, 13] (fun _ _ _ _ i wr => i = .int .i64 0 ∧ wr = W) (fun _ _ _ _ _ _ => 0)
    case atStart => exact ⟨rfl, rfl⟩
    case round =>
      obtain ⟨rfl, rfl⟩ := hrel
      go_wp2_with fail
      refine (Hl.out _).mono ?_
      rintro e w1 ⟨v, rfl, b1⟩
      have G := kept_obj b1 hg0
      have hb1 := hbW.trans (b1.mono hbW.size)
      have d0 : w1.cell? ⟨w.heap.size, 0, none⟩ = some (.int .i64 0) := cell_in (j := 0) G rfl
      have d1 : w1.cell? ⟨w.heap.size, 1, none⟩ = some (.int .i64 0) := cell_in (j := 1) G rfl
      have d2 : w1.cell? ⟨w.heap.size, 2, none⟩ = some (.int .i64 0) := cell_in (j := 2) G rfl
      have d3 : w1.cell? ⟨w.heap.size, 3, none⟩ = some (.int .i64 0) := cell_in (j := 3) G rfl
      have f0 : w1.frozen? ⟨w.heap.size, 0, none⟩ = false := frozen_of_row w1 w.heap.size 0 _ _ G
      have f1 : w1.frozen? ⟨w.heap.size, 1, none⟩ = false := frozen_of_row w1 w.heap.size 1 _ _ G
      have f2 : w1.frozen? ⟨w.heap.size, 2, none⟩ = false := frozen_of_row w1 w.heap.size 2 _ _ G
      have f3 : w1.frozen? ⟨w.heap.size, 3, none⟩ = false := frozen_of_row w1 w.heap.size 3 _ _ G
      clear hcl
      go_wp2
      refine bodyPost_ret (results_row_tmp rfl _ _ w.heap.size _ _ _ _ _ _ rfl (stored_four G)) rfl ?_
      exact ⟨rfl, below_four hb1 (Nat.le_refl _) _ _ _ _⟩
  · have he : allE a l = 0 := by unfold allE; rw [if_pos hf, if_neg ha]
    have hv : allAgg a l = .agg (arrCells a l 4) := by unfold allAgg allAt arrCells arrAt four; rw [if_pos he, if_pos he, if_pos he, if_pos he]; rfl
    have Hl : Hid (∀ (k : Nat), k < 4 → ∀ w, Calls Try.prog 21 #[.int .i64 a, .int .i64 (numAt l k)] w fun e w' => e = .returned (.tuple #[.int .i64 (lessV a (numAt l k)), .int .i64 0]) ∧ Below w.heap.size w w') := Lib.hid fun k hk w => by
      have := pless_any a (numAt l k) w
      rw [(fee_good (a := a) (b := numAt l k) (by have := hfa.2 k hk; omega) ha).1] at this
      exact this
    rw [he, hv]
    clear hf he hv hc hfa ha
    go_enter Try.func20, Try.ntmps20
    go_upto_block 0 with fail
    obtain ⟨W, hW⟩ : ∃ W, W = (w.alloc (Obj.cells #[Value.int .i64 0, Value.int .i64 0, Value.int .i64 0, Value.int .i64 0] 31)).alloc (Obj.cells #[Value.int .i64 0, Value.int .i64 0, Value.int .i64 0, Value.int .i64 0] 31) := ⟨_, rfl⟩
    have hg0 := heap_alloc2_old w (Obj.cells #[Value.int .i64 0, Value.int .i64 0, Value.int .i64 0, Value.int .i64 0] 31) (Obj.cells #[Value.int .i64 0, Value.int .i64 0, Value.int .i64 0, Value.int .i64 0] 31)
    have hg1 := heap_alloc2_new w (Obj.cells #[Value.int .i64 0, Value.int .i64 0, Value.int .i64 0, Value.int .i64 0] 31) (Obj.cells #[Value.int .i64 0, Value.int .i64 0, Value.int .i64 0, Value.int .i64 0] 31)
    have hbW := (hb.alloc hb.size (Obj.cells #[Value.int .i64 0, Value.int .i64 0, Value.int .i64 0, Value.int .i64 0] 31)).alloc (hb.alloc hb.size (Obj.cells #[Value.int .i64 0, Value.int .i64 0, Value.int .i64 0, Value.int .i64 0] 31)).size (Obj.cells #[Value.int .i64 0, Value.int .i64 0, Value.int .i64 0, Value.int .i64 0] 31)
    rw [← hW] at hg0 hg1 hbW
    rw [← hW]
    clear hW
    go_wp2
    go_loopw [7, 8, 9, 10, 13] (fun _ _ _ _ i wr => ∃ k : Nat, i = .int .i64 k ∧ k ≤ 4 ∧ Hid (wr.heap[w.heap.size + 1]? = some (.cells (arrCells a l k) 31 (0, 0))) ∧ Hid (wr.heap[w.heap.size]? = some (.cells (four 0 0 0 0) 31 (0, 0))) ∧ Below w.heap.size w wr) (fun _ _ _ _ i _ => 4 - (intOf i).toNat)
    case atStart => exact ⟨0, rfl, by omega, Lib.hid hg1, Lib.hid hg0, hbW⟩
    case round =>
      clear hg0 hg1 hbW
      obtain ⟨k, rfl, hk, HG1, HG0, hbr⟩ := hrel
      by_cases hlt : k < 4
      · have hx := (hbr.cell (p := ⟨b, off + k, none⟩) hB).trans (HC.out k hlt)
        have i1 : (k : Int) < 4 := by omega
        go_wp2_with fail
        refine (Hl.out k hlt _).mono ?_
        rintro e w1 ⟨rfl, b1⟩
        have G1 := kept_obj b1 HG1.out
        have G0 := kept_obj b1 HG0.out
        have hb1 := hbr.trans (b1.mono hbr.size)
        obtain ⟨v0, hv0⟩ := arr_has a l k hlt
        have d0 := cell_in G1 hv0
        have fz := frozen_of_row w1 (w.heap.size + 1) k _ _ G1
        have HS1 : Hid ((w1.setCell ⟨w.heap.size + 1, k, none⟩ (.int .i64 (lessV a (numAt l k)))).heap[w.heap.size + 1]? = some (.cells (arrCells a l (k + 1)) 31 (0, 0))) := Lib.hid (by
          rw [heap_setCell_same w1 _ k _ _ _ G1, arr_step a l hlt])
        have HS0 : Hid ((w1.setCell ⟨w.heap.size + 1, k, none⟩ (.int .i64 (lessV a (numAt l k)))).heap[w.heap.size]? = some (.cells (four 0 0 0 0) 31 (0, 0))) := Lib.hid (by
          rw [heap_setCell_other w1 ⟨w.heap.size + 1, k, none⟩ w.heap.size _ (by simp)]; exact G0)
        have hbs := hb1.setCell (p := ⟨w.heap.size + 1, k, none⟩) (show w.heap.size ≤ w.heap.size + 1 by omega) (.int .i64 (lessV a (numAt l k)))
        clear hv0 hbr hx G0 G1 HG1 HG0 hb1
        go_wp2
        go_roundw
        case rel => exact ⟨k + 1, by go_num, by omega, HS1, HS0, hbs⟩
        case measure => simp [intOf]; omega
      · obtain rfl : k = 4 := by omega
        have e0 : wr.cell? ⟨w.heap.size + 1, 0, none⟩ = some (.int .i64 (arrAt a l 4 0)) := cell_in (j := 0) HG1.out rfl
        have e1 : wr.cell? ⟨w.heap.size + 1, 1, none⟩ = some (.int .i64 (arrAt a l 4 1)) := cell_in (j := 1) HG1.out rfl
        have e2 : wr.cell? ⟨w.heap.size + 1, 2, none⟩ = some (.int .i64 (arrAt a l 4 2)) := cell_in (j := 2) HG1.out rfl
        have e3 : wr.cell? ⟨w.heap.size + 1, 3, none⟩ = some (.int .i64 (arrAt a l 4 3)) := cell_in (j := 3) HG1.out rfl
        have d0 : wr.cell? ⟨w.heap.size, 0, none⟩ = some (.int .i64 0) := cell_in (j := 0) HG0.out rfl
        have d1 : wr.cell? ⟨w.heap.size, 1, none⟩ = some (.int .i64 0) := cell_in (j := 1) HG0.out rfl
        have d2 : wr.cell? ⟨w.heap.size, 2, none⟩ = some (.int .i64 0) := cell_in (j := 2) HG0.out rfl
        have d3 : wr.cell? ⟨w.heap.size, 3, none⟩ = some (.int .i64 0) := cell_in (j := 3) HG0.out rfl
        have f0 : wr.frozen? ⟨w.heap.size, 0, none⟩ = false := frozen_of_row wr w.heap.size 0 _ _ HG0.out
        have f1 : wr.frozen? ⟨w.heap.size, 1, none⟩ = false := frozen_of_row wr w.heap.size 1 _ _ HG0.out
        have f2 : wr.frozen? ⟨w.heap.size, 2, none⟩ = false := frozen_of_row wr w.heap.size 2 _ _ HG0.out
        have f3 : wr.frozen? ⟨w.heap.size, 3, none⟩ = false := frozen_of_row wr w.heap.size 3 _ _ HG0.out
        go_wp2
        refine bodyPost_ret (results_row_tmp rfl _ _ w.heap.size _ _ _ _ _ _ rfl (stored_four HG0.out)) rfl ?_
        exact ⟨rfl, below_four hbr (Nat.le_refl _) _ _ _ _⟩

set_option maxHeartbeats 1000000 in
theorem fall_any (a0 : Option Addr) (cap : Nat) (a : Int) (l : List Int) (w : World) (_ : l.length ≤ 4611686018427387904) (hx : Ints w.heap.size w a0 l) :
    Calls Try.prog 13 #[.int .i64 a, .slice a0 l.length cap] w fun e w' => e = .returned (.tuple #[allAgg a l, .int .i64 (allE a l)]) ∧ Below w.heap.size w w' := by
  have hb := Below.refl w.heap.size w
  have HK : Hid (∀ w', Below w.heap.size w w' → Calls Try.prog 15 #[.slice a0 l.length cap] w' fun e w'' => e = .returned (.int .i64 (checkE l)) ∧ ∃ m, w'' = w'.drewN m) := Lib.hid fun w' h =>
    fcheck_quiet a0 cap l w' ((hx.below h).up h.size)
  cases hf : feesB l with
  | false =>
    have he : allE a l = 36 := by unfold allE; rw [if_neg (by rw [hf]; exact Bool.false_ne_true)]
    have hv := all_bad (a := a) (l := l) (by omega)
    have hk := check_no hf
    rw [hk] at HK
    rw [he, hv]
    clear hf he hv hk hx
    go_enter Try.func13, Try.ntmps13
    go_wp2_with (go_at_call 15; refine (HK.out _ (hb.alloc hb.size _)).mono ?_; rintro e w' ⟨rfl, m, rfl⟩)
    refine bodyPost_ret (results_row_tmp rfl _ _ w.heap.size _ _ _ _ _ _ rfl (stored_four (show ((w.alloc (Obj.cells #[Value.int .i64 0, Value.int .i64 0, Value.int .i64 0, Value.int .i64 0] 31)).drewN m).heap[w.heap.size]? = some (Obj.cells #[Value.int .i64 0, Value.int .i64 0, Value.int .i64 0, Value.int .i64 0] 31) from heap_alloc_new _ _))) rfl ?_
    exact ⟨rfl, below_four (drawn_below (hb.alloc hb.size _) m) (Nat.le_refl _) _ _ _ _⟩
  | true =>
    have hk := check_yes hf
    rw [hk] at HK
    have h4 := (fees_are hf).1
    rcases hx with rfl | ⟨b, off, rfl, hB, hc⟩
    · cases h4
    · have hmf : ∀ (fn : Fn) (first cap : Array Value) (w : World), (Instr.makeFunc fn first cap).run Try.prog w = .ok (.func fn first cap) w := fun _ _ _ _ => rfl
      rw [h4] at hc HK ⊢
      have HE : Hid (∀ w', Below w.heap.size w w' → Calls Try.prog 20 #[.slice (some ⟨b, off, none⟩) 4 cap, .func (.func 21) #[.int .i64 a] #[]] w' fun e w'' => e = .returned (.tuple #[.agg #[.int .i64 (allAt a l 0), .int .i64 (allAt a l 1), .int .i64 (allAt a l 2), .int .i64 (allAt a l 3)], .int .i64 (allE a l)]) ∧ Below w'.heap.size w' w'') := Lib.hid fun w' h =>
        each_any b off cap a l w' hf (by have := h.size; omega) fun j hj => (h.cell (p := ⟨b, off + j, none⟩) hB).trans (hc j hj)
      have HB := Lib.hid hB
      clear hf hk h4 hc
      go_enter Try.func13, Try.ntmps13
      go_wp2_with (go_at_call 15; refine (HK.out _ (hb.alloc hb.size _)).mono ?_; rintro e w' ⟨rfl, m, rfl⟩)
      refine (HE.out _ (drawn_below (hb.alloc hb.size _) m)).mono ?_
      rintro e w1 ⟨rfl, b1⟩
      have hbW : Below w.heap.size w ((w.alloc (Obj.cells #[Value.int .i64 0, Value.int .i64 0, Value.int .i64 0, Value.int .i64 0] 31)).drewN m) := drawn_below (hb.alloc hb.size _) m
      have G0 : w1.heap[w.heap.size]? = some (Obj.cells #[Value.int .i64 0, Value.int .i64 0, Value.int .i64 0, Value.int .i64 0] 31) := kept_obj b1 (show ((w.alloc (Obj.cells #[Value.int .i64 0, Value.int .i64 0, Value.int .i64 0, Value.int .i64 0] 31)).drewN m).heap[w.heap.size]? = some (Obj.cells #[Value.int .i64 0, Value.int .i64 0, Value.int .i64 0, Value.int .i64 0] 31) from heap_alloc_new _ _)
      have hb1 := hbW.trans (b1.mono hbW.size)
      have d0 : w1.cell? ⟨w.heap.size, 0, none⟩ = some (.int .i64 0) := cell_in (j := 0) G0 rfl
      have d1 : w1.cell? ⟨w.heap.size, 1, none⟩ = some (.int .i64 0) := cell_in (j := 1) G0 rfl
      have d2 : w1.cell? ⟨w.heap.size, 2, none⟩ = some (.int .i64 0) := cell_in (j := 2) G0 rfl
      have d3 : w1.cell? ⟨w.heap.size, 3, none⟩ = some (.int .i64 0) := cell_in (j := 3) G0 rfl
      have f0 : w1.frozen? ⟨w.heap.size, 0, none⟩ = false := frozen_of_row w1 w.heap.size 0 _ _ G0
      have f1 : w1.frozen? ⟨w.heap.size, 1, none⟩ = false := frozen_of_row w1 w.heap.size 1 _ _ G0
      have f2 : w1.frozen? ⟨w.heap.size, 2, none⟩ = false := frozen_of_row w1 w.heap.size 2 _ _ G0
      have f3 : w1.frozen? ⟨w.heap.size, 3, none⟩ = false := frozen_of_row w1 w.heap.size 3 _ _ G0
      clear b1 hbW
      go_wp2
      refine bodyPost_ret (results_row_tmp rfl _ _ w.heap.size _ _ _ _ _ _ rfl (stored_four G0)) rfl ?_
      exact ⟨rfl, below_four hb1 (Nat.le_refl _) _ _ _ _⟩
end Go.Proofs.Ytbhdjpohplpjdaa
