/- The document's own Out, for every total and row of weights, in every world. -/
import Derived.Test.YtmdonhkdkapjpaaGrow
import Derived.Deep.DeepCutAuto
namespace Go.Proofs.Ytmdonhkdkapjpaa
open Go.RowKit

theorem rpart {T : Int} {ws : List Int} (h : Fine T ws) {i : Nat} (hi : i < ws.length) (w : World) :
    Calls Try.prog 21 #[.int .i64 T, .int .i64 (weighs ws i), .int .i64 (wholeN ws)] w fun e w' => ∃ n r : Int, e = .returned (.tuple #[.int .i64 n, .int .i64 r]) ∧ Hid (n = quoAt T ws i ∧ r = remAt T ws i) ∧ w = w' := by
  have h1 := whole_pos h
  have h2 := weighs_bd h hi
  have h3 := quo_at h hi
  have h4 := h.t1
  refine (rdiv_any T (weighs ws i) (wholeN ws) w ⟨h.t0, h.t1⟩ ⟨h2.1, by omega⟩ h1).mono ?_
  rintro e w' ⟨rfl, rfl⟩
  unfold quoAt at h3
  refine ⟨_, _, rfl, Lib.hid ?_, rfl⟩
  unfold divN divR quoAt remAt
  rw [if_neg (by omega), if_neg (by omega)]
  exact ⟨rfl, rfl⟩

/-- What lies in the two rows when t have had one more. -/
def outAt (T : Int) (ws : List Int) (t i : Nat) : Int := if rank (remAt T ws) ws.length i < t then quoAt T ws i + 1 else quoAt T ws i
def restAt (T : Int) (ws : List Int) (t i : Nat) : Int := if rank (remAt T ws) ws.length i < t then -1 else remAt T ws i
theorem out_first (T : Int) (ws : List Int) : outAt T ws 0 = quoAt T ws := by funext i; unfold outAt; rw [if_neg (by omega)]
theorem rest_first (T : Int) (ws : List Int) : restAt T ws 0 = remAt T ws := by funext i; unfold restAt; rw [if_neg (by omega)]
theorem out_last {T : Int} {ws : List Int} (h : Fine T ws) : (List.range ws.length).map (outAt T ws (leftOf T ws).toNat) = outL T ws := by
  rw [fine_list h]
  have := (left_bd h).1
  refine congrArg (fun f => (List.range ws.length).map f) (funext fun i => ?_)
  unfold outAt shareAt
  by_cases h1 : rank (remAt T ws) ws.length i < (leftOf T ws).toNat
  · rw [if_pos h1, if_pos (by omega)]
  · rw [if_neg h1, if_neg (by omega)]
theorem out_step {T : Int} {ws : List Int} {t k : Nat} (hk : k < ws.length) (hr : rank (remAt T ws) ws.length k = t) :
    (∀ i, i < ws.length → i ≠ k → outAt T ws t i = outAt T ws (t + 1) i) ∧ (∀ i, i < ws.length → i ≠ k → restAt T ws t i = restAt T ws (t + 1) i) ∧ outAt T ws t k = quoAt T ws k ∧ outAt T ws (t + 1) k = quoAt T ws k + 1 ∧ restAt T ws (t + 1) k = -1 := by
  refine ⟨fun i hi hne => ?_, fun i hi hne => ?_, ?_, ?_, ?_⟩
  · have : rank (remAt T ws) ws.length i ≠ t := fun e => hne (rank_inj (r := remAt T ws) hi hk (by omega))
    unfold outAt
    by_cases h : rank (remAt T ws) ws.length i < t
    · rw [if_pos h, if_pos (by omega)]
    · rw [if_neg h, if_neg (by omega)]
  · have : rank (remAt T ws) ws.length i ≠ t := fun e => hne (rank_inj (r := remAt T ws) hi hk (by omega))
    unfold restAt
    by_cases h : rank (remAt T ws) ws.length i < t
    · rw [if_pos h, if_pos (by omega)]
    · rw [if_neg h, if_neg (by omega)]
  · unfold outAt; rw [if_neg (by omega)]
  · unfold outAt; rw [if_pos (by omega)]
  · unfold restAt; rw [if_pos (by omega)]
theorem deal_place {T : Int} {ws : List Int} (h : Fine T ws) {t k : Nat} (ht : t < ws.length) (hk : k < ws.length) (h1 : ∀ j, j < ws.length → restAt T ws t j ≤ restAt T ws t k) (h2 : ∀ j, j < k → restAt T ws t j < restAt T ws t k) :
    rank (remAt T ws) ws.length k = t :=
  next_place ht (fun i _ => (rem_at h i).1) (s := restAt T ws t) (fun _ _ => rfl) hk h1 h2

theorem sum_upto {f : Nat → Int} {n k : Nat} (hk : k ≤ n) (h : ∀ i, i < n → 0 ≤ f i) : sumTo f k ≤ sumTo f n := by
  induction n with
  | zero => rw [show k = 0 by omega]; exact Int.le_refl _
  | succ n ih =>
    rcases (by omega : k = n + 1 ∨ k ≤ n) with h1 | h1
    · rw [h1]; exact Int.le_refl _
    · have h2 := ih h1 (fun i hi => h i (by omega))
      have h3 := h n (by omega)
      simp only [sumTo]; omega
theorem left_upto {T : Int} {ws : List Int} (h : Fine T ws) {k : Nat} (hk : k < ws.length) : 0 ≤ T - sumTo (quoAt T ws) k - quoAt T ws k ∧ T - sumTo (quoAt T ws) k - quoAt T ws k = T - sumTo (quoAt T ws) (k + 1) := by
  have h1 := (left_bd h).1
  have h2 := sum_upto (f := quoAt T ws) (n := ws.length) (k := k + 1) (by omega) (fun i hi => (quo_at h hi).1)
  unfold leftOf at h1
  simp only [sumTo] at h2 ⊢
  omega
/-- The two rows of the call's own. -/
structure Rows2 (B : Nat) (w : World) (u v : Value) (n : Nat) (xs ys : List Int) : Prop where
  out : w.ownsRow B 3 1 u n (intCells xs)
  rest : w.ownsRow B 3 1 v n (intCells ys)
  apart : Apart u v

theorem out_bad {T : Int} {ws : List Int} (h : outE T ws ≠ 0) : outL T ws = [] := by unfold outL; rw [if_neg h]
set_option maxHeartbeats 2000000 in
theorem rout_some (b off cap : Nat) (T : Int) (ws : List Int) (w : World) (hB : b < w.heap.size) (hc : ∀ j, j < ws.length → w.cell? ⟨b, off + j, none⟩ = some (.int .i64 (numAt ws j))) :
    Calls Try.prog 8 #[.int .i64 T, .slice (some ⟨b, off, none⟩) ws.length cap] w fun e w' => ∃ a cap', e = .returned (.tuple #[.slice a (outL T ws).length cap', .int .i64 (outE T ws)]) ∧ Ints w'.heap.size w' a (outL T ws) ∧ Below w.heap.size w w' := by
  have HW : Hid (∀ w0 : World, Below w.heap.size w w0 → Calls Try.prog 14 #[.slice (some ⟨b, off, none⟩) ws.length cap] w0 fun e w' => e = .returned (.tuple #[.int .i64 (wholeV ws), .int .i64 (wholeE ws)]) ∧ w0 = w') :=
    Lib.hid fun w0 h0 => rwhole_some b off cap ws w0 fun j hj => (h0.cell (p := ⟨b, off + j, none⟩) hB).trans (hc j hj)
  have HC := Lib.hid hc
  clear hc
  by_cases hw : wholeE ws = 0
  · have hwd : (wholeE ws != 0) = false := by rw [hw]; rfl
    by_cases ht : T < 0 ∨ 1000000000000 < T
    · have he : outE T ws = 8 := by unfold outE; rw [if_pos hw, if_pos ht]
      have hl := out_bad (T := T) (ws := ws) (by omega)
      rcases ht with ht | ht
      · have htd : decide (T < 0) = true := decide_eq_true ht
        clear ht hw
        rw [he, hl]
        go_enter Try.func8, Try.ntmps8
        go_wp2_with (go_at_call 14; refine (HW.out _ (Below.refl _ _)).mono ?_; rintro e w' ⟨rfl, rfl⟩)
        go_ret2
        exact ⟨none, 0, rfl, Or.inl rfl, Below.refl _ _⟩
      · have htd : decide (T < 0) = false := decide_eq_false (by omega)
        have htd2 : decide (1000000000000 < T) = true := decide_eq_true ht
        clear ht hw
        rw [he, hl]
        go_enter Try.func8, Try.ntmps8
        go_wp2_with (go_at_call 14; refine (HW.out _ (Below.refl _ _)).mono ?_; rintro e w' ⟨rfl, rfl⟩)
        go_ret2
        exact ⟨none, 0, rfl, Or.inl rfl, Below.refl _ _⟩
    · have he : outE T ws = 0 := by unfold outE; rw [if_pos hw, if_neg ht]
      have hF := out_fine he
      have HF := Lib.hid hF
      have hv : wholeV ws = wholeN ws := by unfold wholeV; rw [if_pos hw]
      have htd : decide (T < 0) = false := decide_eq_false (by omega)
      have htd2 : decide (1000000000000 < T) = false := decide_eq_false (by omega)
      have ht0 := hF.t0
      have ht1 := hF.t1
      have hn1 := hF.len
      have hn2 := hF.len2
      rw [hv] at HW
      rw [he]
      clear ht hw hF hv
      go_enter Try.func8, Try.ntmps8
      go_wp2_with (go_at_call 14; refine (HW.out _ (Below.refl _ _)).mono ?_; rintro e w' ⟨rfl, rfl⟩)
      go_loop [8, 9] (fun s i => ∃ k : Nat, i = .int .i64 k ∧ k ≤ ws.length ∧ ∃ n : Int, s = .int .i64 n ∧ Hid (n = total (ws.take k))) (fun _ i => ws.length - (intOf i).toNat)
      case atStart => exact ⟨0, rfl, by omega, 0, rfl, Lib.hid rfl⟩
      case round =>
        obtain ⟨k, rfl, hk, n, rfl, hn⟩ := hrel
        by_cases hlt : k < ws.length
        · have hx := HC.out k hlt
          have t1 := total_more ws k hlt
          have t2 := total_take HF.out.pos (k + 1)
          have t3 := total_pos (l := ws.take (k + 1)) (fun y hy => HF.out.pos y (List.mem_of_mem_take hy))
          have t4 := HF.out.all
          have hn' := hn.out
          have hb0 : 0 ≤ n + numAt ws k := by omega
          have hb1 : n + numAt ws k ≤ 1000000000000 := by omega
          have Hn : Hid (n + numAt ws k = total (ws.take (k + 1))) := Lib.hid (by omega)
          clear t1 t2 t3 t4 hn'
          go_wp2
          go_round
          case rel => exact ⟨k + 1, by go_num, by omega, n + numAt ws k, rfl, Hn⟩
          case measure => simp [intOf]; omega
        · obtain rfl : k = ws.length := by omega
          have hnt : Hid (n = total ws) := Lib.hid (by have := hn.out; rw [List.take_length] at this; exact this)
          go_wp2
          go_loopw [10, 11, 12, 13, 14, 15, 16] (fun o r l i _ _ _ wr => ∃ k : Nat, i = .int .i64 k ∧ k ≤ ws.length ∧ Rows2 w.heap.size wr o r k ((List.range k).map (quoAt T ws)) ((List.range k).map (remAt T ws)) ∧ (∃ left : Int, l = .int .i64 left ∧ left ≤ T ∧ 0 ≤ left ∧ Hid (left = T - sumTo (quoAt T ws) k)) ∧ Below w.heap.size w wr) (fun _ _ _ i _ _ _ _ => ws.length - (intOf i).toNat)
          case atStart => exact ⟨0, rfl, by omega, ⟨World.ownsRow_nil _ _ _ _, World.ownsRow_nil _ _ _ _, Or.inl rfl⟩, ⟨T, rfl, by omega, by omega, Lib.hid (by simp [sumTo])⟩, Below.refl _ _⟩
          case round =>
            obtain ⟨k, rfl, hk, hR, ⟨left, rfl, hl1, hl0, hl⟩, hb⟩ := hrel
            by_cases hlt : k < ws.length
            · have hx := (hb.cell (p := ⟨b, off + k, none⟩) hB).trans (HC.out k hlt)
              have Hb := Lib.hid hb
              clear hb
              by_cases hz : n = 0
              · have hzd : (n == 0) = true := by rw [hz]; rfl
                have Hp : Hid (∀ w, Calls Try.prog 21 #[.int .i64 T, .int .i64 1, .int .i64 (wholeN ws)] w fun e w' => ∃ n r : Int, e = .returned (.tuple #[.int .i64 n, .int .i64 r]) ∧ Hid (n = quoAt T ws k ∧ r = remAt T ws k) ∧ w = w') := Lib.hid (by
                  have h1 : weighs ws k = 1 := by unfold weighs; rw [if_pos (by rw [← hnt.out]; exact hz)]
                  rw [← h1]; exact rpart HF.out hlt)
                clear hz
                go_wp2_with (first
                  | (go_at_call 21; refine (Hp.out _).mono ?_; rintro e w1 ⟨q, r, rfl, hqr, rfl⟩)
                  | (at_builtin; refine append_beside rfl _ _ rfl w.heap.size k k _ _ _ _ rfl hR.out hR.rest (by exact hR.apart) _ rfl (by omega) Hb.out.size ?_))
                intro u2 w2 ho2 hr2 hap2 hg2
                have hb2 : Below w.heap.size w w2 := (Hb.out.alloc Hb.out.size _).grown hg2 (by have := Hb.out.size; simp; omega) (fun g hg => (hR.out.lt g hg).1)
                have HB2 := Lib.hid hb2
                clear hb2
                go_wp2_with (at_builtin; refine append_beside rfl _ _ rfl w.heap.size k (k + 1) _ _ _ _ rfl hr2 ho2 (by exact hap2.symm) _ rfl (by omega) HB2.out.size ?_)
                intro v3 w3 hr3 ho3 hap3 hg3
                have hb3 : Below w.heap.size w w3 := (HB2.out.alloc HB2.out.size _).grown hg3 (by have := HB2.out.size; simp; omega) (fun g hg => (hr2.lt g hg).1)
                obtain ⟨hl2, hl3⟩ := left_upto HF.out hlt
                rw [← hl.out, ← hqr.out.1] at hl2 hl3
                have hq0 : 0 ≤ q := by rw [hqr.out.1]; exact (quo_at HF.out hlt).1
                have HL : Hid (left - q = T - sumTo (quoAt T ws) (k + 1)) := Lib.hid hl3
                clear hl3
                rw [intCells_more, hqr.out.1, range_more] at ho3
                rw [intCells_more, hqr.out.2, range_more] at hr3
                go_wp2_with fail
                go_roundw
                case rel => exact ⟨k + 1, by go_num, by omega, ⟨ho3, hr3, hap3.symm⟩, ⟨left - q, rfl, by omega, hl2, HL⟩, hb3⟩
                case measure => simp [intOf]; omega
              · have hzd : (n == 0) = false := by rw [beq_eq_false_iff_ne]; exact hz
                have Hp : Hid (∀ w, Calls Try.prog 21 #[.int .i64 T, .int .i64 (numAt ws k), .int .i64 (wholeN ws)] w fun e w' => ∃ n r : Int, e = .returned (.tuple #[.int .i64 n, .int .i64 r]) ∧ Hid (n = quoAt T ws k ∧ r = remAt T ws k) ∧ w = w') := Lib.hid (by
                  have h1 : weighs ws k = numAt ws k := by unfold weighs; rw [if_neg (by rw [← hnt.out]; exact hz)]
                  rw [← h1]; exact rpart HF.out hlt)
                clear hz
                go_wp2_with (first
                  | (go_at_call 21; refine (Hp.out _).mono ?_; rintro e w1 ⟨q, r, rfl, hqr, rfl⟩)
                  | (at_builtin; refine append_beside rfl _ _ rfl w.heap.size k k _ _ _ _ rfl hR.out hR.rest (by exact hR.apart) _ rfl (by omega) Hb.out.size ?_))
                intro u2 w2 ho2 hr2 hap2 hg2
                have hb2 : Below w.heap.size w w2 := (Hb.out.alloc Hb.out.size _).grown hg2 (by have := Hb.out.size; simp; omega) (fun g hg => (hR.out.lt g hg).1)
                have HB2 := Lib.hid hb2
                clear hb2
                go_wp2_with (at_builtin; refine append_beside rfl _ _ rfl w.heap.size k (k + 1) _ _ _ _ rfl hr2 ho2 (by exact hap2.symm) _ rfl (by omega) HB2.out.size ?_)
                intro v3 w3 hr3 ho3 hap3 hg3
                have hb3 : Below w.heap.size w w3 := (HB2.out.alloc HB2.out.size _).grown hg3 (by have := HB2.out.size; simp; omega) (fun g hg => (hr2.lt g hg).1)
                obtain ⟨hl2, hl3⟩ := left_upto HF.out hlt
                rw [← hl.out, ← hqr.out.1] at hl2 hl3
                have hq0 : 0 ≤ q := by rw [hqr.out.1]; exact (quo_at HF.out hlt).1
                have HL : Hid (left - q = T - sumTo (quoAt T ws) (k + 1)) := Lib.hid hl3
                clear hl3
                rw [intCells_more, hqr.out.1, range_more] at ho3
                rw [intCells_more, hqr.out.2, range_more] at hr3
                go_wp2_with fail
                go_roundw
                case rel => exact ⟨k + 1, by go_num, by omega, ⟨ho3, hr3, hap3.symm⟩, ⟨left - q, rfl, by omega, hl2, HL⟩, hb3⟩
                case measure => simp [intOf]; omega
            · obtain rfl : k = ws.length := by omega
              have HL : Hid (left = leftOf T ws) := Lib.hid hl.out
              have hlb := left_bd HF.out
              rw [← HL.out] at hlb
              obtain ⟨hlb0, hlb1⟩ := hlb
              obtain ⟨g, c1, rfl⟩ := Joins.ownsRow_form hR.out (by omega)
              obtain ⟨g', c2, rfl⟩ := Joins.ownsRow_form hR.rest (by omega)
              have hne : g ≠ g' := by
                have := hR.apart
                unfold Apart at this
                simpa [Value.ownBlock] using this
              have ho := hR.out
              have hr := hR.rest
              rw [← out_first] at ho
              rw [← rest_first] at hr
              clear hR hl
              go_wp2
              go_loopw [12, 17, 18] (fun l _ _ wr => ∃ t : Nat, l = .int .i64 (left - t) ∧ (t : Int) ≤ left ∧ wr.ownsRow w.heap.size 3 1 (.slice (some ⟨g, 0, none⟩) ws.length c1) ws.length (intCells ((List.range ws.length).map (outAt T ws t))) ∧ wr.ownsRow w.heap.size 3 1 (.slice (some ⟨g', 0, none⟩) ws.length c2) ws.length (intCells ((List.range ws.length).map (restAt T ws t))) ∧ Below w.heap.size w wr) (fun l _ _ _ => (intOf l).toNat)
              case atStart => exact ⟨0, by simp, by omega, ho, hr, hb⟩
              case round =>
                clear ho hr hb
                obtain ⟨t, rfl, ht, ho, hr, hb⟩ := hrel
                by_cases hlt : (t : Int) < left
                · have hgt : 0 < left - (t : Int) := by omega
                  have htn : t < ws.length := by omega
                  go_wp2
                  go_loopw [17, 18] (fun k' i' wr2 => ∃ k i m : Nat, k' = .int .i64 k ∧ i' = .int .i64 i ∧ wr2 = wr.drewN m ∧ k < ws.length ∧ i ≤ ws.length ∧ k ≤ i ∧ Hid (∀ j, j < i → restAt T ws t j ≤ restAt T ws t k) ∧ Hid (∀ j, j < k → restAt T ws t j < restAt T ws t k)) (fun _ i' _ => ws.length - (intOf i').toNat)
                  case atStart => exact ⟨0, 0, 0, rfl, rfl, rfl, by omega, by omega, by omega, Lib.hid (fun j h => absurd h (by omega)), Lib.hid (fun j h => absurd h (by omega))⟩
                  case round =>
                    obtain ⟨k, i, m, rfl, rfl, rfl, hk, hi, hki, hA, hS⟩ := hrel
                    by_cases hin : i < ws.length
                    · have ci := own_cell hr i hin
                      have ck := own_cell hr k hk
                      have i1 : (i : Int) < (ws.length : Int) := by omega
                      have i2 : (k : Int) < (ws.length : Int) := by omega
                      have i3 : (0 : Int) ≤ (i : Int) := by omega
                      have i4 : (0 : Int) ≤ (k : Int) := by omega
                      by_cases hgt2 : restAt T ws t k < restAt T ws t i
                      · have hd : decide (restAt T ws t k < restAt T ws t i) = true := decide_eq_true hgt2
                        have HA : Hid (∀ j, j < i + 1 → restAt T ws t j ≤ restAt T ws t i) := Lib.hid (fun j h => by
                          rcases (by omega : j < i ∨ j = i) with h1 | h1
                          · have := hA.out j h1; omega
                          · rw [h1]; exact Int.le_refl _)
                        have HS : Hid (∀ j, j < i → restAt T ws t j < restAt T ws t i) := Lib.hid (fun j h => by have := hA.out j h; omega)
                        go_upto_region 29 with fail
                        go_quiet (fail)
                        go_wp2
                        go_roundw
                        case rel => exact ⟨i, i + 1, _, rfl, by go_num, rfl, hin, by omega, by omega, HA, HS⟩
                        case measure => simp [intOf]; omega
                      · have hd : decide (restAt T ws t k < restAt T ws t i) = false := decide_eq_false hgt2
                        have HA : Hid (∀ j, j < i + 1 → restAt T ws t j ≤ restAt T ws t k) := Lib.hid (fun j h => by
                          rcases (by omega : j < i ∨ j = i) with h1 | h1
                          · exact hA.out j h1
                          · rw [h1]; omega)
                        go_upto_region 29 with fail
                        go_quiet (fail)
                        go_wp2
                        go_roundw
                        case rel => exact ⟨k, i + 1, _, rfl, by go_num, rfl, hk, by omega, by omega, HA, hS⟩
                        case measure => simp [intOf]; omega
                    · have hplace := deal_place HF.out htn hk (fun j h => hA.out j (by omega)) hS.out
                      obtain ⟨s1, s2, s3, s4, s5⟩ := out_step (T := T) hk hplace
                      have ho2 : (wr.drewN m).ownsRow w.heap.size 3 1 (.slice (some ⟨g, 0, none⟩) ws.length c1) ws.length (intCells ((List.range ws.length).map (outAt T ws t))) := ho
                      have hr2 : (wr.drewN m).ownsRow w.heap.size 3 1 (.slice (some ⟨g', 0, none⟩) ws.length c2) ws.length (intCells ((List.range ws.length).map (restAt T ws t))) := hr
                      have hb2 : Below w.heap.size w (wr.drewN m) := drawn_below hb m
                      generalize wr.drewN m = V at *
                      have cO := own_cell ho2 k hk
                      rw [s3] at cO
                      have fO := ho2.frozenAt k
                      have hq0 := quo_at HF.out hk
                      have hO3 := own_stored ho2 k (f' := outAt T ws (t + 1)) s1
                      have hR3 := ownsRow_setCell_other hr2 (a := ⟨g, k, none⟩) (by simp [Value.ownBlock]; exact fun e => hne e.symm) (.int .i64 (outAt T ws (t + 1) k))
                      rw [s4] at hO3 hR3
                      have fR := hR3.frozenAt k
                      have hO4 := ownsRow_setCell_other hO3 (a := ⟨g', k, none⟩) (by simp [Value.ownBlock]; exact hne) (.int .i64 (restAt T ws (t + 1) k))
                      have hR4 := own_stored hR3 k (f' := restAt T ws (t + 1)) s2
                      rw [s5] at hO4 hR4
                      have cR := own_cell hR3 k hk
                      have hbg := (ho2.lt g rfl).1
                      have hbg' := (hr2.lt g' rfl).1
                      have hb3 := (hb2.setCell (p := ⟨g, k, none⟩) hbg (.int .i64 (quoAt T ws k + 1))).setCell (p := ⟨g', k, none⟩) hbg' (.int .i64 (-1))
                      clear ho hr hb s1 s2 s3 s4 s5 ho2 hr2 hb2 hO3 hR3
                      go_wp2
                      go_roundw
                      case rel => exact ⟨t + 1, congrArg (Value.int .i64) (by omega), by omega, hO4, hR4, hb3⟩
                      case measure => simp [intOf]; omega
                · have htl : left - (t : Int) = 0 := by omega
                  have htz : t = (leftOf T ws).toNat := by have := HL.out; omega
                  rw [htz, out_last HF.out] at ho
                  have hol := out_len HF.out
                  go_wp2
                  go_ret2
                  have ho' : wr.ownsRow w.heap.size 3 1 (.slice (some ⟨g, 0, none⟩) ws.length c1) (outL T ws).length (intCells (outL T ws)) := by rw [hol]; exact ho
                  obtain ⟨a, cap', hv, hI⟩ := ints_own ho'
                  rw [hol] at hv
                  exact ⟨a, ⟨cap', by rw [← hv]; rfl⟩, hI, hb⟩
  · have he : outE T ws = wholeE ws := by unfold outE; rw [if_neg hw]
    have hl := out_bad (T := T) (ws := ws) (by omega)
    have hwd : (wholeE ws != 0) = true := by rw [bne_iff_ne]; exact hw
    clear hw
    rw [he, hl]
    go_enter Try.func8, Try.ntmps8
    go_wp2_with (go_at_call 14; refine (HW.out _ (Below.refl _ _)).mono ?_; rintro e w' ⟨rfl, rfl⟩)
    go_ret2
    exact ⟨none, 0, rfl, Or.inl rfl, Below.refl _ _⟩
end Go.Proofs.Ytmdonhkdkapjpaa
