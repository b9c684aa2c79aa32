/- The walk of the law ShareAll: it returns true in every world and leaves what lay there. -/
import Derived.Test.YtmdonhkdkapjpaaWalka
namespace Go.Proofs.Ytmdonhkdkapjpaa
open Go.RowKit

theorem add_from {l : List Int} : ∀ {n : Int}, (∀ x ∈ l, 0 ≤ x) → 0 ≤ n → n + total l ≤ 1000000000000 → addFrom n l = some (n + total l) := by
  induction l with
  | nil => intro n _ _ _; simp [addFrom, total]
  | cons x l ih =>
    intro n h hn hm
    have h1 := h x (List.mem_cons_self ..)
    have h2 := total_pos (fun y hy => h y (List.mem_cons_of_mem _ hy))
    simp only [total] at hm
    have hx : inB x = true := (inB_iff x).2 ⟨by omega, by omega⟩
    have hnx : inB (n + x) = true := (inB_iff _).2 ⟨by omega, by omega⟩
    simp only [addFrom, hx, hnx, Bool.and_self, if_true]
    rw [ih (fun y hy => h y (List.mem_cons_of_mem _ hy)) (by omega) (by omega)]
    simp only [total]
    rw [Int.add_assoc]
theorem out_added {T : Int} {ws : List Int} (h : Fine T ws) : addV (outL T ws) = T ∧ addE (outL T ws) = 0 := by
  have h1 : ∀ x ∈ outL T ws, 0 ≤ x := by
    refine mem_num fun j hj => ?_
    rw [out_len h] at hj
    rw [out_at h hj]
    exact share_pos h hj
  have h2 := out_total h
  have h3 := add_from (n := 0) h1 (by omega) (by rw [h2]; have := h.t1; omega)
  unfold addV addE
  rw [h3, h2, Int.zero_add]
  exact ⟨rfl, rfl⟩
theorem spart {T : Int} {ws : List Int} (h : Fine T ws) {i : Nat} (hi : i < ws.length) (w : World) :
    Calls Try.prog 17 #[.int .i64 T, .int .i64 (weighs ws i), .int .i64 (wholeN ws)] w fun e w' => ∃ n : Int, e = .returned (.tuple #[.int .i64 n, .int .i64 0]) ∧ Hid (n = quoAt T ws i) ∧ Below w.heap.size w w' := by
  have h1 := whole_pos h
  have h2 := weighs_bd h hi
  have h3 := quo_at h hi
  have h4 := h.t1
  have h5 := h.t0
  have hm : mayE T (weighs ws i) (wholeN ws) = 0 := by unfold mayE; rw [if_neg (by omega), if_neg (by omega)]
  unfold quoAt at h3
  obtain ⟨e1, e2⟩ := floor_fine hm (by omega)
  refine (cfloor_any T (weighs ws i) (wholeN ws) w).mono ?_
  rintro e w' ⟨rfl, hb⟩
  refine ⟨_, by rw [e1], Lib.hid ?_, hb⟩
  rw [e2]; rfl
theorem all_zero {T : Int} {ws : List Int} (h : Fine T ws) : (∀ j, j < ws.length → numAt ws j = 0) ↔ total ws = 0 := by
  constructor
  · intro h0
    have : total (ws.take ws.length) = sumTo (numAt ws) ws.length := total_sum ws ws.length (Nat.le_refl _)
    rw [List.take_length, sum_same (g := fun _ => 0) h0, sum_const] at this
    omega
  · intro h0 j hj
    exact total_zero h.pos h0 _ (num_mem ws j hj)

set_option maxHeartbeats 2000000 in
theorem all_some (b off cap : Nat) (T : Int) (xs : List Int) (w : World) (hF : Fine T xs) (hB : b < w.heap.size) (hc : ∀ j, j < xs.length → w.cell? ⟨b, off + j, none⟩ = some (.int .i64 (numAt xs j))) (he : outE T xs = 0) :
    Calls Try.prog 4 #[.int .i64 T, .slice (some ⟨b, off, none⟩) xs.length cap] w fun e w' => e = .returned (.bool true) ∧ Below w.heap.size w w' := by
  have hb := Below.refl w.heap.size w
  have ht : Ints w.heap.size w (some ⟨b, off, none⟩) xs := Or.inr ⟨b, off, rfl, hB, hc⟩
  have hn2 := hF.len2
  have hn1 := hF.len
  have hn : xs.length ≤ 4611686018427387904 := by omega
  have hd : decide ((300 : Int) < (xs.length : Int)) = false := decide_eq_false (by omega)
  have hol := out_len hF
  have ⟨hav, hae⟩ := out_added hF
  have hwe := fine_whole hF
  have hwv : wholeV xs = wholeN xs := by unfold wholeV; rw [if_pos hwe]
  have HF := Lib.hid hF
  have HO : Hid (∀ w, Ints w.heap.size w (some ⟨b, off, none⟩) xs → Calls Try.prog 7 #[.int .i64 T, .slice (some ⟨b, off, none⟩) xs.length cap] w fun e w' => ∃ a cap', e = .returned (.tuple #[.slice a xs.length cap', .int .i64 0]) ∧ Ints w'.heap.size w' a (outL T xs) ∧ Below w.heap.size w w') := Lib.hid (fun w h => by
    have := sout_any (some ⟨b, off, none⟩) cap T xs w hn h
    rw [he, hol] at this
    exact this)
  have HA : Hid (∀ w a c, Ints w.heap.size w a (outL T xs) → Calls Try.prog 16 #[.slice a xs.length c] w fun e w' => e = .returned (.tuple #[.int .i64 T, .int .i64 0]) ∧ Below w.heap.size w w') := Lib.hid (fun w a c h => by
    have := cadd_any a c (outL T xs) w (by omega) h
    rw [hav, hae, hol] at this
    exact this)
  have HWh : Hid (∀ w, Ints w.heap.size w (some ⟨b, off, none⟩) xs → Calls Try.prog 13 #[.slice (some ⟨b, off, none⟩) xs.length cap] w fun e w' => e = .returned (.tuple #[.int .i64 (wholeN xs), .int .i64 0]) ∧ Below w.heap.size w w') := Lib.hid (fun w h => by
    have := swhole_any (some ⟨b, off, none⟩) cap xs w hn h
    rw [hwe, hwv] at this
    exact this)
  have Hol := Lib.hid hol
  clear hF hol hav hae hwe hwv he hc
  go_enter Try.func4, Try.ntmps4
  go_upto_region 6 with (go_at_call 7; refine (HO.out _ ht).mono ?_; rintro e w1 ⟨a1, c1, rfl, k1, b1⟩; replace hb := hb.trans (b1.mono hb.size); replace ht := ht.step b1)
  go_upto_region 7 with (go_at_call 16; refine (HA.out _ _ _ k1).mono ?_; rintro e w2 ⟨rfl, b2⟩; replace hb := hb.trans (b2.mono hb.size); replace ht := ht.step b2; replace k1 := k1.step b2)
  go_upto_region 8 with (go_at_call 13; refine (HWh.out _ ht).mono ?_; rintro e w3 ⟨rfl, b3⟩; replace hb := hb.trans (b3.mono hb.size); replace ht := ht.step b3; replace k1 := k1.step b3)
  rcases ht with h0 | ⟨b0, o0, hbo, hB0, hc0⟩
  · rw [h0] at hn1; simp at hn1
  obtain ⟨rfl, rfl⟩ : b = b0 ∧ off = o0 := by simpa using hbo
  rcases k1 with h0 | ⟨g, o, rfl, hg, hcg⟩
  · have := Hol.out; rw [h0] at this; simp at this; omega
  have HC := Lib.hid hc0
  have HG : Hid (∀ j, j < xs.length → w3.cell? ⟨g, o + j, none⟩ = some (.int .i64 (shareAt T xs j))) := Lib.hid (fun j hj => by
    rw [hcg j (by rw [Hol.out]; exact hj), out_at HF.out hj])
  clear hc0 hcg hbo
  go_wp2
  go_loop [11, 12] (fun v i => ∃ (k : Nat) (z : Bool), i = .int .i64 k ∧ k ≤ xs.length ∧ v = .bool z ∧ Hid (z = true ↔ ∀ j, j < k → numAt xs j = 0)) (fun _ i => xs.length - (intOf i).toNat)
  case atStart => exact ⟨0, true, rfl, by omega, rfl, Lib.hid ⟨fun _ j h => absurd h (by omega), fun _ => rfl⟩⟩
  case round =>
    obtain ⟨k, z, rfl, hk, rfl, hz⟩ := hrel
    by_cases hlt : k < xs.length
    · have hx := HC.out k hlt
      cases z with
      | false =>
        have Hz : Hid (false = true ↔ ∀ j, j < k + 1 → numAt xs j = 0) := Lib.hid ⟨fun h => (by cases h), fun h => hz.out.2 fun j hj => h j (by omega)⟩
        go_wp2
        go_round
        case rel => exact ⟨k + 1, false, by go_num, by omega, rfl, Hz⟩
        case measure => simp [intOf]; omega
      | true =>
        by_cases h0 : numAt xs k = 0
        · have hd0 : (numAt xs k == 0) = true := by rw [h0]; rfl
          have Hz : Hid (true = true ↔ ∀ j, j < k + 1 → numAt xs j = 0) := Lib.hid ⟨fun _ j hj => by
            rcases (by omega : j < k ∨ j = k) with h1 | h1
            · exact hz.out.1 rfl j h1
            · rw [h1]; exact h0, fun _ => rfl⟩
          clear h0
          go_wp2
          go_round
          case rel => exact ⟨k + 1, true, by go_num, by omega, rfl, Hz⟩
          case measure => simp [intOf]; omega
        · have hd0 : (numAt xs k == 0) = false := by rw [beq_eq_false_iff_ne]; exact h0
          have Hz : Hid (false = true ↔ ∀ j, j < k + 1 → numAt xs j = 0) := Lib.hid ⟨fun h => (by cases h), fun h => absurd (h k (by omega)) h0⟩
          clear h0
          go_wp2
          go_round
          case rel => exact ⟨k + 1, false, by go_num, by omega, rfl, Hz⟩
          case measure => simp [intOf]; omega
    · obtain rfl : k = xs.length := by omega
      have Hz : Hid (z = true ↔ total xs = 0) := Lib.hid (hz.out.trans (all_zero HF.out))
      go_wp2
      go_loopw [13, 14, 15, 16] (fun i _ _ _ wr => ∃ k : Nat, i = .int .i64 k ∧ k ≤ xs.length ∧ Below w3.heap.size w3 wr) (fun i _ _ _ _ => xs.length - (intOf i).toNat)
      case atStart => exact ⟨0, rfl, by omega, Below.refl _ _⟩
      case round =>
        obtain ⟨k, rfl, hk, hbr⟩ := hrel
        by_cases hlt : k < xs.length
        · have hx := (hbr.cell (p := ⟨b, off + k, none⟩) hB0).trans (HC.out k hlt)
          have hy := (hbr.cell (p := ⟨g, o + k, none⟩) hg).trans (HG.out k hlt)
          have hsb := share_bd T xs k
          have hqb := quo_at HF.out hlt
          have hT1 := HF.out.t1
          cases z with
          | true =>
            have Hp : Hid (∀ w, Calls Try.prog 17 #[.int .i64 T, .int .i64 1, .int .i64 (wholeN xs)] w fun e w' => ∃ n : Int, e = .returned (.tuple #[.int .i64 n, .int .i64 0]) ∧ Hid (n = quoAt T xs k) ∧ Below w.heap.size w w') := Lib.hid (by
              have h1 : weighs xs k = 1 := by unfold weighs; rw [if_pos (Hz.out.1 rfl)]
              rw [← h1]; exact spart HF.out hlt)
            go_upto_region 22 with (go_at_call 17; refine (Hp.out _).mono ?_; rintro e w4 ⟨n, rfl, hnq, b4⟩; have hy2 := ((hbr.trans (b4.mono hbr.size)).cell (p := ⟨g, o + k, none⟩) hg).trans (HG.out k hlt); replace hbr := hbr.trans (b4.mono hbr.size))
            rw [← hnq.out] at hsb hqb
            have d1 : decide (shareAt T xs k < n) = false := decide_eq_false (by omega)
            have d2 : decide (n + 1 < shareAt T xs k) = false := decide_eq_false (by omega)
            clear hx hy hsb
            go_wp2
            go_roundw
            case rel => exact ⟨k + 1, by go_num, by omega, hbr⟩
            case measure => simp [intOf]; omega
          | false =>
            have Hp : Hid (∀ w, Calls Try.prog 17 #[.int .i64 T, .int .i64 (numAt xs k), .int .i64 (wholeN xs)] w fun e w' => ∃ n : Int, e = .returned (.tuple #[.int .i64 n, .int .i64 0]) ∧ Hid (n = quoAt T xs k) ∧ Below w.heap.size w w') := Lib.hid (by
              have h1 : weighs xs k = numAt xs k := by unfold weighs; rw [if_neg fun h => by have := Hz.out.2 h; cases this]
              rw [← h1]; exact spart HF.out hlt)
            go_upto_region 22 with (go_at_call 17; refine (Hp.out _).mono ?_; rintro e w4 ⟨n, rfl, hnq, b4⟩; have hy2 := ((hbr.trans (b4.mono hbr.size)).cell (p := ⟨g, o + k, none⟩) hg).trans (HG.out k hlt); replace hbr := hbr.trans (b4.mono hbr.size))
            rw [← hnq.out] at hsb hqb
            have d1 : decide (shareAt T xs k < n) = false := decide_eq_false (by omega)
            have d2 : decide (n + 1 < shareAt T xs k) = false := decide_eq_false (by omega)
            clear hx hy hsb
            go_wp2
            go_roundw
            case rel => exact ⟨k + 1, by go_num, by omega, hbr⟩
            case measure => simp [intOf]; omega
        · obtain rfl : k = xs.length := by omega
          have hb3 := hb.trans (hbr.mono hb.size)
          go_wp2_with (go_at_call 6; refine (awake_any _).mono ?_; rintro e w5 ⟨rfl, b5⟩; replace hb3 := hb3.trans (b5.mono hb3.size))
          go_ret
          exact ⟨rfl, hb3⟩

set_option maxHeartbeats 1000000 in
theorem shareAll_walk (w : World) (T : Int) (_ : (Lit.int .i64 T).wf = true) (s : Option Addr) (cap : Nat) (xs : List Int) (_ : xs.length ≤ maxLen) (ht : Ints w.heap.size w s xs) (_ : ∀ n ∈ xs, (Lit.int .i64 n).wf = true) :
    Calls Try.prog 4 #[.int .i64 T, .slice s xs.length cap] w fun e w' => e = .returned (.bool true) ∧ Below w.heap.size w w' := by
  have hb := Below.refl w.heap.size w
  by_cases he : outE T xs = 0
  · have hF := out_fine he
    rcases ht with h0 | ⟨b, off, rfl, hB, hc⟩
    · have := hF.len; rw [h0] at this; simp at this
    · exact all_some b off cap T xs w hF hB hc he
  · by_cases hl : 300 < xs.length
    · have hd : decide ((300 : Int) < (xs.length : Int)) = true := decide_eq_true (by omega)
      clear hl he
      go_enter Try.func4, Try.ntmps4
      go_wp2_with (go_at_call 6; refine (awake_any _).mono ?_; rintro e w1 ⟨rfl, b1⟩; replace hb := hb.trans (b1.mono hb.size))
      go_ret
      exact ⟨rfl, hb⟩
    · have hd : decide ((300 : Int) < (xs.length : Int)) = false := decide_eq_false (by omega)
      have hed : (outE T xs != 0) = true := by rw [bne_iff_ne]; exact he
      have HO : Hid (∀ w, Ints w.heap.size w s xs → Calls Try.prog 7 #[.int .i64 T, .slice s xs.length cap] w fun e w' => ∃ a cap', e = .returned (.tuple #[.slice a 0 cap', .int .i64 (outE T xs)]) ∧ Below w.heap.size w w') := Lib.hid (fun w h => by
        have := sout_any s cap T xs w (by omega) h
        rw [out_bad he] at this
        exact this.mono fun _ _ ⟨a, c, h1, _, h3⟩ => ⟨a, c, h1, h3⟩)
      clear hl he
      go_enter Try.func4, Try.ntmps4
      go_wp2_with (first
        | (go_at_call 7; refine (HO.out _ ht).mono ?_; rintro e w1 ⟨a1, c1, rfl, b1⟩; replace hb := hb.trans (b1.mono hb.size))
        | (go_at_call 6; refine (awake_any _).mono ?_; rintro e w2 ⟨rfl, b2⟩; replace hb := hb.trans (b2.mono hb.size)))
      go_ret
      exact ⟨rfl, hb⟩
end Go.Proofs.Ytmdonhkdkapjpaa
