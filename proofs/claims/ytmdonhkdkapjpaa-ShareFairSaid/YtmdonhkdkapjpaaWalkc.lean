/- The walk of the law ShareFair: it returns true in every world and leaves what lay there. -/
import Derived.Test.YtmdonhkdkapjpaaWalkb
namespace Go.Proofs.Ytmdonhkdkapjpaa
open Go.RowKit

theorem drawn_thrice (w : World) (a b c : Nat) : ∃ m, w.drewN m = ((w.drewN a).drewN b).drewN c := ⟨a + (b + c), by rw [World.drewN_drewN, World.drewN_drewN]⟩
theorem some_more {T : Int} {ws : List Int} (h : Fine T ws) {i : Nat} (hi : i < ws.length) (h0 : 0 < numAt ws i) : total ws ≠ 0 := fun e => by
  have := (all_zero h).2 e i hi
  omega
theorem fair_num {T : Int} {ws : List Int} (h : Fine T ws) {i k : Nat} (hi : i < ws.length) (hk : k < ws.length) (hw : numAt ws k < numAt ws i) : shareAt T ws k ≤ shareAt T ws i := by
  have h0 := h.pos _ (num_mem ws k hk)
  have ht := some_more h hi (by omega)
  exact fair_more h hi (by unfold weighs; rw [if_neg ht, if_neg ht]; exact hw)
theorem fair_eq {T : Int} {ws : List Int} {i k : Nat} (hi : i < ws.length) (hik : i < k) (hw : numAt ws i = numAt ws k) : shareAt T ws k ≤ shareAt T ws i ∧ shareAt T ws i ≤ shareAt T ws k + 1 :=
  fair_same hi hik (by unfold weighs; rw [hw])
theorem fair_zero {T : Int} {ws : List Int} (h : Fine T ws) {i j : Nat} (hj : j < ws.length) (h0 : 0 < numAt ws j) (hi : numAt ws i = 0) : shareAt T ws i = 0 :=
  fair_none h (by unfold weighs; rw [if_neg (some_more h hj h0)]; exact hi)

set_option maxRecDepth 100000 in
set_option maxHeartbeats 4000000 in
theorem fair_some (b off cap : Nat) (T : Int) (xs : List Int) (w : World) (hF : Fine T xs) (hl : xs.length ≤ 100) (hB : b < w.heap.size) (hc : ∀ j, j < xs.length → w.cell? ⟨b, off + j, none⟩ = some (.int .i64 (numAt xs j))) (he : outE T xs = 0) :
    Calls Try.prog 5 #[.int .i64 T, .slice (some ⟨b, off, none⟩) xs.length cap] w fun e w' => e = .returned (.bool true) ∧ Below w.heap.size w w' := by
  have hb := Below.refl w.heap.size w
  have ht : Ints w.heap.size w (some ⟨b, off, none⟩) xs := Or.inr ⟨b, off, rfl, hB, hc⟩
  have hn1 := hF.len
  have hn : xs.length ≤ 4611686018427387904 := by omega
  have hd : decide ((100 : Int) < (xs.length : Int)) = false := decide_eq_false (by omega)
  have hol := out_len hF
  have HF := Lib.hid hF
  have HO : Hid (∀ w, Ints w.heap.size w (some ⟨b, off, none⟩) xs → Calls Try.prog 7 #[.int .i64 T, .slice (some ⟨b, off, none⟩) xs.length cap] w fun e w' => ∃ a cap', e = .returned (.tuple #[.slice a xs.length cap', .int .i64 0]) ∧ Ints w'.heap.size w' a (outL T xs) ∧ Below w.heap.size w w') := Lib.hid (fun w h => by
    have := sout_any (some ⟨b, off, none⟩) cap T xs w hn h
    rw [he, hol] at this
    exact this)
  have Hol := Lib.hid hol
  clear hF hol he hc
  go_enter Try.func5, Try.ntmps5
  go_upto_region 6 with (go_at_call 7; refine (HO.out _ ht).mono ?_; rintro e w1 ⟨a1, c1, rfl, k1, b1⟩; replace hb := hb.trans (b1.mono hb.size); replace ht := ht.step b1)
  rcases ht with h0 | ⟨b0, o0, hbo, hB0, hc0⟩
  · rw [h0] at hn1; simp at hn1
  obtain ⟨rfl, rfl⟩ : b = b0 ∧ off = o0 := by simpa using hbo
  rcases k1 with h0 | ⟨g, o, rfl, hg, hcg⟩
  · have := Hol.out; rw [h0] at this; simp at this; omega
  have HC := Lib.hid hc0
  have HG : Hid (∀ j, j < xs.length → w1.cell? ⟨g, o + j, none⟩ = some (.int .i64 (shareAt T xs j))) := Lib.hid (fun j hj => by
    rw [hcg j (by rw [Hol.out]; exact hj), out_at HF.out hj])
  clear hc0 hcg hbo
  go_wp2
  go_loop [7, 8] (fun v i => ∃ (k : Nat) (z : Bool), i = .int .i64 k ∧ k ≤ xs.length ∧ v = .bool z ∧ Hid (z = true → ∃ j, j < xs.length ∧ 0 < numAt xs j)) (fun _ i => xs.length - (intOf i).toNat)
  case atStart => exact ⟨0, false, rfl, by omega, rfl, Lib.hid fun h => (by cases h)⟩
  case round =>
    obtain ⟨k, z, rfl, hk, rfl, hz⟩ := hrel
    by_cases hlt : k < xs.length
    · have hx := HC.out k hlt
      cases z with
      | true =>
        go_wp2
        go_round
        case rel => exact ⟨k + 1, true, by go_num, by omega, rfl, hz⟩
        case measure => simp [intOf]; omega
      | false =>
        by_cases h0 : 0 < numAt xs k
        · have hd0 : decide (0 < numAt xs k) = true := decide_eq_true h0
          have Hz : Hid (true = true → ∃ j, j < xs.length ∧ 0 < numAt xs j) := Lib.hid fun _ => ⟨k, hlt, h0⟩
          clear h0
          go_wp2
          go_round
          case rel => exact ⟨k + 1, true, by go_num, by omega, rfl, Hz⟩
          case measure => simp [intOf]; omega
        · have hd0 : decide (0 < numAt xs k) = false := decide_eq_false h0
          clear h0
          go_wp2
          go_round
          case rel => exact ⟨k + 1, false, by go_num, by omega, rfl, hz⟩
          case measure => simp [intOf]; omega
    · obtain rfl : k = xs.length := by omega
      have hzero : Hid (∀ i, z = true → numAt xs i = 0 → shareAt T xs i = 0) := Lib.hid (fun i h h0 => by
        obtain ⟨j, hj, hp⟩ := hz.out h
        exact fair_zero HF.out hj hp h0)
      go_wp2
      go_loopw [9, 10, 11, 12] (fun i _ _ _ wr => ∃ k m : Nat, i = .int .i64 k ∧ k ≤ xs.length ∧ wr = w1.drewN m) (fun i _ _ _ _ => xs.length - (intOf i).toNat)
      case atStart => exact ⟨0, 0, rfl, by omega, rfl⟩
      case round =>
        obtain ⟨k, m, rfl, hk, rfl⟩ := hrel
        by_cases hlt : k < xs.length
        · have hx := HC.out k hlt
          have hy := HG.out k hlt
          have hcond : Hid (z = true → numAt xs k = 0 → (shareAt T xs k != 0) = false) := Lib.hid (fun h1 h2 => by rw [hzero.out k h1 h2]; rfl)
          have i1 : (k : Int) < (xs.length : Int) := by omega
          have i3 : (0 : Int) ≤ (k : Int) := by omega
          go_upto_region 16 with fail
          go_cut [65] (fun v wx => w1.drewN m = wx ∧ v = .bool false)
          case first =>
            cases z with
            | false =>
              go_wp2_with fail
              go_meet
              exact ⟨rfl, rfl⟩
            | true =>
              by_cases h0 : numAt xs k = 0
              · have d1 : (numAt xs k == 0) = true := by rw [h0]; rfl
                have d2 := hcond.out rfl h0
                clear h0
                go_wp2_with fail
                go_meet
                exact ⟨rfl, rfl⟩
              · have d1 : (numAt xs k == 0) = false := by rw [beq_eq_false_iff_ne]; exact h0
                clear h0
                go_wp2_with fail
                go_meet
                exact ⟨rfl, rfl⟩
          case rest =>
            obtain ⟨rfl, rfl⟩ := hcut
            go_wp2
            go_loopw [10, 11, 12] (fun i _ _ wr => ∃ j m : Nat, i = .int .i64 j ∧ k + 1 ≤ j ∧ j ≤ xs.length ∧ wr = w1.drewN m) (fun i _ _ _ => xs.length - (intOf i).toNat)
            case atStart => exact ⟨k + 1, m, by go_num, by omega, by omega, rfl⟩
            case round =>
              obtain ⟨j, m2, rfl, hkj, hj, rfl⟩ := hrel
              by_cases hjl : j < xs.length
              · have hx2 := HC.out j hjl
                have hy2 := HG.out j hjl
                have j1 : (j : Int) < (xs.length : Int) := by omega
                have j3 : (0 : Int) ≤ (j : Int) := by omega
                have hgt := fair_num HF.out hlt hjl
                have hls := fair_num HF.out hjl hlt
                have heq := fair_eq (T := T) hlt (show k < j by omega)
                have Hgt := Lib.hid hgt
                have Hls := Lib.hid hls
                have Heq := Lib.hid heq
                clear hgt hls heq
                go_upto_region 21 with fail
                go_quiet (fail)
                go_upto_region 22 with fail
                go_cut [133] (fun v wx => (∃ m3, w1.drewN m3 = wx) ∧ v = .bool false)
                case first =>
                  rcases (by omega : numAt xs j < numAt xs k ∨ numAt xs k < numAt xs j ∨ numAt xs k = numAt xs j) with h | h | h
                  · have d1 : decide (numAt xs j < numAt xs k) = true := decide_eq_true h
                    have d2 : decide (shareAt T xs k < shareAt T xs j) = false := decide_eq_false (by have := Hgt.out h; omega)
                    have d3 : decide (numAt xs k < numAt xs j) = false := decide_eq_false (by omega)
                    have d4 : (numAt xs k == numAt xs j) = false := by rw [beq_eq_false_iff_ne]; omega
                    clear h
                    go_quiet (fail)
                    go_wp2
                    go_meet
                    exact ⟨drawn_thrice _ _ _ _, rfl⟩
                  · have d1 : decide (numAt xs j < numAt xs k) = false := decide_eq_false (by omega)
                    have d3 : decide (numAt xs k < numAt xs j) = true := decide_eq_true h
                    have d2 : decide (shareAt T xs j < shareAt T xs k) = false := decide_eq_false (by have := Hls.out h; omega)
                    have d4 : (numAt xs k == numAt xs j) = false := by rw [beq_eq_false_iff_ne]; omega
                    clear h
                    go_quiet (fail)
                    go_wp2
                    go_meet
                    exact ⟨drawn_thrice _ _ _ _, rfl⟩
                  · have d1 : decide (numAt xs j < numAt xs k) = false := decide_eq_false (by omega)
                    have d3 : decide (numAt xs k < numAt xs j) = false := decide_eq_false (by omega)
                    have d4 : (numAt xs k == numAt xs j) = true := by rw [beq_iff_eq]; exact h
                    have ⟨e1, e2⟩ := Heq.out h
                    have d5 : decide (shareAt T xs k < shareAt T xs j) = false := decide_eq_false (by omega)
                    have d6 : decide (shareAt T xs j + 1 < shareAt T xs k) = false := decide_eq_false (by omega)
                    have sb := share_bd T xs j
                    have qb := quo_at HF.out hjl
                    have tb := HF.out.t1
                    have f1 : 0 ≤ shareAt T xs j := by omega
                    have f2 : shareAt T xs j ≤ 1000000000001 := by omega
                    have wq : IntKind.i64.wrap (shareAt T xs j + 1) = shareAt T xs j + 1 := IntWalk.i64_in _ (by omega)
                    clear h e1 e2 sb qb tb
                    go_quiet (fail)
                    go_wp2
                    go_meet
                    exact ⟨drawn_thrice _ _ _ _, rfl⟩
                case rest =>
                  obtain ⟨⟨m3, rfl⟩, rfl⟩ := hcut
                  go_wp2
                  go_roundw
                  case rel => exact ⟨j + 1, m3, by go_num, by omega, by omega, rfl⟩
                  case measure => simp [intOf]; omega
              · obtain rfl : j = xs.length := by omega
                go_wp2
                go_roundw
                case rel => exact ⟨k + 1, m2, by go_num, by omega, rfl⟩
                case measure => simp [intOf]; omega
        · obtain rfl : k = xs.length := by omega
          have hb3 := drawn_below hb m
          go_wp2_with (go_at_call 6; refine (awake_any _).mono ?_; rintro e w5 ⟨rfl, b5⟩; replace hb3 := hb3.trans (b5.mono hb3.size))
          go_ret
          exact ⟨rfl, hb3⟩

set_option maxHeartbeats 1000000 in
theorem shareFair_walk (w : World) (T : Int) (_ : (Lit.int .i64 T).wf = true) (s : Option Addr) (cap : Nat) (xs : List Int) (_ : xs.length ≤ maxLen) (ht : Ints w.heap.size w s xs) (_ : ∀ n ∈ xs, (Lit.int .i64 n).wf = true) :
    Calls Try.prog 5 #[.int .i64 T, .slice s xs.length cap] w fun e w' => e = .returned (.bool true) ∧ Below w.heap.size w w' := by
  have hb := Below.refl w.heap.size w
  by_cases hl : 100 < xs.length
  · have hd : decide ((100 : Int) < (xs.length : Int)) = true := decide_eq_true (by omega)
    clear hl
    go_enter Try.func5, Try.ntmps5
    go_wp2_with (go_at_call 6; refine (awake_any _).mono ?_; rintro e w1 ⟨rfl, b1⟩; replace hb := hb.trans (b1.mono hb.size))
    go_ret
    exact ⟨rfl, hb⟩
  · by_cases he : outE T xs = 0
    · have hF := out_fine he
      rcases ht with h0 | ⟨b, off, rfl, hB, hc⟩
      · have := hF.len; rw [h0] at this; simp at this
      · exact fair_some b off cap T xs w hF (by omega) hB hc he
    · have hd : decide ((100 : Int) < (xs.length : Int)) = false := decide_eq_false (by omega)
      have hed : (outE T xs != 0) = true := by rw [bne_iff_ne]; exact he
      have HO : Hid (∀ w, Ints w.heap.size w s xs → Calls Try.prog 7 #[.int .i64 T, .slice s xs.length cap] w fun e w' => ∃ v, e = .returned (.tuple #[v, .int .i64 (outE T xs)]) ∧ Below w.heap.size w w') := Lib.hid (fun w h => by
        have := sout_any s cap T xs w (by omega) h
        exact this.mono fun _ _ ⟨a, c, h1, _, h3⟩ => ⟨_, h1, h3⟩)
      clear hl he
      go_enter Try.func5, Try.ntmps5
      go_wp2_with (first
        | (go_at_call 7; refine (HO.out _ ht).mono ?_; rintro e w1 ⟨v, rfl, b1⟩; replace hb := hb.trans (b1.mono hb.size))
        | (go_at_call 6; refine (awake_any _).mono ?_; rintro e w2 ⟨rfl, b2⟩; replace hb := hb.trans (b2.mono hb.size)))
      go_ret
      exact ⟨rfl, hb⟩
end Go.Proofs.Ytmdonhkdkapjpaa
