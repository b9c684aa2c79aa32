/- Whether two rows of numbers are the same, and the document's own Whole, for every row of numbers and in every world. -/
import Derived.Test.YtmdonhkdkapjpaaPart
import Derived.Test.YtmdonhkdkapjpaaDiv
import Derived.Deep.QuietTactic
import Derived.BigQuiet
import Derived.Deep.CutBlock
import Derived.Lib.SmallJoins
namespace Go.Proofs.Ytmdonhkdkapjpaa
open Go.RowKit

theorem drawn_below {B : Nat} {a w : World} (h : Below B a w) (n : Nat) : Below B a (w.drewN n) := ⟨h.os, h.tape, h.output, h.size, h.block⟩
theorem num_ext {xs ys : List Int} (h : xs.length = ys.length) (h2 : ∀ i, i < xs.length → numAt xs i = numAt ys i) : xs = ys := by
  refine List.ext_getElem h fun i h1 h3 => ?_
  have := h2 i h1
  unfold numAt at this
  rw [List.getD_eq_getElem?_getD, List.getD_eq_getElem?_getD, List.getElem?_eq_getElem h1, List.getElem?_eq_getElem h3] at this
  exact this

theorem same_apart (a b : Option Addr) (cap cap' : Nat) (xs ys : List Int) (w : World) (hl : xs.length ≠ ys.length) :
    Calls Try.prog 15 #[.slice a xs.length cap, .slice b ys.length cap'] w fun e w' => e = .returned (.bool (decide (xs = ys))) ∧ Below w.heap.size w w' := by
  have He : Hid (decide (xs = ys) = false) := Lib.hid (decide_eq_false fun h => hl (by rw [h]))
  have hd : ((xs.length : Int) != (ys.length : Int)) = true := by rw [bne_iff_ne]; omega
  clear hl
  go_enter Try.func15, Try.ntmps15
  go_wp2
  go_ret
  exact ⟨by rw [He.out]; rfl, Below.refl _ _⟩
theorem same_none (a b : Option Addr) (cap cap' : Nat) (w : World) :
    Calls Try.prog 15 #[.slice a 0 cap, .slice b 0 cap'] w fun e w' => e = .returned (.bool true) ∧ Below w.heap.size w w' := by
  go_enter Try.func15, Try.ntmps15
  go_wp2
  go_loop [5] (fun i => i = .int .i64 0) (fun _ => 0)
  case atStart => rfl
  case round =>
    obtain rfl := hrel
    go_wp2
    go_ret
    exact ⟨rfl, Below.refl _ _⟩
set_option maxHeartbeats 1000000 in
theorem same_some (b off b' off' cap cap' : Nat) (xs ys : List Int) (w : World) (hn : xs.length ≤ 4611686018427387904) (hl : xs.length = ys.length)
    (hc : ∀ j, j < xs.length → w.cell? ⟨b, off + j, none⟩ = some (.int .i64 (numAt xs j))) (hc' : ∀ j, j < ys.length → w.cell? ⟨b', off' + j, none⟩ = some (.int .i64 (numAt ys j))) :
    Calls Try.prog 15 #[.slice (some ⟨b, off, none⟩) xs.length cap, .slice (some ⟨b', off', none⟩) ys.length cap'] w fun e w' => e = .returned (.bool (decide (xs = ys))) ∧ Below w.heap.size w w' := by
  have HC := Lib.hid hc
  have HC' := Lib.hid hc'
  have hd : ((xs.length : Int) != (ys.length : Int)) = false := by rw [hl]; simp
  clear hc hc'
  go_enter Try.func15, Try.ntmps15
  go_wp2
  go_loopw [5] (fun i wr => ∃ k m : Nat, i = .int .i64 k ∧ wr = w.drewN m ∧ k ≤ xs.length ∧ Hid (∀ j, j < k → numAt xs j = numAt ys j)) (fun i _ => xs.length - (intOf i).toNat)
  case atStart => exact ⟨0, 0, rfl, rfl, by omega, Lib.hid (fun j h => absurd h (by omega))⟩
  case round =>
    obtain ⟨k, m, rfl, rfl, hk, hs⟩ := hrel
    by_cases hlt : k < xs.length
    · have hx := HC.out k hlt
      have hy := HC'.out k (by omega)
      have i1 : (k : Int) < (xs.length : Int) := by omega
      have i2 : (k : Int) < (ys.length : Int) := by omega
      have i3 : (0 : Int) ≤ (k : Int) := by omega
      by_cases he : numAt xs k = numAt ys k
      · have hd2 : (numAt xs k != numAt ys k) = false := by rw [he]; simp
        have Hn : Hid (∀ j, j < k + 1 → numAt xs j = numAt ys j) := Lib.hid (fun j h => by
          rcases (by omega : j < k ∨ j = k) with h1 | h1
          · exact hs.out j h1
          · rw [h1]; exact he)
        clear he
        go_upto_region 6 with fail
        go_quiet (fail)
        go_wp2
        go_roundw
        case rel => exact ⟨k + 1, _, by go_num, rfl, by omega, Hn⟩
        case measure => simp [intOf]; omega
      · have hd2 : (numAt xs k != numAt ys k) = true := by rw [bne_iff_ne]; exact he
        have He : Hid (decide (xs = ys) = false) := Lib.hid (decide_eq_false fun h => he (by rw [h]))
        clear he
        go_upto_region 6 with fail
        go_quiet (fail)
        go_wp2
        go_ret
        exact ⟨by rw [He.out]; rfl, drawn_below (drawn_below (Below.refl _ _) _) _⟩
    · have He : Hid (decide (xs = ys) = true) := Lib.hid (decide_eq_true (num_ext hl fun i hi => hs.out i (by omega)))
      obtain rfl : k = xs.length := by omega
      go_wp2
      go_ret
      exact ⟨by rw [He.out]; rfl, drawn_below (Below.refl _ _) _⟩
theorem same_any (a b : Option Addr) (cap cap' : Nat) (xs ys : List Int) (w : World) (hn : xs.length ≤ 4611686018427387904) (hx : Ints w.heap.size w a xs) (hy : Ints w.heap.size w b ys) :
    Calls Try.prog 15 #[.slice a xs.length cap, .slice b ys.length cap'] w fun e w' => e = .returned (.bool (decide (xs = ys))) ∧ Below w.heap.size w w' := by
  by_cases hl : xs.length = ys.length
  · rcases hx with rfl | ⟨b1, o1, rfl, _, hc⟩
    · have : ys = [] := List.length_eq_zero_iff.1 hl.symm
      subst this
      exact same_none a b cap cap' w
    · rcases hy with rfl | ⟨b2, o2, rfl, _, hc'⟩
      · have : xs = [] := List.length_eq_zero_iff.1 hl
        subst this
        exact same_none _ b cap cap' w
      · exact same_some b1 o1 b2 o2 cap cap' xs ys w hn hl hc hc'
  · exact same_apart a b cap cap' xs ys w hl

/-! The document's Whole. -/
theorem whole_arg {ws : List Int} (h : ws.length = 0 ∨ 200 < ws.length) : wholeV ws = 0 ∧ wholeE ws = 2 := by
  have : wholeE ws = 2 := by unfold wholeE; rw [if_pos h]
  unfold wholeV; rw [this]; exact ⟨rfl, rfl⟩
theorem whole_eight {ws : List Int} (h1 : 1 ≤ ws.length) (h2 : ws.length ≤ 200) (h : ¬ ((∀ x ∈ ws, 0 ≤ x) ∧ total ws ≤ 1000000000000)) : wholeV ws = 0 ∧ wholeE ws = 8 := by
  have : wholeE ws = 8 := by unfold wholeE; rw [if_neg (by omega), if_neg h]
  unfold wholeV; rw [this]; exact ⟨rfl, rfl⟩
theorem whole_good {ws : List Int} (h1 : 1 ≤ ws.length) (h2 : ws.length ≤ 200) (h : (∀ x ∈ ws, 0 ≤ x) ∧ total ws ≤ 1000000000000) : wholeV ws = wholeN ws ∧ wholeE ws = 0 := by
  have : wholeE ws = 0 := by unfold wholeE; rw [if_neg (by omega), if_pos h]
  unfold wholeV; rw [this]; exact ⟨rfl, rfl⟩
theorem mem_num {ws : List Int} (h : ∀ j, j < ws.length → 0 ≤ numAt ws j) : ∀ x ∈ ws, 0 ≤ x := by
  intro x hx
  obtain ⟨j, hj, rfl⟩ := List.getElem_of_mem hx
  have := h j hj
  unfold numAt at this
  rw [List.getD_eq_getElem?_getD, List.getElem?_eq_getElem hj] at this
  exact this

set_option maxHeartbeats 1000000 in
theorem rwhole_some (b off cap : Nat) (ws : List Int) (w : World) (hc : ∀ j, j < ws.length → w.cell? ⟨b, off + j, none⟩ = some (.int .i64 (numAt ws j))) :
    Calls Try.prog 14 #[.slice (some ⟨b, off, none⟩) ws.length cap] w fun e w' => e = .returned (.tuple #[.int .i64 (wholeV ws), .int .i64 (wholeE ws)]) ∧ w = w' := by
  by_cases h0 : ws.length = 0
  · have He := Lib.hid (whole_arg (Or.inl h0))
    have hd : ((ws.length : Int) == 0) = true := by rw [h0]; rfl
    clear h0
    go_enter Try.func14, Try.ntmps14
    go_wp2
    go_ret2
    exact ⟨by rw [He.out.1, He.out.2]; rfl, rfl⟩
  · have hd : ((ws.length : Int) == 0) = false := by rw [beq_eq_false_iff_ne]; omega
    by_cases h2 : 200 < ws.length
    · have He := Lib.hid (whole_arg (Or.inr h2))
      have hd2 : decide ((200 : Int) < (ws.length : Int)) = true := decide_eq_true (by omega)
      clear h0
      go_enter Try.func14, Try.ntmps14
      go_wp2
      go_ret2
      exact ⟨by rw [He.out.1, He.out.2]; rfl, rfl⟩
    · have hd2 : decide ((200 : Int) < (ws.length : Int)) = false := decide_eq_false (by omega)
      have hl1 : 1 ≤ ws.length := by omega
      have hl2 : ws.length ≤ 200 := by omega
      have HC := Lib.hid hc
      clear h0 h2 hc
      go_enter Try.func14, Try.ntmps14
      go_wp2
      go_loop [5] (fun i => ∃ k : Nat, i = .int .i64 k ∧ k ≤ ws.length ∧ Hid (∀ j, j < k → 0 ≤ numAt ws j)) (fun i => ws.length - (intOf i).toNat)
      case atStart => exact ⟨0, rfl, by omega, Lib.hid (fun j h => absurd h (by omega))⟩
      case round =>
        obtain ⟨k, rfl, hk, hs⟩ := hrel
        by_cases hlt : k < ws.length
        · have hx := HC.out k hlt
          by_cases hneg : numAt ws k < 0
          · have He := Lib.hid (whole_eight hl1 hl2 fun h => by have := h.1 _ (num_mem ws k hlt); omega)
            go_wp2
            go_ret2
            exact ⟨by rw [He.out.1, He.out.2]; rfl, rfl⟩
          · have hp : 0 ≤ numAt ws k := by omega
            have Hn : Hid (∀ j, j < k + 1 → 0 ≤ numAt ws j) := Lib.hid (fun j h => by
              rcases (by omega : j < k ∨ j = k) with h1 | h1
              · exact hs.out j h1
              · rw [h1]; exact hp)
            clear hneg
            go_wp2
            go_round
            case rel => exact ⟨k + 1, by go_num, by omega, Hn⟩
            case measure => simp [intOf]; omega
        · have Hp : Hid (∀ x ∈ ws, 0 ≤ x) := Lib.hid (mem_num fun j h => hs.out j (by omega))
          obtain rfl : k = ws.length := by omega
          go_wp2
          go_loop [4, 6] (fun s i => ∃ k : Nat, i = .int .i64 k ∧ k ≤ ws.length ∧ ∃ n : Int, s = .int .i64 n ∧ 0 ≤ n ∧ n ≤ 1000000000000 ∧ Hid (n = total (ws.take k))) (fun _ i => ws.length - (intOf i).toNat)
          case atStart => exact ⟨0, rfl, by omega, 0, rfl, by omega, by omega, Lib.hid rfl⟩
          case round =>
            obtain ⟨k, rfl, hk, n, rfl, hn0, hn1, hn⟩ := hrel
            by_cases hlt : k < ws.length
            · have hx := HC.out k hlt
              have hp := Hp.out _ (num_mem ws k hlt)
              have ht1 := total_more ws k hlt
              have ht2 := total_take Hp.out (k + 1)
              have hn' := hn.out
              by_cases ho : 1000000000000 - n < numAt ws k
              · have He := Lib.hid (whole_eight hl1 hl2 fun h => by omega)
                clear ht1 ht2 hn'
                by_cases ho2 : 1000000000000 < numAt ws k
                · go_wp2
                  go_ret2
                  exact ⟨by rw [He.out.1, He.out.2]; rfl, rfl⟩
                · have ho3 : decide (1000000000000 < numAt ws k) = false := decide_eq_false ho2
                  clear ho2
                  go_wp2
                  go_ret2
                  exact ⟨by rw [He.out.1, He.out.2]; rfl, rfl⟩
              · have Hn : Hid (n + numAt ws k = total (ws.take (k + 1))) := Lib.hid (by omega)
                have ho3 : decide (1000000000000 < numAt ws k) = false := decide_eq_false (by omega)
                have ho4 : decide (1000000000000 - n < numAt ws k) = false := decide_eq_false ho
                have hb : n + numAt ws k ≤ 1000000000000 := by omega
                clear ht1 ht2 hn' ho
                go_wp2
                go_round
                case rel => exact ⟨k + 1, by go_num, by omega, n + numAt ws k, rfl, by omega, hb, Hn⟩
                case measure => simp [intOf]; omega
            · obtain rfl : k = ws.length := by omega
              have hn' := hn.out
              rw [List.take_length] at hn'
              obtain ⟨h1, h2⟩ := whole_good hl1 hl2 ⟨Hp.out, by omega⟩
              by_cases hz : n = 0
              · have He : Hid (wholeV ws = ws.length ∧ wholeE ws = 0) := Lib.hid ⟨by rw [h1]; unfold wholeN; rw [if_pos (by omega)], h2⟩
                have hzd : (n == 0) = true := by rw [hz]; rfl
                clear h1 h2 hn' hz
                go_wp2
                go_ret2
                exact ⟨by rw [He.out.1, He.out.2]; rfl, rfl⟩
              · have He : Hid (wholeV ws = n ∧ wholeE ws = 0) := Lib.hid ⟨by rw [h1]; unfold wholeN; rw [if_neg (by omega)]; omega, h2⟩
                have hzd : (n == 0) = false := by rw [beq_eq_false_iff_ne]; exact hz
                clear h1 h2 hn' hz
                go_wp2
                go_ret2
                exact ⟨by rw [He.out.1, He.out.2]; rfl, rfl⟩
theorem rwhole_none (a : Option Addr) (cap : Nat) (w : World) :
    Calls Try.prog 14 #[.slice a 0 cap] w fun e w' => e = .returned (.tuple #[.int .i64 (wholeV []), .int .i64 (wholeE [])]) ∧ w = w' := by
  go_enter Try.func14, Try.ntmps14
  go_wp2
  go_ret2
  exact ⟨rfl, rfl⟩
theorem rwhole_any (a : Option Addr) (cap : Nat) (ws : List Int) (w : World) (hx : Ints w.heap.size w a ws) :
    Calls Try.prog 14 #[.slice a ws.length cap] w fun e w' => e = .returned (.tuple #[.int .i64 (wholeV ws), .int .i64 (wholeE ws)]) ∧ w = w' := by
  rcases hx with rfl | ⟨b, off, rfl, _, hc⟩
  · exact rwhole_none a cap w
  · exact rwhole_some b off cap ws w hc
end Go.Proofs.Ytmdonhkdkapjpaa
