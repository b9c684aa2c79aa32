/- The document's Failed and Score: for every slice of numbers and any answers, in every world. -/
import Derived.Test.YteeaaibcdbfmfaaRq16
namespace Go.Proofs.Yteeaaibcdbfmfaa
open Go.RowKit

/-- Numbers of the call's own, under way. -/
structure Nums16 (w W : World) (a : Option Addr) (c : Nat) (ys : List Int) : Prop where
  own : W.ownsRow w.heap.size 3 1 (.slice a ys.length c) ys.length (intCells ys)
  below : Below w.heap.size w W
theorem Nums16.start (w : World) : Nums16 w w none 0 [] := ⟨World.ownsRow_nil _ _ _ _, Below.refl _ _⟩
theorem Nums16.ints {w W : World} {a : Option Addr} {c : Nat} {ys : List Int} (h : Nums16 w W a c ys) : ys.length ≤ c ∧ Ints W.heap.size W a ys := by
  refine ⟨?_, ?_⟩
  · rcases h.own.2 with ⟨_, h0⟩ | ⟨g, cap, cur, e, _, _, hc, _⟩
    · omega
    · injection e with _ _ e3
      omega
  · obtain ⟨a', c', hv, hi⟩ := ints_own h.own
    injection hv with h1 _ _
    subst h1
    exact hi
theorem append_nums {ops : Array Oper} {rest : List Oper} {o : Oper} {a : Act} {Q : Exit → Act → World → Prop} {w V : World} (hgd : o.guard = none) (s x : Operand)
    (ho : o.op = .call { callee := .builtin .append, args := #[s, x], argTypes := #[22, 22] })
    (a0 : Option Addr) (c0 : Nat) (ys : List Int) (hs : a.eval s = .slice a0 ys.length c0) (hO : Nums16 w V a0 c0 ys) (t : Int)
    (hx : a.eval x = .slice (some ⟨V.heap.size, 0, none⟩) 1 1) (hk : ys.length ≤ 1000000)
    (h : ∀ a' c' V' zs, Hid (zs = ys ++ [t]) → Nums16 w V' a' c' zs → wpList Try.prog ops Q rest (a.put o.dst (.slice a' zs.length c')) V') :
    wpList Try.prog ops Q (o :: rest) a (V.alloc (.cells #[.int .i64 t] 3)) := by
  refine append_int hgd s x ho w.heap.size ys.length _ (intCells ys) hs hO.own t hx (by omega) hO.below.size ?_
  intro v' w4 ho4 hg4
  rw [intCells_more] at ho4
  have ho5 : w4.ownsRow w.heap.size 3 1 v' (ys ++ [t]).length (intCells (ys ++ [t])) := by rw [List.length_append]; exact ho4
  obtain ⟨a', c', hv, _⟩ := ints_own ho5
  subst hv
  refine h a' c' w4 _ (Lib.hid rfl) ⟨ho5, hO.below.trans ?_⟩
  refine ((Below.refl w.heap.size V).alloc hO.below.size (.cells #[.int .i64 t] 3)).grown hg4 (by have := hO.below.size; simp; omega) fun k hk => ?_
  exact (hO.own.lt k hk).1
theorem half_next (n k : Nat) : n / 2 ^ (k + 1) = n / 2 ^ k / 2 := by rw [Nat.pow_succ, Nat.div_div_eq_div_mul]
theorem bit_half (n k : Nat) : yesN (n : Int) k = decide (n / 2 ^ k % 2 = 1) := Nat.testBit_eq_decide_div_mod_eq
theorem half_done {n k : Nat} : n / 2 ^ k = 0 ↔ n < 2 ^ k := by rw [Nat.div_eq_zero_iff]; have := Nat.two_pow_pos k; omega
set_option maxHeartbeats 1000000 in
theorem rfailed16_any (a : Option Addr) (cap : Nat) (xs : List Int) (m : Int) (w : World) (hx : Ints w.heap.size w a xs) (hn : xs.length ≤ 1000000) (hwf : (Lit.int .i64 m).wf = true) :
    Calls Try.prog 31 #[.slice a xs.length cap, .int .i64 m] w fun e w' => Gives16 w e w' (failV xs m) (failE xs m) := by
  have HF := Lib.hid (rcheck16_any a cap xs _ w hx hn)
  clear hx
  by_cases hA : ¬ Asks xs
  · rw [asks_no hA] at HF
    rw [(fail_no hA).1, (fail_no hA).2]
    clear hA
    go_enter Try.func31, Try.ntmps31
    go_wp2_with (go_at_call 25; refine HF.out.mono ?_; rintro e w2 ⟨rfl, m2, rfl⟩)
    go_ret2
    exact ⟨none, 0, rfl, Nat.le_refl _, Or.inl rfl, drawn_below (Below.refl _ _) _⟩
  have hA := Decidable.not_not.1 hA
  rw [asks_yes hA] at HF
  have h8 := hA.2.1
  by_cases hm : m < 0
  · have d1 : decide (m < 0) = true := decide_eq_true hm
    have hout : ¬ InA xs m := fun q => by have := q.1; omega
    rw [(fail_out hA hout).1, (fail_out hA hout).2]
    clear hA hm hout
    go_enter Try.func31, Try.ntmps31
    go_wp2_with (go_at_call 25; refine HF.out.mono ?_; rintro e w2 ⟨rfl, m2, rfl⟩)
    go_ret2
    exact ⟨none, 0, rfl, Nat.le_refl _, Or.inl rfl, drawn_below (Below.refl _ _) _⟩
  have d1 : decide (m < 0) = false := decide_eq_false hm
  obtain ⟨n, rfl⟩ : ∃ n : Nat, m = n := ⟨m.toNat, by omega⟩
  have HA := Lib.hid hA
  have hn63 : n < 9223372036854775808 := by
    simp [Lit.wf, IntKind.min, IntKind.max, IntKind.signed, IntKind.bits] at hwf
    omega
  clear hA hm hwf
  go_enter Try.func31, Try.ntmps31
  go_wp2_with (go_at_call 25; refine HF.out.mono ?_; rintro e w2 ⟨rfl, m2, rfl⟩)
  go_loopw [1, 6, 7] (fun s1 s6 s7 wr => ∃ (k : Nat) (q : Nat) (a8 : Option Addr) (c8 : Nat) (ys : List Int), s1 = .int .i64 (q : Nat) ∧ s6 = .slice a8 ys.length c8 ∧ s7 = .int .i64 k ∧ k ≤ xs.length ∧ Hid (q = n / 2 ^ k) ∧ Hid (Nums16 w wr a8 c8 ys) ∧ Hid (ys = noesTo n k)) (fun _ _ i _ => xs.length + 1 - (intOf i).toNat)
  case atStart => exact ⟨0, n, none, 0, [], rfl, rfl, rfl, by omega, Lib.hid (by simp), Lib.hid ⟨World.ownsRow_nil _ _ _ _, drawn_below (Below.refl _ _) _⟩, Lib.hid rfl⟩
  case round =>
    obtain ⟨k, q, a8, c8, ys, rfl, rfl, rfl, hk, HQ, HO, HY⟩ := hrel
    by_cases hlt : k < xs.length
    · have i1 : (k : Int) < (xs.length : Int) := by omega
      have i3 : (0 : Int) ≤ (k : Int) := by omega
      have hyl : ys.length ≤ 1000000 := by have := noes_len (n : Int) k; rw [← HY.out] at this; omega
      have hb := bit_half n k
      rw [← HQ.out] at hb
      have HQ2 : Hid (q / 2 = n / 2 ^ (k + 1)) := Lib.hid (by rw [half_next, HQ.out])
      have hqn : q ≤ n := by rw [HQ.out]; exact Nat.div_le_self _ _
      have e2 : wrap64 ((q : Int) / 2) = ((q / 2 : Nat) : Int) := (IntWalk.wrap64_in _ (by omega)).trans (by omega)
      by_cases he : q % 2 = 0
      · have d2 : ((q : Int) % 2 == 0) = true := by rw [beq_iff_eq]; omega
        have HN : Hid (ys ++ [(k : Int)] = noesTo n (k + 1)) := Lib.hid (by rw [noesTo, hb, if_neg (by simp; omega), HY.out])
        clear he hb
        go_wp2_with (at_builtin; refine append_nums rfl _ _ rfl a8 c8 ys rfl HO.out (k : Int) rfl hyl ?_)
        intro a7 c7 V7 ts hts' hO7
        have hts := hts'.out
        clear hts'
        have HO7 := Lib.hid hO7
        rw [← hts] at HN
        clear hO7 hts
        go_wp2
        go_roundw
        case rel => exact ⟨k + 1, q / 2, a7, c7, ts, rfl, rfl, by first | rfl | go_num, by omega, HQ2, HO7, HN⟩
        case measure => first | (simp [intOf]; omega) | simp [intOf]
      · have d2 : ((q : Int) % 2 == 0) = false := by rw [beq_eq_false_iff_ne]; omega
        have HN : Hid (ys = noesTo n (k + 1)) := Lib.hid (by rw [noesTo, hb, if_pos (by simp; omega), HY.out])
        clear he hb
        go_wp2
        go_roundw
        case rel => exact ⟨k + 1, q / 2, a8, c8, ys, rfl, rfl, by first | rfl | go_num, by omega, HQ2, HO, HN⟩
        case measure => first | (simp [intOf]; omega) | simp [intOf]
    · obtain rfl : k = xs.length := by omega
      by_cases hq : q = 0
      · have hin : InA xs (n : Int) := ⟨by omega, by have := half_done.1 (hq ▸ HQ.out).symm; omega⟩
        have HV := Lib.hid (fail_yes HA.out hin)
        have d3 : decide ((0 : Int) < (q : Int)) = false := decide_eq_false (by omega)
        have d3' : decide (0 < q) = false := decide_eq_false (by omega)
        clear hq hin
        go_wp2
        go_ret2
        rw [HV.out.1, HV.out.2, ← HY.out]
        exact ⟨a8, c8, rfl, HO.out.ints.1, HO.out.ints.2, HO.out.below⟩
      · have hin : ¬ InA xs (n : Int) := fun z => hq (by rw [HQ.out]; exact half_done.2 (by have := z.2; omega))
        have HV := Lib.hid (fail_out HA.out hin)
        have d3 : decide ((0 : Int) < (q : Int)) = true := decide_eq_true (by omega)
        have d3' : decide (0 < q) = true := decide_eq_true (by omega)
        clear hq hin
        go_wp2
        go_ret2
        rw [HV.out.1, HV.out.2]
        exact ⟨none, 0, rfl, Nat.le_refl _, Or.inl rfl, HO.out.below⟩
end Go.Proofs.Yteeaaibcdbfmfaa
