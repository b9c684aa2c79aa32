/- The document's Failed and Score: for every slice of numbers and any answers, in every world. -/
import Derived.Test.YtifihejogbcbgaaRq16
namespace Go.Proofs.Ytifihejogbcbgaa
open Go.RowKit

/-- Numbers of the call's own, under way. -/
structure Nums16 (w W : World) (a : Option Addr) (c : Nat) (ys : List Int) : Prop where
  own : W.ownsRow w.heap.size 3 1 (.slice a ys.length c) ys.length (intCells ys)
  below : Below w.heap.size w W
theorem Nums16.start (w : World) : Nums16 w w none 0 [] := ⟨World.ownsRow_nil _ _ _ _, Below.refl _ _⟩
theorem Nums16.ints {w W : World} {a : Option Addr} {c : Nat} {ys : List Int} (h : Nums16 w W a c ys) : ys.length ≤ c ∧ Ints W.heap.size W a ys := by
  refine ⟨?_, ?_⟩
  · rcases h.own.2 with ⟨_, h0⟩ | ⟨g, cap, cur, e, _, _, hc, _⟩
    · omega
    · injection e with _ _ e3
      omega
  · obtain ⟨a', c', hv, hi⟩ := ints_own h.own
    injection hv with h1 _ _
    subst h1
    exact hi
theorem append_nums {ops : Array Oper} {rest : List Oper} {o : Oper} {a : Act} {Q : Exit → Act → World → Prop} {w V : World} (hgd : o.guard = none) (s x : Operand)
    (ho : o.op = .call { callee := .builtin .append, args := #[s, x], argTypes := #[22, 22] })
    (a0 : Option Addr) (c0 : Nat) (ys : List Int) (hs : a.eval s = .slice a0 ys.length c0) (hO : Nums16 w V a0 c0 ys) (t : Int)
    (hx : a.eval x = .slice (some ⟨V.heap.size, 0, none⟩) 1 1) (hk : ys.length ≤ 1000000)
    (h : ∀ a' c' V' zs, Hid (zs = ys ++ [t]) → Nums16 w V' a' c' zs → wpList Try.prog ops Q rest (a.put o.dst (.slice a' zs.length c')) V') :
    wpList Try.prog ops Q (o :: rest) a (V.alloc (.cells #[.int .i64 t] 3)) := by
  refine append_int hgd s x ho w.heap.size ys.length _ (intCells ys) hs hO.own t hx (by omega) hO.below.size ?_
  intro v' w4 ho4 hg4
  rw [intCells_more] at ho4
  have ho5 : w4.ownsRow w.heap.size 3 1 v' (ys ++ [t]).length (intCells (ys ++ [t])) := by rw [List.length_append]; exact ho4
  obtain ⟨a', c', hv, _⟩ := ints_own ho5
  subst hv
  refine h a' c' w4 _ (Lib.hid rfl) ⟨ho5, hO.below.trans ?_⟩
  refine ((Below.refl w.heap.size V).alloc hO.below.size (.cells #[.int .i64 t] 3)).grown hg4 (by have := hO.below.size; simp; omega) fun k hk => ?_
  exact (hO.own.lt k hk).1
theorem half_next (n k : Nat) : n / 2 ^ (k + 1) = n / 2 ^ k / 2 := by rw [Nat.pow_succ, Nat.div_div_eq_div_mul]
theorem bit_half (n k : Nat) : yesN (n : Int) k = decide (n / 2 ^ k % 2 = 1) := Nat.testBit_eq_decide_div_mod_eq
theorem half_done {n k : Nat} : n / 2 ^ k = 0 ↔ n < 2 ^ k := by rw [Nat.div_eq_zero_iff]; have := Nat.two_pow_pos k; omega
end Go.Proofs.Ytifihejogbcbgaa
