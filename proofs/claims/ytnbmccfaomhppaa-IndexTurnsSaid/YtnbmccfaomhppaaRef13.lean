/- The document's own lists with one more, another one, one less, and their last ones: for every list of texts, in every world. -/
import Derived.Test.YtnbmccfaomhppaaRow13
import Derived.Test.YtnbmccfaomhppaaRw13
namespace Go.Proofs.Ytnbmccfaomhppaa
open Go.RowKit

theorem rowAt_get (xs : List (List UInt8)) (k : Nat) (h : k < xs.length) : xs[k]? = some (rowAt xs k) := by
  unfold rowAt
  rw [List.getElem?_eq_getElem h, List.getD_eq_getElem?_getD, List.getElem?_eq_getElem h]
  rfl
/-- A list of texts of the call's own, under way. -/
structure Out13 (w W : World) (a : Option Addr) (c : Nat) (ys : List (List UInt8)) : Prop where
  own : W.ownsRow w.heap.size 9 1 (.slice a ys.length c) ys.length (txCells ys)
  below : Below w.heap.size w W
theorem Out13.start (w : World) : Out13 w w none 0 [] := ⟨World.ownsRow_nil _ _ _ _, Below.refl _ _⟩
/-- What a call of such a list tells. -/
def Tells13 (w : World) (e : Ending) (w' : World) (ys : List (List UInt8)) : Prop :=
  ∃ a c, e = .returned (.slice a ys.length c) ∧ ys.length ≤ c ∧ Txs w.heap.size w'.heap.size w' a ys ∧ Below w.heap.size w w'
def Gives13 (w : World) (e : Ending) (w' : World) (ys : List (List UInt8)) (E : Int) : Prop :=
  ∃ a c, e = .returned (.tuple #[.slice a ys.length c, .int .i64 E]) ∧ ys.length ≤ c ∧ Txs w.heap.size w'.heap.size w' a ys ∧ Below w.heap.size w w'
theorem Out13.txs {w W : World} {a : Option Addr} {c : Nat} {ys : List (List UInt8)} (h : Out13 w W a c ys) : ys.length ≤ c ∧ Txs w.heap.size W.heap.size W a ys := by
  obtain ⟨a', c', hv, hc, ht⟩ := txs_own h.own
  injection hv with h1 _ h3
  subst h1 h3
  exact ⟨hc, ht⟩
theorem append_out {ops : Array Oper} {rest : List Oper} {o : Oper} {a : Act} {Q : Exit → Act → World → Prop} {w V : World} (hgd : o.guard = none) (s x : Operand)
    (ho : o.op = .call { callee := .builtin .append, args := #[s, x], argTypes := #[22, 22] })
    (a0 : Option Addr) (c0 : Nat) (ys : List (List UInt8)) (hs : a.eval s = .slice a0 ys.length c0) (hO : Out13 w V a0 c0 ys) (t : List UInt8)
    (g : Nat) (hx : a.eval x = .slice (some ⟨g, 0, none⟩) 1 1) (hg : g = V.heap.size) (hk : ys.length ≤ 1000000)
    (h : ∀ a' c' V' zs, Hid (zs = ys ++ [t]) → Out13 w V' a' c' zs → wpList Try.prog ops Q rest (a.put o.dst (.slice a' zs.length c')) V') :
    wpList Try.prog ops Q (o :: rest) a (V.alloc (.cells #[.string (tx t)] 9)) := by
  refine append_tx hgd s x ho w.heap.size ys.length _ (txCells ys) hs hO.own (tx t) g hx hg (by omega) hO.below.size ?_
  intro v' w4 ho4 hg4
  rw [txCells_more] at ho4
  have ho5 : w4.ownsRow w.heap.size 9 1 v' (ys ++ [t]).length (txCells (ys ++ [t])) := by rw [List.length_append]; exact ho4
  obtain ⟨a', c', hv, _, _⟩ := txs_own ho5
  subst hv
  refine h a' c' w4 _ (Lib.hid rfl) ⟨ho5, hO.below.trans ?_⟩
  refine ((Below.refl w.heap.size V).alloc hO.below.size (.cells #[.string (tx t)] 9)).grown hg4 (by have := hO.below.size; simp; omega) fun k hk => ?_
  exact (hO.own.lt k hk).1
theorem txCells_append (xs ys : List (List UInt8)) : txCells xs ++ txCells ys = txCells (xs ++ ys) := by unfold txCells; simp
theorem txCells_set (xs : List (List UInt8)) (k : Nat) (v : List UInt8) : (txCells xs).set k (.string (tx v)) = txCells (xs.set k v) := by unfold txCells; rw [List.map_set]
theorem txCells_one (xs : List (List UInt8)) : ∀ u ∈ txCells xs, u.oneCell' = true := by
  unfold txCells
  intro u hu
  obtain ⟨x, _, rfl⟩ := List.mem_map.1 hu
  rfl
/-- Texts appended to an empty literal of texts. -/
theorem append_all {ops : Array Oper} {rest : List Oper} {o : Oper} {a : Act} {Q : Exit → Act → World → Prop} {w : World} (hgd : o.guard = none) (s x : Operand)
    (ho : o.op = .call { callee := .builtin .append, args := #[s, x], argTypes := #[22, 22] })
    (g : Nat) (hs : a.eval s = .slice (some ⟨g, 0, none⟩) 0 0) (hg : g = w.heap.size) (a0 : Option Addr) (c0 A B : Nat) (xs : List (List UInt8)) (hx : a.eval x = .slice a0 xs.length c0) (hT : Txs A B w a0 xs) (hB : B ≤ w.heap.size) (hn : xs.length ≤ 100000)
    (h : ∀ g' c' V', Hid (Out13 w V' g' c' xs) → wpList Try.prog ops Q rest (a.put o.dst (.slice g' xs.length c')) V') :
    wpList Try.prog ops Q (o :: rest) a (w.alloc (.cells #[] 9)) := by
  subst hg
  refine append_rw hgd s x (t := 22) (e := 9) Try.underlying22 infoTx rfl ho w.heap.size 0 _ [] (txCells xs) hs (World.ownsRow_made w #[] 0 (Nat.le_refl _) (by unfold maxLen; omega) rfl) a0 xs.length c0 A B hx (txCells_len xs) (txs_rw.1 (hT.below ((Below.refl B w).alloc hB _))) (txCells_one xs) (by omega) (by decide) (by simp) ?_
  intro v' w' ho' hg'
  rw [List.nil_append, Nat.zero_add] at ho'
  obtain ⟨g', c', rfl, _, _, _⟩ := rw_own ho'
  refine h g' c' w' (Lib.hid ⟨ho', ?_⟩)
  refine ((Below.refl w.heap.size w).alloc (Nat.le_refl _) _).grown hg' (by simp) fun k hk => ?_
  simp [Value.ownBlock] at hk
  omega
end Go.Proofs.Ytnbmccfaomhppaa
