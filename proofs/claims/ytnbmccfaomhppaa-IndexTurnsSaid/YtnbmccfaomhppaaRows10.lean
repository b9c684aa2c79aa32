/- Rows of texts of the call's own, said by their lists of bytes: appended to, read, cut short, and two of them compared by the document's own SameTexts. -/
import Derived.Test.YtnbmccfaomhppaaMCells
import Derived.Test.YtnbmccfaomhppaaMInts
import Derived.Deep.QuietTactic
import Derived.BigQuiet
namespace Go.Proofs.Ytnbmccfaomhppaa
open Go.RowKit

def tx (l : List UInt8) : ByteArray := ⟨l.toArray⟩
theorem tx_list (l : List UInt8) : (tx l).data.toList = l := by unfold tx; simp
theorem tx_of {t : ByteArray} {l : List UInt8} (h : t.data.toList = l) : t = tx l := text_eq (h.trans (tx_list l).symm)
theorem tx_size (l : List UInt8) : (tx l).size = l.length := by rw [← text_size, tx_list]
def rowAt (xs : List (List UInt8)) (j : Nat) : List UInt8 := xs.getD j []
def txCells (xs : List (List UInt8)) : List Value := xs.map fun x => .string (tx x)
theorem infoTx : (Try.prog.info? 9).map (fun i => (i.zero, i.size, i.bytes)) = some (some (.string ⟨#[]⟩), 1, 16) := by kernel_rfl
theorem txCells_at (l : List (List UInt8)) (j : Nat) (hj : j < l.length) : (txCells l)[j]? = some (.string (tx (rowAt l j))) := by
  unfold txCells rowAt
  rw [List.getElem?_map, List.getElem?_eq_getElem hj, List.getD_eq_getElem?_getD, List.getElem?_eq_getElem hj]
  rfl
theorem txCells_more (l : List (List UInt8)) (x : List UInt8) : txCells l ++ [.string (tx x)] = txCells (l ++ [x]) := by unfold txCells; simp
theorem txCells_len (l : List (List UInt8)) : (txCells l).length = l.length := by unfold txCells; simp
theorem rowAt_left (l m : List (List UInt8)) (j : Nat) (hj : j < l.length) : rowAt (l ++ m) j = rowAt l j := by
  unfold rowAt
  rw [List.getD_eq_getElem?_getD, List.getD_eq_getElem?_getD, List.getElem?_append_left hj]
theorem rowAt_last (l : List (List UInt8)) (x : List UInt8) : rowAt (l ++ [x]) l.length = x := by
  unfold rowAt
  rw [List.getD_eq_getElem?_getD, List.getElem?_append_right (Nat.le_refl _), Nat.sub_self]
  rfl
/-- Appending one text to a row of the call's own: the literal of one text is the newest block. -/
theorem append_tx {ops : Array Oper} {rest : List Oper} {o : Oper} {a : Act} {Q : Exit → Act → World → Prop} {w : World} (hgd : o.guard = none) (s x : Operand)
    (ho : o.op = .call { callee := .builtin .append, args := #[s, x], argTypes := #[22, 22] })
    (B k : Nat) (v : Value) (xs : List Value) (hs : a.eval s = v) (hown : w.ownsRow B 9 1 v k xs) (x0 : ByteArray)
    (g : Nat) (hx : a.eval x = .slice (some ⟨g, 0, none⟩) 1 1) (hgw : g = w.heap.size) (hk : (k + 1) * 16 ≤ 140737488355328) (hB : B ≤ w.heap.size)
    (h : ∀ v' w', w'.ownsRow B 9 1 v' (k + 1) (xs ++ [.string x0]) → (w.alloc (.cells #[.string x0] 9)).grownBy w' v.ownBlock → wpList Try.prog ops Q rest (a.put o.dst v') w') :
    wpList Try.prog ops Q (o :: rest) a (w.alloc (.cells #[.string x0] 9)) := by
  subst hgw
  obtain ⟨i0, hi, hz0, hz1, hz2⟩ := info_parts infoTx
  refine wpList_append_own _ hgd s x 22 ho B 9 i0 (.string ⟨#[]⟩) 1 16 Try.underlying22 hi hz0 hz1 hz2 rfl (by decide) v k xs hs (hown.alloc _) ⟨w.heap.size, 0, none⟩ 1 1 [.string x0] hx rfl ?_ ?_ (by unfold maxLen; omega) (by omega) (by simp; omega) fun v' w' h1 h2 _ => h v' w' h1 h2
  · intro j u hj
    match j, hj with
    | 0, hj => simp at hj; subst hj; simp [Addr.add]
  · intro u hu; simp at hu; subst hu; rfl

/-- A slice of just these texts, its row lying from block A on and below block B. -/
def Txs (A B : Nat) (w : World) (a : Option Addr) (xs : List (List UInt8)) : Prop :=
  xs = [] ∨ ∃ b off, a = some ⟨b, off, none⟩ ∧ A ≤ b ∧ b < B ∧ ∀ j, j < xs.length → w.cell? ⟨b, off + j, none⟩ = some (.string (tx (rowAt xs j)))
theorem Txs.below {A B : Nat} {w w' : World} {a : Option Addr} {xs : List (List UInt8)} (h : Txs A B w a xs) (hb : Below B w w') : Txs A B w' a xs := by
  rcases h with h | ⟨b, off, ha, hA, hB, hc⟩
  · exact Or.inl h
  · exact Or.inr ⟨b, off, ha, hA, hB, fun j hj => (hb.cell (p := ⟨b, off + j, none⟩) hB).trans (hc j hj)⟩
theorem Txs.wide {A A' B B' : Nat} {w : World} {a : Option Addr} {xs : List (List UInt8)} (h : Txs A B w a xs) (hA : A' ≤ A) (hB : B ≤ B') : Txs A' B' w a xs := by
  rcases h with h | ⟨b, off, ha, h1, h2, hc⟩
  · exact Or.inl h
  · exact Or.inr ⟨b, off, ha, by omega, by omega, hc⟩
theorem Txs.step {A : Nat} {w w' : World} {a : Option Addr} {xs : List (List UInt8)} (h : Txs A w.heap.size w a xs) (b : Below w.heap.size w w') : Txs A w'.heap.size w' a xs := (h.below b).wide (Nat.le_refl _) b.size
/-- The slice cut short. -/
theorem Txs.short {A B : Nat} {w : World} {a : Option Addr} {xs ys : List (List UInt8)} (h : Txs A B w a (xs ++ ys)) : Txs A B w a xs := by
  rcases h with h | ⟨b, off, ha, h1, h2, hc⟩
  · exact Or.inl (List.append_eq_nil_iff.1 h).1
  · exact Or.inr ⟨b, off, ha, h1, h2, fun j hj => by rw [hc j (by rw [List.length_append]; omega), rowAt_left _ _ _ hj]⟩
theorem txs_own {w : World} {B : Nat} {v : Value} {l : List (List UInt8)} (h : w.ownsRow B 9 1 v l.length (txCells l)) : ∃ a cap, v = .slice a l.length cap ∧ l.length ≤ cap ∧ Txs B w.heap.size w a l := by
  have h2 := h.2
  rcases h2 with ⟨rfl, h0⟩ | ⟨g, cap, cur, rfl, _, _, hcap, _⟩
  · exact ⟨none, 0, by rw [h0], by omega, Or.inl (List.length_eq_zero_iff.1 h0)⟩
  · refine ⟨_, cap, rfl, hcap, Or.inr ⟨g, 0, rfl, (h.lt g rfl).1, (h.lt g rfl).2, fun j hj => ?_⟩⟩
    have hc := h.cells (g := g) rfl j _ (txCells_at l j hj)
    rcases Nat.eq_zero_or_pos j with hj0 | hj0
    · subst hj0; simpa [Addr.add] using hc
    · simpa [Addr.add, Nat.ne_of_gt hj0] using hc
set_option maxHeartbeats 1000000 in
theorem same_txs_some (b off b' off' cap cap' : Nat) (xs : List (List UInt8)) (w : World) (hn : xs.length ≤ 1000000)
    (hc : ∀ j, j < xs.length → w.cell? ⟨b, off + j, none⟩ = some (.string (tx (rowAt xs j)))) (hc' : ∀ j, j < xs.length → w.cell? ⟨b', off' + j, none⟩ = some (.string (tx (rowAt xs j)))) :
    Calls Try.prog 16 #[.slice (some ⟨b, off, none⟩) xs.length cap, .slice (some ⟨b', off', none⟩) xs.length cap'] w fun e w' => e = .returned (.bool true) ∧ Below w.heap.size w w' := by
  have HC := Lib.hid hc
  have HC' := Lib.hid hc'
  clear hc hc'
  go_enter Try.func16, Try.ntmps16
  go_wp2
  go_loopw [5] (fun i wr => ∃ k m : Nat, i = .int .i64 k ∧ wr = w.drewN m ∧ k ≤ xs.length) (fun i _ => xs.length - (intOf i).toNat)
  case atStart => exact ⟨0, 0, rfl, rfl, by omega⟩
  case round =>
    obtain ⟨k, m, rfl, rfl, hk⟩ := hrel
    by_cases hlt : k < xs.length
    · have hx := HC.out k hlt
      have hy := HC'.out k hlt
      have i1 : (k : Int) < (xs.length : Int) := by omega
      have i3 : (0 : Int) ≤ (k : Int) := by omega
      go_upto_region 6 with fail
      go_quiet (fail)
      go_wp2
      go_roundw
      case rel => exact ⟨k + 1, _, by go_num, rfl, by omega⟩
      case measure => simp [intOf]; omega
    · obtain rfl : k = xs.length := by omega
      go_wp2
      go_ret
      exact ⟨rfl, drawn_below (Below.refl _ _) _⟩
theorem same_txs_none (a a' : Option Addr) (cap cap' : Nat) (w : World) :
    Calls Try.prog 16 #[.slice a 0 cap, .slice a' 0 cap'] w fun e w' => e = .returned (.bool true) ∧ Below w.heap.size w w' := by
  go_enter Try.func16, Try.ntmps16
  go_wp2
  go_loop [5] (fun i => i = .int .i64 0) (fun _ => 0)
  case atStart => rfl
  case round =>
    obtain rfl := hrel
    go_wp2
    go_ret
    exact ⟨rfl, Below.refl _ _⟩
theorem same_txs (a a' : Option Addr) (A A' B B' c c' : Nat) (xs : List (List UInt8)) (hn : xs.length ≤ 1000000) (v : World) (h : Txs A B v a xs) (h' : Txs A' B' v a' xs) :
    Calls Try.prog 16 #[.slice a xs.length c, .slice a' xs.length c'] v fun e w' => e = .returned (.bool true) ∧ Below v.heap.size v w' := by
  rcases h with rfl | ⟨b, off, rfl, _, _, hc⟩
  · exact same_txs_none a a' c c' v
  · rcases h' with rfl | ⟨b', off', rfl, _, _, hc'⟩
    · exact same_txs_none _ a' c c' v
    · exact same_txs_some b off b' off' c c' xs v hn hc hc'
end Go.Proofs.Ytnbmccfaomhppaa
