/- Rows of texts of the call's own: appended to, and read as slices of texts; two slices of texts compared by the document's own SameTexts. -/
import Derived.Test.YtkflpkcggjpbfaaRow
import Derived.Test.YtkflpkcggjpbfaaOwn
import Derived.Test.YtkflpkcggjpbfaaCells
import Derived.Test.YtkflpkcggjpbfaaBt5
namespace Go.Proofs.Ytkflpkcggjpbfaa
open Go.RowKit

theorem infoStr : (Try.prog.info? 9).map (fun i => (i.zero, i.size, i.bytes)) = some (some (.string ⟨#[]⟩), 1, 16) := by kernel_rfl
def strCells (xs : List ByteArray) : List Value := xs.map fun x => .string x
theorem strCells_at (l : List ByteArray) (j : Nat) (hj : j < l.length) : (strCells l)[j]? = some (.string (textAt l j)) := by
  unfold strCells textAt
  rw [List.getElem?_map, List.getElem?_eq_getElem hj, List.getD_eq_getElem?_getD, List.getElem?_eq_getElem hj]
  rfl
theorem strCells_more (l : List ByteArray) (x : ByteArray) : strCells l ++ [.string x] = strCells (l ++ [x]) := by unfold strCells; simp
/-- Appending one text to a row of the call's own: the literal of one text is the newest block. -/
theorem append_str_at {ops : Array Oper} {rest : List Oper} {o : Oper} {a : Act} {Q : Exit → Act → World → Prop} {w : World} (hgd : o.guard = none) (s x : Operand)
    (ho : o.op = .call { callee := .builtin .append, args := #[s, x], argTypes := #[47, 47] })
    (B k : Nat) (v : Value) (xs : List Value) (hs : a.eval s = v) (hown : w.ownsRow B 9 1 v k xs) (x0 : ByteArray)
    (g : Nat) (hx : a.eval x = .slice (some ⟨g, 0, none⟩) 1 1) (hgw : g = w.heap.size) (hk : (k + 1) * 16 ≤ 140737488355328) (hB : B ≤ w.heap.size)
    (h : ∀ v' w', w'.ownsRow B 9 1 v' (k + 1) (xs ++ [.string x0]) → (w.alloc (.cells #[.string x0] 9)).grownBy w' v.ownBlock → wpList Try.prog ops Q rest (a.put o.dst v') w') :
    wpList Try.prog ops Q (o :: rest) a (w.alloc (.cells #[.string x0] 9)) := by
  subst hgw
  obtain ⟨i0, hi, hz0, hz1, hz2⟩ := info_parts infoStr
  refine wpList_append_own _ hgd s x 47 ho B 9 i0 (.string ⟨#[]⟩) 1 16 Try.underlying47 hi hz0 hz1 hz2 rfl (by decide) v k xs hs (hown.alloc _) ⟨w.heap.size, 0, none⟩ 1 1 [.string x0] hx rfl ?_ ?_ (by unfold maxLen; omega) (by omega) (by simp; omega) fun v' w' h1 h2 _ => h v' w' h1 h2
  · intro j u hj
    match j, hj with
    | 0, hj => simp at hj; subst hj; simp [Addr.add]
  · intro u hu; simp at hu; subst hu; rfl

/-- As Texts, the row lying from block A on. -/
def TextsNew (A B : Nat) (w : World) (a : Option Addr) (xs : List ByteArray) : Prop :=
  xs = [] ∨ ∃ b off, a = some ⟨b, off, none⟩ ∧ A ≤ b ∧ b < B ∧ ∀ j, j < xs.length → w.cell? ⟨b, off + j, none⟩ = some (.string (textAt xs j))
theorem TextsNew.texts {A B : Nat} {w : World} {a : Option Addr} {xs : List ByteArray} (h : TextsNew A B w a xs) : Texts B w a xs := by
  rcases h with h | ⟨b, off, ha, _, hB, hc⟩
  · exact Or.inl h
  · exact Or.inr ⟨b, off, ha, hB, hc⟩
theorem TextsNew.below {A B : Nat} {w w' : World} {a : Option Addr} {xs : List ByteArray} (h : TextsNew A B w a xs) (hb : Below B w w') : TextsNew A B w' a xs := by
  rcases h with h | ⟨b, off, ha, hA, hB, hc⟩
  · exact Or.inl h
  · exact Or.inr ⟨b, off, ha, hA, hB, fun j hj => (hb.cell (p := ⟨b, off + j, none⟩) hB).trans (hc j hj)⟩
theorem TextsNew.wide {A A' B B' : Nat} {w : World} {a : Option Addr} {xs : List ByteArray} (h : TextsNew A B w a xs) (hA : A' ≤ A) (hB : B ≤ B') : TextsNew A' B' w a xs := by
  rcases h with h | ⟨b, off, ha, h1, h2, hc⟩
  · exact Or.inl h
  · exact Or.inr ⟨b, off, ha, by omega, by omega, hc⟩
theorem TextsNew.step {A : Nat} {w w' : World} {a : Option Addr} {xs : List ByteArray} (h : TextsNew A w.heap.size w a xs) (b : Below w.heap.size w w') : TextsNew A w'.heap.size w' a xs := (h.below b).wide (Nat.le_refl _) b.size
theorem TextsNew.set {A : Nat} {w : World} {a : Option Addr} {xs : List ByteArray} (h : TextsNew A w.heap.size w a xs) {p : Addr} (hp : p.block < A) (u : Value) : TextsNew A (w.setCell p u).heap.size (w.setCell p u) a xs := by
  rcases h with h | ⟨b, off, ha, hA, hB, hc⟩
  · exact Or.inl h
  · refine Or.inr ⟨b, off, ha, hA, by rw [World.size_setCell]; exact hB, fun j hj => ?_⟩
    rw [World.cell?_setCell_other w p ⟨b, off + j, none⟩ u (fun e => by subst e; simp at hp; omega)]
    exact hc j hj
theorem texts_own_new {w : World} {B : Nat} {v : Value} {l : List ByteArray} (h : w.ownsRow B 9 1 v l.length (strCells l)) : ∃ a cap, v = .slice a l.length cap ∧ TextsNew B w.heap.size w a l := by
  rcases Nat.eq_zero_or_pos l.length with h0 | h0
  · have hl := List.length_eq_zero_iff.1 h0
    subst hl
    rcases Joins.ownsRow_forms h with ⟨rfl, _⟩ | ⟨g, cap, rfl⟩
    · exact ⟨none, 0, rfl, Or.inl rfl⟩
    · exact ⟨_, cap, rfl, Or.inl rfl⟩
  · obtain ⟨g, cap, rfl⟩ := Joins.ownsRow_form h h0
    refine ⟨_, cap, rfl, Or.inr ⟨g, 0, rfl, (h.lt g rfl).1, (h.lt g rfl).2, fun j hj => ?_⟩⟩
    have hc := h.cells (g := g) rfl j _ (strCells_at l j hj)
    rcases Nat.eq_zero_or_pos j with hj0 | hj0
    · subst hj0; simpa [Addr.add] using hc
    · simpa [Addr.add, Nat.ne_of_gt hj0] using hc
set_option maxHeartbeats 1000000 in
theorem same_texts_some (b off b' off' cap cap' : Nat) (xs : List ByteArray) (w : World) (hn : xs.length ≤ 1000000)
    (hc : ∀ j, j < xs.length → w.cell? ⟨b, off + j, none⟩ = some (.string (textAt xs j))) (hc' : ∀ j, j < xs.length → w.cell? ⟨b', off' + j, none⟩ = some (.string (textAt xs j))) :
    Calls Try.prog 33 #[.slice (some ⟨b, off, none⟩) xs.length cap, .slice (some ⟨b', off', none⟩) xs.length cap'] w fun e w' => e = .returned (.bool true) ∧ Below w.heap.size w w' := by
  have HC := Lib.hid hc
  have HC' := Lib.hid hc'
  clear hc hc'
  go_enter Try.func33, Try.ntmps33
  go_wp2
  go_loopw [5] (fun i wr => ∃ k m : Nat, i = .int .i64 k ∧ wr = w.drewN m ∧ k ≤ xs.length) (fun i _ => xs.length - (intOf i).toNat)
  case atStart => exact ⟨0, 0, rfl, rfl, by omega⟩
  case round =>
    obtain ⟨k, m, rfl, rfl, hk⟩ := hrel
    by_cases hlt : k < xs.length
    · have hx := HC.out k hlt
      have hy := HC'.out k hlt
      have i1 : (k : Int) < (xs.length : Int) := by omega
      have i3 : (0 : Int) ≤ (k : Int) := by omega
      go_upto_region 6 with fail
      go_quiet (fail)
      go_wp2
      go_roundw
      case rel => exact ⟨k + 1, _, by go_num, rfl, by omega⟩
      case measure => simp [intOf]; omega
    · obtain rfl : k = xs.length := by omega
      go_wp2
      go_ret
      exact ⟨rfl, drawn_below (Below.refl _ _) _⟩
theorem same_texts_none (a a' : Option Addr) (cap cap' : Nat) (w : World) :
    Calls Try.prog 33 #[.slice a 0 cap, .slice a' 0 cap'] w fun e w' => e = .returned (.bool true) ∧ Below w.heap.size w w' := by
  go_enter Try.func33, Try.ntmps33
  go_wp2
  go_loop [5] (fun i => i = .int .i64 0) (fun _ => 0)
  case atStart => rfl
  case round =>
    obtain rfl := hrel
    go_wp2
    go_ret
    exact ⟨rfl, Below.refl _ _⟩
theorem same_texts (a a' : Option Addr) (c c' : Nat) (n : List (List UInt8)) (hn : n.length ≤ 255) (v : World) (h : Texts v.heap.size v a' (n.map bt)) (h' : Texts v.heap.size v a (n.map bt)) :
    Calls Try.prog 33 #[.slice a' n.length c', .slice a n.length c] v fun e w' => e = .returned (.bool true) ∧ Below v.heap.size v w' := by
  have e : n.length = (n.map bt).length := by simp
  rw [e]
  have hl : (n.map bt).length ≤ 1000000 := by simp; omega
  generalize n.map bt = xs at *
  rcases h with rfl | ⟨b, off, rfl, _, hc⟩
  · exact same_texts_none a' a c' c v
  · rcases h' with rfl | ⟨b', off', rfl, _, hc'⟩
    · exact same_texts_none _ a c' c v
    · exact same_texts_some b off b' off' c' c xs v hl hc hc'
end Go.Proofs.Ytkflpkcggjpbfaa
