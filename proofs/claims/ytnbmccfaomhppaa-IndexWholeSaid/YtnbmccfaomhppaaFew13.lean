/- Texts that come in, said by their lists of bytes, and the law's bound on them; ids that come in. -/
import Derived.Test.YtnbmccfaomhppaaWake13
import Derived.SliceStrings
import Derived.ChangeShapes
namespace Go.Proofs.Ytnbmccfaomhppaa
open Go.RowKit

theorem txs_of {H : Type} {enc : TypeId × Value → H} {base : Nat} {held : Bool} {t e : TypeId} {fuel : Nat} {a : Option Addr} {len cap : Nat} {W : World} {x : DataW H × List MemPlace} (ht : Try.prog.underlying t = some (.slice e)) (he : Try.prog.underlying e = some .string) (hc : Try.prog.cellsOf e = 1)
    (h : DataW.trod enc Try.prog W base (fun _ => true) held fuel t (Value.slice a len cap).cells.toList = some x) :
    ∃ xs : List (List UInt8), xs.length = len ∧ len ≤ cap ∧ xs.length ≤ maxLen ∧ Txs 0 W.heap.size W a xs := by
  rcases Go.ChangeShapes.open_strings ht he hc h with ⟨hcs, _⟩ | ⟨y, l, c, ss, hcs, _, hl, hm, hz, _, hcell, _⟩
  · simp [Value.cells] at hcs
    obtain ⟨rfl, rfl, rfl⟩ := hcs
    exact ⟨[], rfl, Nat.le_refl _, by simp, Or.inl rfl⟩
  · simp [Value.cells] at hcs
    obtain ⟨rfl, rfl, rfl⟩ := hcs
    have hss : ss.length = cap := by simpa using hz
    refine ⟨(ss.take len).map fun s => s.data.toList, by simp; omega, by omega, by simp; omega, ?_⟩
    rcases Nat.eq_zero_or_pos len with h0 | h0
    · subst h0; exact Or.inl (by simp)
    · obtain ⟨b, off, spot⟩ := y
      have hc0 := hcell 0 (by omega)
      have hspot : spot = none := by simpa [Addr.add] using World.cell?_spot hc0
      subst hspot
      refine Or.inr ⟨b, off, rfl, Nat.zero_le _, ?_, fun j hj => ?_⟩
      · rcases Nat.lt_or_ge b W.heap.size with h' | h'
        · exact h'
        · rw [World.cell?] at hc0
          simp [Addr.add, Array.getElem?_eq_none h'] at hc0
      · have hj' : j < len := by simp at hj; omega
        have h1 := hcell j (by omega)
        have e1 : tx (rowAt ((ss.take len).map fun s => s.data.toList) j) = ss.getD j ByteArray.empty := by
          unfold rowAt
          rw [List.getD_eq_getElem?_getD, List.getElem?_map, List.getElem?_take_of_lt hj', List.getD_eq_getElem?_getD]
          cases ss[j]? with
          | none => rfl
          | some s => exact text_eq (by rw [tx_list]; rfl)
        rw [e1, ← h1]
        rcases Nat.eq_zero_or_pos j with hj0 | hj0
        · subst hj0; simp [Addr.add]
        · simp [Addr.add, Nat.ne_of_gt hj0]
theorem ints_cap {H : Type} {enc : TypeId × Value → H} {base : Nat} {held : Bool} {t e : TypeId} {fuel : Nat} {a : Option Addr} {len cap : Nat} {W : World} {x : DataW H × List MemPlace} (ht : Try.prog.underlying t = some (.slice e)) (he : Try.prog.underlying e = some (.int .i64)) (hc : Try.prog.cellsOf e = 1)
    (h : DataW.trod enc Try.prog W base (fun _ => true) held fuel t (Value.slice a len cap).cells.toList = some x) :
    ∃ xs : List Int, xs.length = len ∧ len ≤ cap ∧ xs.length ≤ maxLen ∧ Ints W.heap.size W a xs := by
  obtain ⟨xs, h1, h2, h3, _⟩ := ints_of ht he hc h
  refine ⟨xs, h1, ?_, h2, h3⟩
  rcases ChangeShapes.open_ints ht he hc h with ⟨hcs, _⟩ | ⟨y, l, c, zs, hcs, _, hl, hm, hz, _, hcell, hwz⟩
  · simp [Value.cells] at hcs
    obtain ⟨_, rfl, rfl⟩ := hcs
    exact Nat.le_refl _
  · simp [Value.cells] at hcs
    obtain ⟨_, rfl, rfl⟩ := hcs
    first | exact hl | omega
def few13B (xs : List (List UInt8)) : Bool := decide (xs.length ≤ 200 ∧ ∀ j, j < xs.length → (rowAt xs j).length ≤ 200)
theorem few_len {xs : List (List UInt8)} (h : few13B xs = true) : xs.length ≤ 200 := (of_decide_eq_true h).1
end Go.Proofs.Ytnbmccfaomhppaa
