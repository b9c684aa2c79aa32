/- Texts that come in, said by their lists of bytes, and the law's bound on them; ids that come in. -/
import Derived.Test.YtnamoinedajoaaaWake13
import Derived.SliceStrings
import Derived.ChangeShapes
namespace Go.Proofs.Ytnamoinedajoaaa
open Go.RowKit

theorem txs_of {H : Type} {enc : TypeId × Value → H} {base : Nat} {held : Bool} {t e : TypeId} {fuel : Nat} {a : Option Addr} {len cap : Nat} {W : World} {x : DataW H × List MemPlace} (ht : Try.prog.underlying t = some (.slice e)) (he : Try.prog.underlying e = some .string) (hc : Try.prog.cellsOf e = 1)
    (h : DataW.trod enc Try.prog W base (fun _ => true) held fuel t (Value.slice a len cap).cells.toList = some x) :
    ∃ xs : List (List UInt8), xs.length = len ∧ len ≤ cap ∧ xs.length ≤ maxLen ∧ Txs 0 W.heap.size W a xs := by
  rcases Go.ChangeShapes.open_strings ht he hc h with ⟨hcs, _⟩ | ⟨y, l, c, ss, hcs, _, hl, hm, hz, _, hcell, _⟩
  · simp [Value.cells] at hcs
    obtain ⟨rfl, rfl, rfl⟩ := hcs
    exact ⟨[], rfl, Nat.le_refl _, by simp, Or.inl rfl⟩
  · simp [Value.cells] at hcs
    obtain ⟨rfl, rfl, rfl⟩ := hcs
    have hss : ss.length = cap := by simpa using hz
    refine ⟨(ss.take len).map fun s => s.data.toList, by simp; omega, by omega, by simp; omega, ?_⟩
    rcases Nat.eq_zero_or_pos len with h0 | h0
    · subst h0; exact Or.inl (by simp)
    · obtain ⟨b, off, spot⟩ := y
      have hc0 := hcell 0 (by omega)
      have hspot : spot = none := by simpa [Addr.add] using World.cell?_spot hc0
      subst hspot
      refine Or.inr ⟨b, off, rfl, Nat.zero_le _, ?_, fun j hj => ?_⟩
      · rcases Nat.lt_or_ge b W.heap.size with h' | h'
        · exact h'
        · rw [World.cell?] at hc0
          simp [Addr.add, Array.getElem?_eq_none h'] at hc0
      · have hj' : j < len := by simp at hj; omega
        have h1 := hcell j (by omega)
        have e1 : tx (rowAt ((ss.take len).map fun s => s.data.toList) j) = ss.getD j ByteArray.empty := by
          unfold rowAt
          rw [List.getD_eq_getElem?_getD, List.getElem?_map, List.getElem?_take_of_lt hj', List.getD_eq_getElem?_getD]
          cases ss[j]? with
          | none => rfl
          | some s => exact text_eq (by rw [tx_list]; rfl)
        rw [e1, ← h1]
        rcases Nat.eq_zero_or_pos j with hj0 | hj0
        · subst hj0; simp [Addr.add]
        · simp [Addr.add, Nat.ne_of_gt hj0]
theorem ints_cap {H : Type} {enc : TypeId × Value → H} {base : Nat} {held : Bool} {t e : TypeId} {fuel : Nat} {a : Option Addr} {len cap : Nat} {W : World} {x : DataW H × List MemPlace} (ht : Try.prog.underlying t = some (.slice e)) (he : Try.prog.underlying e = some (.int .i64)) (hc : Try.prog.cellsOf e = 1)
    (h : DataW.trod enc Try.prog W base (fun _ => true) held fuel t (Value.slice a len cap).cells.toList = some x) :
    ∃ xs : List Int, xs.length = len ∧ len ≤ cap ∧ xs.length ≤ maxLen ∧ Ints W.heap.size W a xs := by
  obtain ⟨xs, h1, h2, h3, _⟩ := ints_of ht he hc h
  refine ⟨xs, h1, ?_, h2, h3⟩
  rcases ChangeShapes.open_ints ht he hc h with ⟨hcs, _⟩ | ⟨y, l, c, zs, hcs, _, hl, hm, hz, _, hcell, hwz⟩
  · simp [Value.cells] at hcs
    obtain ⟨_, rfl, rfl⟩ := hcs
    exact Nat.le_refl _
  · simp [Value.cells] at hcs
    obtain ⟨_, rfl, rfl⟩ := hcs
    first | exact hl | omega
def few13B (xs : List (List UInt8)) : Bool := decide (xs.length ≤ 200 ∧ ∀ j, j < xs.length → (rowAt xs j).length ≤ 200)
theorem few_len {xs : List (List UInt8)} (h : few13B xs = true) : xs.length ≤ 200 := (of_decide_eq_true h).1
set_option maxHeartbeats 1000000 in
theorem few13_any (a : Option Addr) (cap : Nat) (xs : List (List UInt8)) (A B : Nat) (w : World) (h : Txs A B w a xs) :
    Calls Try.prog 12 #[.slice a xs.length cap] w fun e w' => e = .returned (.bool (few13B xs)) ∧ w = w' := by
  by_cases hbig0 : 200 < xs.length
  · have e1 : decide (200 < (xs.length : Int)) = true := decide_eq_true (by omega)
    have hs : few13B xs = false := decide_eq_false (by omega)
    rw [hs]
    clear hs hbig0 h
    go_enter Try.func12, Try.ntmps12
    go_wp2
    go_ret
    exact ⟨rfl, rfl⟩
  · have e1 : decide (200 < (xs.length : Int)) = false := decide_eq_false (by omega)
    have HS : Hid ((∀ j, j < xs.length → (rowAt xs j).length ≤ 200) → few13B xs = true) := Lib.hid fun q => decide_eq_true ⟨by omega, q⟩
    have HN : Hid (∀ j, j < xs.length → 200 < (rowAt xs j).length → few13B xs = false) := Lib.hid fun j hj q => decide_eq_false fun x => by have := x.2 j hj; omega
    have HX := Lib.hid h
    have hle : xs.length ≤ 200 := by omega
    clear h hbig0
    go_enter Try.func12, Try.ntmps12
    go_wp2
    go_loop [3] (fun i => ∃ k : Nat, i = .int .i64 k ∧ k ≤ xs.length ∧ Hid (∀ j, j < k → (rowAt xs j).length ≤ 200)) (fun i => xs.length - (intOf i).toNat)
    case atStart => exact ⟨0, rfl, by omega, Lib.hid fun j hj => absurd hj (by omega)⟩
    case round =>
      obtain ⟨k, rfl, hk, HK⟩ := hrel
      by_cases hlt : k < xs.length
      · have i1 : (k : Int) < (xs.length : Int) := by omega
        have i3 : (0 : Int) ≤ (k : Int) := by omega
        have hx := HX.out
        rcases hx with q | ⟨b, off, rfl, _, _, hc⟩
        · exfalso; rw [q] at hlt; simp at hlt
        have c0 := hc k hlt
        clear hc
        have hts : (tx (rowAt xs k)).size = (rowAt xs k).length := tx_size _
        by_cases hbig : 200 < (tx (rowAt xs k)).size
        · have e2 : decide (200 < ((tx (rowAt xs k)).size : Int)) = true := decide_eq_true (by omega)
          have HR := Lib.hid (HN.out k hlt (by omega))
          clear hts hbig
          generalize tx (rowAt xs k) = T at *
          go_wp2
          go_ret
          rw [HR.out]
          exact ⟨rfl, rfl⟩
        · have e2 : decide (200 < ((tx (rowAt xs k)).size : Int)) = false := decide_eq_false (by omega)
          have HK2 : Hid (∀ j, j < k + 1 → (rowAt xs j).length ≤ 200) := Lib.hid fun j hj => by
            rcases (by omega : j < k ∨ j = k) with q | q
            · exact HK.out j q
            · rw [q]; omega
          clear hts hbig
          generalize tx (rowAt xs k) = T at *
          go_wp2
          go_round
          case rel => exact ⟨k + 1, by go_num, by omega, HK2⟩
          case measure => simp [intOf]; omega
      · obtain rfl : k = xs.length := by omega
        have HR := Lib.hid (HS.out HK.out)
        go_wp2
        go_ret
        rw [HR.out]
        exact ⟨rfl, rfl⟩
end Go.Proofs.Ytnamoinedajoaaa
