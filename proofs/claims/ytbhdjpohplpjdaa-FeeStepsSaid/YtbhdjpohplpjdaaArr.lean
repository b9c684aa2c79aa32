/- An array of two numbers that comes in, opened: its two numbers. -/
import Derived.Test.YtbhdjpohplpjdaaWayc
import Derived.OpenShut
import Derived.WideShapes
namespace Go.Proofs.Ytbhdjpohplpjdaa
open Go.RowKit Go.WideShapes

theorem arr2_of {H : Type} {enc : TypeId × Value → H} {P : Program} {w : World} {base : Nat} {spare : Nat → Bool} {held : Bool} {r : Reach} {b0 : Nat} {t e : TypeId} {v : Value} {d : DataW H} {p : List MemPlace} (ht : P.underlying t = some (.array 2 e)) (he : P.underlying e = some (.int .i64)) (hce : P.cellsOf e = 1) (hct : P.cellsOf t = 2)
    (hv : Value.okWide P w r b0 t v) (h : DataW.Trod enc P w base spare held t v d p) : ∃ a b : Int, v = .agg #[.int .i64 a, .int .i64 b] := by
  obtain ⟨cs, rfl, hsz⟩ : ∃ cs : Array Value, v = .agg cs ∧ cs.size = 2 := by
    simp only [Value.okWide, ht] at hv
    obtain ⟨cs, h1, h2, _⟩ := hv
    exact ⟨cs, h1, by rw [h2, hct]⟩
  obtain ⟨c0, c1, rfl⟩ := Joins.array2 hsz
  obtain ⟨fuel, hf⟩ := h
  obtain ⟨xs, m, _, _, _, hlen, hg⟩ := DataW.trod_array ht hf
  have g0 := hg 0 (by omega)
  have g1 := hg 1 (by omega)
  match xs, hlen with
  | [y0, y1], _ =>
    simp [Value.cells, hce] at g0 g1
    obtain ⟨n0, e0, _, _⟩ := DataW.trod_int he g0
    obtain ⟨n1, e1, _, _⟩ := DataW.trod_int he g1
    simp at e0 e1
    exact ⟨n0, n1, by rw [e0, e1]⟩
end Go.Proofs.Ytbhdjpohplpjdaa
