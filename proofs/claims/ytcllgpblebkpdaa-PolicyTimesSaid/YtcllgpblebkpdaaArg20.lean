/- How items come in: by value. -/
import Derived.Test.YtcllgpblebkpdaaWant20
import Derived.WideShapes
import Derived.OpenShut
namespace Go.Proofs.Ytcllgpblebkpdaa
open Go.RowKit Go.ChangeShapes

theorem four_parts20 {cs : List Value} {a b c d : Value} (hl : cs.length = 4) (h0 : (cs.drop 0).take 1 = [a]) (h1 : (cs.drop 1).take 1 = [b]) (h2 : (cs.drop 2).take 1 = [c]) (h3 : (cs.drop 3).take 1 = [d]) : cs = [a, b, c, d] := by
  match cs, hl with
  | [_, _, _, _], _ => simp at h0 h1 h2 h3; simp [h0, h1, h2, h3]
/-- An item by value. -/
theorem item_of20 {H : Type} {enc : TypeId × Value → H} {P : Program} {w : World} {base : Nat} {spare : Nat → Bool} {held : Bool} {r : Reach} {b0 : Nat} {e i : TypeId} {f0 f1 f2 f3 : Field} {v : Value} {d : DataW H} {p : List MemPlace}
    (he : P.underlying e = some (.struct #[f0, f1, f2, f3])) (hi : P.underlying i = some (.int .i64)) (hec : P.cellsOf e = 4) (hic : P.cellsOf i = 1)
    (t0 : f0.type = i) (t1 : f1.type = i) (t2 : f2.type = i) (t3 : f3.type = i) (o0 : f0.offset = 0) (o1 : f1.offset = 1) (o2 : f2.offset = 2) (o3 : f3.offset = 3)
    (hv : Value.okWide P w r b0 e v) (h : DataW.Trod enc P w base spare held e v d p) : ∃ x : Item20, v = itemVal x := by
  obtain ⟨cs, rfl, _⟩ := WideShapes.okWide_struct he hv
  obtain ⟨fuel, hf⟩ := h
  obtain ⟨xs, n, _, _, hlen, hxl, hg⟩ := DataW.trod_struct he hf
  have g0 := hg 0 f0 rfl
  have g1 := hg 1 f1 rfl
  have g2 := hg 2 f2 rfl
  have g3 := hg 3 f3 rfl
  rw [t0, o0, hic] at g0
  rw [t1, o1, hic] at g1
  rw [t2, o2, hic] at g2
  rw [t3, o3, hic] at g3
  match xs, hxl with
  | [y0, y1, y2, y3], _ =>
    obtain ⟨n0, e0, _, _⟩ := DataW.trod_int hi g0
    obtain ⟨n1, e1, _, _⟩ := DataW.trod_int hi g1
    obtain ⟨n2, e2, _, _⟩ := DataW.trod_int hi g2
    obtain ⟨n3, e3, _, _⟩ := DataW.trod_int hi g3
    have hx := four_parts20 (hlen.trans hec) e0 e1 e2 e3
    obtain ⟨l⟩ := cs
    exact ⟨⟨n0, n1, n2, n3⟩, by simp [Value.cells] at hx; rw [hx]⟩
end Go.Proofs.Ytcllgpblebkpdaa
