/- A frame by value that comes in, read as the form reads it. -/
import Derived.Test.YtpjahfobjnajcaaDoorProg
import Derived.WalkKit
import Derived.Below
import Derived.Deep.Slices
import Derived.OpenShut
import Derived.WideShapes
namespace Go.Proofs.YtpjahfobjnajcaaDoor
open Go.RowKit Go.ChangeShapes Go.Deep

theorem frame_cells {cs : List Value} {a b c : Value} (hl : cs.length = 3) (h0 : (cs.drop 0).take 1 = [a]) (h1 : (cs.drop 1).take 1 = [b]) (h2 : (cs.drop 2).take 1 = [c]) : cs = [a, b, c] := by
  match cs, hl with
  | [x, y, z], _ => simp at h0 h1 h2; rw [h0, h1, h2]
theorem frame_of {H : Type} {enc : TypeId × Value → H} {P : Program} {w : World} {base : Nat} {spare : Nat → Bool} {held : Bool} {r : Reach} {b0 : Nat} {e i u : TypeId} {f0 f1 f2 : Field} {v : Value} {d : DataW H} {p : List MemPlace} (he : P.underlying e = some (.struct #[f0, f1, f2])) (hi : P.underlying i = some (.int .i64)) (hu : P.underlying u = some .string) (hic : P.cellsOf i = 1) (huc : P.cellsOf u = 1) (hc : P.cellsOf e = 3)
    (t0 : f0.type = i) (t1 : f1.type = i) (t2 : f2.type = u) (o0 : f0.offset = 0) (o1 : f1.offset = 1) (o2 : f2.offset = 2)
    (hv : Value.okWide P w r b0 e v) (h : DataW.Trod enc P w base spare held e v d p) : ∃ (a b : Int) (s : ByteArray), v = .agg #[.int .i64 a, .int .i64 b, .string s] := by
  obtain ⟨cs, rfl, hsz⟩ := WideShapes.okWide_struct he hv
  obtain ⟨fuel, hf⟩ := h
  obtain ⟨xs, m, _, _, hlen, hxl, hg⟩ := DataW.trod_struct he hf
  have g0 := hg 0 f0 rfl
  have g1 := hg 1 f1 rfl
  have g2 := hg 2 f2 rfl
  rw [t0, o0, hic] at g0
  rw [t1, o1, hic] at g1
  rw [t2, o2, huc] at g2
  match xs, hxl with
  | [y0, y1, y2], _ =>
    obtain ⟨n0, e0, _, _⟩ := DataW.trod_int hi g0
    obtain ⟨n1, e1, _, _⟩ := DataW.trod_int hi g1
    obtain ⟨s, e2, _, _⟩ := DataW.trod_string hu g2
    have ecs := frame_cells (hlen.trans hc) e0 e1 e2
    obtain ⟨l⟩ := cs
    exact ⟨n0, n1, s, by simp [Value.cells] at ecs; rw [ecs]⟩
end Go.Proofs.YtpjahfobjnajcaaDoor
