/- How rules come in by value: four slices. -/
import Derived.Test.YtifihejogbcbgaaArg18
import Derived.Test.YtifihejogbcbgaaMQz16
import Derived.Test.YtifihejogbcbgaaRefE19
import Derived.WideShapes
import Derived.Deep.Slices
namespace Go.Proofs.Ytifihejogbcbgaa
open Go.RowKit Go.ChangeShapes Go.Deep

theorem four_parts19 {cs : List Value} {a b c d : Value} (hl : cs.length = 4) (h0 : (cs.drop 0).take 1 = [a]) (h1 : (cs.drop 1).take 1 = [b]) (h2 : (cs.drop 2).take 1 = [c]) (h3 : (cs.drop 3).take 1 = [d]) : cs = [a, b, c, d] := by
  match cs, hl with
  | [_, _, _, _], _ => simp at h0 h1 h2 h3; simp [h0, h1, h2, h3]
/-- A slice of numbers among the cells of a struct. -/
theorem ints_in19 {H : Type} {enc : TypeId × Value → H} {base : Nat} {held : Bool} {fuel : Nat} {cs : List Value} {W : World} {x : DataW H × List MemPlace}
    (h : DataW.trod enc Try.prog W base (fun _ => true) held fuel 22 cs = some x) : ∃ a cap xs, cs = [.slice a (List.length xs) cap] ∧ xs.length ≤ cap ∧ Ints W.heap.size W a xs := by
  obtain ⟨a, n, c, hk⟩ : ∃ a n c, cs = [Value.slice a n c] := by
    rcases DataW.trod_slice Try.underlying22 h with ⟨hcs, _⟩ | ⟨b, l, c, _, _, _, _, hcs, _⟩
    · exact ⟨none, 0, 0, hcs⟩
    · exact ⟨some b, l, c, hcs⟩
  rw [hk] at h
  obtain ⟨xs, h1, h2, _, h3⟩ := ints_cap16 (a := a) (len := n) (cap := c) Try.underlying22 Try.underlying3 (by kernel_rfl) h
  subst h1
  exact ⟨a, c, xs, hk, h2, h3⟩
theorem rows_in19 {H : Type} {enc : TypeId × Value → H} {base : Nat} {held : Bool} {fuel : Nat} {cs : List Value} {W : World} {x : DataW H × List MemPlace}
    (h : DataW.trod enc Try.prog W base (fun _ => true) held fuel 23 cs = some x) : ∃ a cap l, cs = [.slice a (List.length l) cap] ∧ l.length ≤ cap ∧ RowsIn W.heap.size W a l := by
  obtain ⟨a, n, c, hk⟩ : ∃ a n c, cs = [Value.slice a n c] := by
    rcases DataW.trod_slice Try.underlying23 h with ⟨hcs, _⟩ | ⟨b, l, c, _, _, _, _, hcs, _⟩
    · exact ⟨none, 0, 0, hcs⟩
    · exact ⟨some b, l, c, hcs⟩
  rw [hk] at h
  obtain ⟨l, h1, h2, _, h3⟩ := rows_of18 (a := a) (len := n) (cap := c) Try.underlying23 Try.underlying52 Try.underlying3 (by kernel_rfl) (by kernel_rfl) rfl rfl rfl rfl rfl rfl rfl rfl rfl rfl h
  subst h1
  exact ⟨a, c, l, hk, h2, h3⟩
/-- What is said of rules that came in. -/
structure RulesIn19 (w : World) (a1 a2 a3 a4 : Option Addr) (c1 c2 c3 c4 : Nat) (ks cs fs : List Int) (l : List Row18) : Prop where
  h1 : Ints w.heap.size w a1 ks
  h2 : Ints w.heap.size w a2 cs
  h3 : Ints w.heap.size w a3 fs
  h4 : RowsIn w.heap.size w a4 l
  k1 : ks.length ≤ c1
  k2 : cs.length ≤ c2
  k3 : fs.length ≤ c3
  k4 : l.length ≤ c4
theorem rules_cells19 {H : Type} {enc : TypeId × Value → H} {base : Nat} {held : Bool} {fuel : Nat} {cs : List Value} {W : World} {x : DataW H × List MemPlace} {ch : TypeId} {q0 q1 q2 q3 : Field}
    (hch : Try.prog.underlying ch = some (.struct #[q0, q1, q2, q3])) (hcc : Try.prog.cellsOf ch = 4) (r0 : q0.type = 22) (r1 : q1.type = 22) (r2 : q2.type = 22) (r3 : q3.type = 23) (p0 : q0.offset = 0) (p1 : q1.offset = 1) (p2 : q2.offset = 2) (p3 : q3.offset = 3)
    (h : DataW.trod enc Try.prog W base (fun _ => true) held fuel ch cs = some x) :
    ∃ a1 a2 a3 a4 c1 c2 c3 c4 ks cu fs l, cs = [.slice a1 (List.length ks) c1, .slice a2 (List.length cu) c2, .slice a3 (List.length fs) c3, .slice a4 (List.length l) c4] ∧ RulesIn19 W a1 a2 a3 a4 c1 c2 c3 c4 ks cu fs l := by
  have k0 : Try.prog.cellsOf 22 = 1 := by kernel_rfl
  have k1 : Try.prog.cellsOf 23 = 1 := by kernel_rfl
  obtain ⟨zs, n', _, _, hlen, hzl, hz⟩ := DataW.trod_struct hch h
  have z0 := hz 0 q0 rfl
  have z1 := hz 1 q1 rfl
  have z2 := hz 2 q2 rfl
  have z3 := hz 3 q3 rfl
  rw [r0, p0, k0] at z0
  rw [r1, p1, k0] at z1
  rw [r2, p2, k0] at z2
  rw [r3, p3, k1] at z3
  match zs, hzl with
  | [u0, u1, u2, u3], _ =>
    obtain ⟨a1, c1, ks, e1, g1, i1⟩ := ints_in19 z0
    obtain ⟨a2, c2, cu, e2, g2, i2⟩ := ints_in19 z1
    obtain ⟨a3, c3, fs, e3, g3, i3⟩ := ints_in19 z2
    obtain ⟨a4, c4, l, e4, g4, i4⟩ := rows_in19 z3
    exact ⟨a1, a2, a3, a4, c1, c2, c3, c4, ks, cu, fs, l, four_parts19 (hlen.trans hcc) e1 e2 e3 e4, ⟨i1, i2, i3, i4, g1, g2, g3, g4⟩⟩
set_option maxRecDepth 100000 in
theorem rules_of19 {H : Type} {enc : TypeId × Value → H} {w : World} {base : Nat} {held : Bool} {r : Reach} {b0 : Nat} {v : Value} {d : DataW H} {p : List MemPlace}
    (hv : Value.okWide Try.prog w r b0 25 v) (h : DataW.Trod enc Try.prog w base (fun _ => true) held 25 v d p) :
    ∃ a1 a2 a3 a4 c1 c2 c3 c4 ks cu fs l, v = rulesVal a1 a2 a3 a4 (List.length ks) c1 (List.length cu) c2 (List.length fs) c3 (List.length l) c4 ∧ RulesIn19 w a1 a2 a3 a4 c1 c2 c3 c4 ks cu fs l := by
  obtain ⟨cs, rfl, _⟩ := WideShapes.okWide_struct Try.underlying25 hv
  obtain ⟨fuel, hf⟩ := h
  obtain ⟨a1, a2, a3, a4, c1, c2, c3, c4, ks, cu, fs, l, ha, hb⟩ := rules_cells19 Try.underlying25 (by kernel_rfl) rfl rfl rfl rfl rfl rfl rfl rfl hf
  refine ⟨a1, a2, a3, a4, c1, c2, c3, c4, ks, cu, fs, l, ?_, hb⟩
  obtain ⟨q⟩ := cs
  simp only [Value.cells] at ha
  rw [ha]
  rfl
end Go.Proofs.Ytifihejogbcbgaa
