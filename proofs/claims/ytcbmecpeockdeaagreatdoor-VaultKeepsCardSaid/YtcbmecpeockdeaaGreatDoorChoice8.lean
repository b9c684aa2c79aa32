/- A choice that comes in by value: a slice of bools and two numbers. -/
import Derived.Test.YtcbmecpeockdeaaGreatDoorActs8
namespace Go.Proofs.YtcbmecpeockdeaaGreatDoor
open Go.RowKit Go.ChangeShapes Go.Deep

theorem three_of_cells {cs : List Value} {a b c : Value} (hl : cs.length = 3) (h0 : (cs.drop 0).take 1 = [a]) (h1 : (cs.drop 1).take 1 = [b]) (h2 : (cs.drop 2).take 1 = [c]) : cs = [a, b, c] := by
  match cs, hl with
  | [_, _, _], _ => simp at h0 h1 h2; simp [h0, h1, h2]
theorem choice_cells {H : Type} {enc : TypeId × Value → H} {base : Nat} {held : Bool} {fuel : Nat} {cs : List Value} {W : World} {x : DataW H × List MemPlace} {i ch sb bb : TypeId} {q0 q1 q2 : Field}
    (hch : Tryz.prog.underlying ch = some (.struct #[q0, q1, q2])) (hi : Tryz.prog.underlying i = some (.int .i64)) (hsb : Tryz.prog.underlying sb = some (.slice bb)) (hbb : Tryz.prog.underlying bb = some .bool)
    (hic : Tryz.prog.cellsOf i = 1) (hcc : Tryz.prog.cellsOf ch = 3) (hsc : Tryz.prog.cellsOf sb = 1) (hbc : Tryz.prog.cellsOf bb = 1)
    (r0 : q0.type = sb) (r1 : q1.type = i) (r2 : q2.type = i) (p0 : q0.offset = 0) (p1 : q1.offset = 1) (p2 : q2.offset = 2)
    (h : DataW.trod enc Tryz.prog W base (fun _ => true) held fuel ch cs = some x) :
    ∃ (ka : Option Addr) (kc : Nat) (ks : List Bool) (tn ct : Int), cs = [.slice ka ks.length kc, .int .i64 tn, .int .i64 ct] ∧ Bools W.heap.size W ka ks ∧ ks.length ≤ maxLen := by
  obtain ⟨zs, n', _, _, hlen, hzl, hz⟩ := DataW.trod_struct hch h
  have z0 := hz 0 q0 rfl
  have z1 := hz 1 q1 rfl
  have z2 := hz 2 q2 rfl
  rw [r0, p0, hsc] at z0
  rw [r1, p1, hic] at z1
  rw [r2, p2, hic] at z2
  match zs, hzl with
  | [u0, u1, u2], _ =>
    obtain ⟨ka, kc, keep, k0, k1, k2⟩ := bools_of hsb hbb hbc z0
    obtain ⟨m1, f1, _, _⟩ := DataW.trod_int hi z1
    obtain ⟨m2, f2, _, _⟩ := DataW.trod_int hi z2
    rw [hcc] at hlen
    exact ⟨ka, kc, keep, m1, m2, three_of_cells hlen k0 f1 f2, k2, k1⟩
theorem choice_here {H : Type} {enc : TypeId × Value → H} {base : Nat} {held : Bool} {fuel : Nat} {cs : List Value} {W : World} {x : DataW H × List MemPlace} (h : DataW.trod enc Tryz.prog W base (fun _ => true) held fuel 39 cs = some x) :
    ∃ (ka : Option Addr) (kc : Nat) (ks : List Bool) (tn ct : Int), cs = [.slice ka ks.length kc, .int .i64 tn, .int .i64 ct] ∧ Bools W.heap.size W ka ks ∧ ks.length ≤ maxLen :=
  choice_cells Tryz.underlying39 Tryz.underlying3 Tryz.underlying37 Tryz.underlying4 (by kernel_rfl) (by kernel_rfl) (by kernel_rfl) (by kernel_rfl) rfl rfl rfl rfl rfl rfl h
set_option maxRecDepth 100000 in
theorem choice_of {H : Type} {enc : TypeId × Value → H} {w : World} {base : Nat} {held : Bool} {r : Reach} {b0 : Nat} {v : Value} {d : DataW H} {p : List MemPlace} {e : TypeId} {fs : Array Field} (he : Tryz.prog.underlying e = some (.struct fs)) (e0 : e = 39)
    (hv : Value.okWide Tryz.prog w r b0 e v) (h : DataW.Trod enc Tryz.prog w base (fun _ => true) held e v d p) : ∃ (ka : Option Addr) (kc : Nat) (ks : List Bool) (tn ct : Int), v = .agg #[.slice ka ks.length kc, .int .i64 tn, .int .i64 ct] ∧ Bools w.heap.size w ka ks ∧ ks.length ≤ maxLen := by
  obtain ⟨cs, hcs⟩ := agg_of he hv
  subst hcs
  obtain ⟨fuel, hf⟩ := h
  rw [e0] at hf
  obtain ⟨ka, kc, ks, tn, ct, ha, hb, hl⟩ := choice_here hf
  refine ⟨ka, kc, ks, tn, ct, ?_, hb, hl⟩
  obtain ⟨l⟩ := cs
  simp only [Value.cells] at ha
  rw [← ha]
end Go.Proofs.YtcbmecpeockdeaaGreatDoor
