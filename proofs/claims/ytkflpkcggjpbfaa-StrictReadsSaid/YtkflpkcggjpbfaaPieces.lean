/- Pieces that come in: a slice of three numbers each, read as a list. -/
import Derived.Test.YtkflpkcggjpbfaaProg
import Derived.WalkKit
import Derived.Below
import Derived.Deep.Slices
import Derived.OpenShut
import Derived.WideShapes
namespace Go.Proofs.Ytkflpkcggjpbfaa
open Go.RowKit Go.ChangeShapes Go.Deep

structure Pce where
  k : Int
  x : Int
  m : Int
def pieceAt (l : List Pce) (i : Nat) : Pce := l.getD i ⟨0, 0, 0⟩
/-- A slice value whose elements are just these pieces; its cells lie below block B. -/
def Pieces (B : Nat) (w : World) (a : Option Addr) (l : List Pce) : Prop :=
  l = [] ∨ ∃ b off, a = some ⟨b, off, none⟩ ∧ b < B ∧ ∀ j, j < l.length → w.cell? ⟨b, off + j * 3, none⟩ = some (.int .i64 (pieceAt l j).k) ∧ w.cell? ⟨b, off + j * 3 + 1, none⟩ = some (.int .i64 (pieceAt l j).x) ∧ w.cell? ⟨b, off + j * 3 + 2, none⟩ = some (.int .i64 (pieceAt l j).m)
theorem list_of {α : Type} (d : α) (n : Nat) (P : Nat → α → Prop) (h : ∀ i, i < n → ∃ p, P i p) : ∃ l : List α, l.length = n ∧ ∀ i, i < n → P i (l.getD i d) := by
  induction n with
  | zero => exact ⟨[], rfl, fun i hi => absurd hi (by omega)⟩
  | succ n ih =>
    obtain ⟨l, hl, hp⟩ := ih fun i hi => h i (by omega)
    obtain ⟨p, hp2⟩ := h n (by omega)
    refine ⟨l ++ [p], by simp [hl], fun i hi => ?_⟩
    rcases (by omega : i < n ∨ i = n) with g | g
    · have e : (l ++ [p]).getD i d = l.getD i d := by
        rw [List.getD_eq_getElem?_getD, List.getD_eq_getElem?_getD, List.getElem?_append_left (by omega)]
      rw [e]; exact hp i g
    · subst g
      have e : (l ++ [p]).getD i d = p := by
        rw [List.getD_eq_getElem?_getD, List.getElem?_append_right (by omega), hl, Nat.sub_self]; rfl
      rw [e]; exact hp2
theorem add_lies (b off : Nat) (i : Nat) : (⟨b, off, none⟩ : Addr).add i = ⟨b, off + i, none⟩ := by
  unfold Addr.add
  split
  · rename_i h; subst h; rfl
  · rfl
theorem three_of_cells {cs : List Value} {n0 n1 n2 : Int} (hl : cs.length = 3) (h0 : (cs.drop 0).take 1 = [.int .i64 n0]) (h1 : (cs.drop 1).take 1 = [.int .i64 n1]) (h2 : (cs.drop 2).take 1 = [.int .i64 n2]) : cs = [.int .i64 n0, .int .i64 n1, .int .i64 n2] := by
  match cs, hl with
  | [a, b, c], _ => simp at h0 h1 h2; rw [h0, h1, h2]
/-- A slice of pieces that came in, read as the form reads it. -/
theorem pieces_of {H : Type} {enc : TypeId × Value → H} {base : Nat} {held : Bool} {t e i : TypeId} {f0 f1 f2 : Field} {fuel : Nat} {a : Option Addr} {len cap : Nat} {W : World} {x : DataW H × List MemPlace} (ht : Try.prog.underlying t = some (.slice e)) (he : Try.prog.underlying e = some (.struct #[f0, f1, f2])) (hc : Try.prog.cellsOf e = 3)
    (hi : Try.prog.underlying i = some (.int .i64)) (hic : Try.prog.cellsOf i = 1) (t0 : f0.type = i) (t1 : f1.type = i) (t2 : f2.type = i) (o0 : f0.offset = 0) (o1 : f1.offset = 1) (o2 : f2.offset = 2)
    (h : DataW.trod enc Try.prog W base (fun _ => true) held fuel t (Value.slice a len cap).cells.toList = some x) :
    ∃ l : List Pce, l.length = len ∧ l.length ≤ maxLen ∧ Pieces W.heap.size W a l ∧ ∀ j, j < l.length → (Lit.int .i64 (pieceAt l j).x).wf = true ∧ (Lit.int .i64 (pieceAt l j).m).wf = true := by
  rcases open_slice ht h with ⟨hcs, _⟩ | ⟨y, n, c, m, fu, D, Pl, hcs, _, hl, hm, hmm, _, hel⟩
  · simp [Value.cells] at hcs
    obtain ⟨rfl, rfl, rfl⟩ := hcs
    exact ⟨[], rfl, by simp, Or.inl rfl, fun j hj => absurd hj (by simp)⟩
  · simp [Value.cells] at hcs
    obtain ⟨rfl, rfl, rfl⟩ := hcs
    have hm2 : m = cap := by rw [hmm]; simp
    have key : ∀ j, j < len → ∃ p : Pce, (W.cell? (y.add (j * 3)) = some (.int .i64 p.k) ∧ W.cell? ((y.add (j * 3)).add 1) = some (.int .i64 p.x) ∧ W.cell? ((y.add (j * 3)).add 2) = some (.int .i64 p.m)) ∧ (Lit.int .i64 p.x).wf = true ∧ (Lit.int .i64 p.m).wf = true := by
      intro j hj
      obtain ⟨cs, hcl, htr⟩ := hel j (by omega)
      rw [hc] at hcl
      obtain ⟨_, hlen, hat⟩ := World.cells?_some hcl
      obtain ⟨xs, nn, _, _, _, hxl, hg⟩ := DataW.trod_struct he htr
      have g0 := hg 0 f0 rfl
      have g1 := hg 1 f1 rfl
      have g2 := hg 2 f2 rfl
      rw [t0, o0, hic] at g0
      rw [t1, o1, hic] at g1
      rw [t2, o2, hic] at g2
      match xs, hxl with
      | [y0, y1, y2], _ =>
        obtain ⟨n0, e0, _, _⟩ := DataW.trod_int hi g0
        obtain ⟨n1, e1, _, w1⟩ := DataW.trod_int hi g1
        obtain ⟨n2, e2, _, w2⟩ := DataW.trod_int hi g2
        have ecs := three_of_cells hlen e0 e1 e2
        subst ecs
        have a0 := hat 0 (by omega)
        have a1 := hat 1 (by omega)
        have a2 := hat 2 (by omega)
        exact ⟨⟨n0, n1, n2⟩, ⟨by simpa [Addr.add] using a0, by simpa using a1, by simpa using a2⟩, w1, w2⟩
    obtain ⟨l, hll, hp⟩ := list_of (⟨0, 0, 0⟩ : Pce) len _ key
    refine ⟨l, hll, by omega, ?_, fun j hj => (hp j (by omega)).2⟩
    rcases Nat.eq_zero_or_pos len with h0 | h0
    · exact Or.inl (List.length_eq_zero_iff.1 (by omega))
    · obtain ⟨b, off, spot⟩ := y
      have hc0 := (hp 0 h0).1.1
      have hspot : spot = none := by simpa [Addr.add] using World.cell?_spot hc0
      subst hspot
      refine Or.inr ⟨b, off, rfl, ?_, fun j hj => ?_⟩
      · rcases Nat.lt_or_ge b W.heap.size with h' | h'
        · exact h'
        · rw [World.cell?] at hc0
          simp [Addr.add, Array.getElem?_eq_none h'] at hc0
      · obtain ⟨q0, q1, q2⟩ := (hp j (by omega)).1
        rw [add_lies] at q0
        rw [add_lies, add_lies] at q1 q2
        exact ⟨q0, q1, q2⟩
/-- One piece that comes in by value. -/
theorem piece_of {H : Type} {enc : TypeId × Value → H} {P : Program} {w : World} {base : Nat} {spare : Nat → Bool} {held : Bool} {r : Reach} {b0 : Nat} {e i : TypeId} {f0 f1 f2 : Field} {v : Value} {d : DataW H} {p : List MemPlace} (he : P.underlying e = some (.struct #[f0, f1, f2])) (hi : P.underlying i = some (.int .i64)) (hic : P.cellsOf i = 1) (hc : P.cellsOf e = 3)
    (t0 : f0.type = i) (t1 : f1.type = i) (t2 : f2.type = i) (o0 : f0.offset = 0) (o1 : f1.offset = 1) (o2 : f2.offset = 2)
    (hv : Value.okWide P w r b0 e v) (h : DataW.Trod enc P w base spare held e v d p) : ∃ a b c : Int, v = .agg #[.int .i64 a, .int .i64 b, .int .i64 c] := by
  obtain ⟨cs, rfl, hsz⟩ := WideShapes.okWide_struct he hv
  obtain ⟨fuel, hf⟩ := h
  obtain ⟨xs, m, _, _, hlen, hxl, hg⟩ := DataW.trod_struct he hf
  have g0 := hg 0 f0 rfl
  have g1 := hg 1 f1 rfl
  have g2 := hg 2 f2 rfl
  rw [t0, o0, hic] at g0
  rw [t1, o1, hic] at g1
  rw [t2, o2, hic] at g2
  match xs, hxl with
  | [y0, y1, y2], _ =>
    obtain ⟨n0, e0, _, _⟩ := DataW.trod_int hi g0
    obtain ⟨n1, e1, _, _⟩ := DataW.trod_int hi g1
    obtain ⟨n2, e2, _, _⟩ := DataW.trod_int hi g2
    have ecs := three_of_cells (hlen.trans hc) e0 e1 e2
    obtain ⟨l⟩ := cs
    exact ⟨n0, n1, n2, by simp [Value.cells] at ecs; rw [ecs]⟩
end Go.Proofs.Ytkflpkcggjpbfaa
