/- How rows and facts come in: a slice of rows, a row and facts by value. -/
import Derived.Test.YtifihejogbcbgaaWant18
import Derived.WideShapes
import Derived.Deep.Slices
import Derived.OpenShut
namespace Go.Proofs.Ytifihejogbcbgaa
open Go.RowKit Go.ChangeShapes Go.Deep

theorem add_lies18 (b off : Nat) (i : Nat) : (⟨b, off, none⟩ : Addr).add i = ⟨b, off + i, none⟩ := by
  unfold Addr.add
  split
  · rename_i h; subst h; rfl
  · rfl
theorem list_of18 {α : Type} (n : Nat) (P : Nat → α → Prop) (h : ∀ i, i < n → ∃ p, P i p) : ∃ l : List α, l.length = n ∧ ∀ i x, l[i]? = some x → P i x := by
  induction n with
  | zero => exact ⟨[], rfl, fun i x hx => by simp at hx⟩
  | succ n ih =>
    obtain ⟨l, hl, hp⟩ := ih fun i hi => h i (by omega)
    obtain ⟨p, hp2⟩ := h n (by omega)
    refine ⟨l ++ [p], by simp [hl], fun i x hx => ?_⟩
    rcases Nat.lt_trichotomy i n with g | g | g
    · rw [List.getElem?_append_left (by omega)] at hx; exact hp i x hx
    · subst g
      rw [List.getElem?_append_right (by omega), hl, Nat.sub_self] at hx
      have : p = x := by simpa using hx
      rw [← this]; exact hp2
    · rw [List.getElem?_eq_none (by simp [hl]; omega)] at hx; cases hx
theorem Elt.cells_from18 {α : Type} (E : Elt α) {l : List α} {j : Nat} {u : Value} (h : (E.cells l)[j]? = some u) : ∃ x, l[j / E.k]? = some x ∧ (E.enc x)[j % E.k]? = some u := by
  have hj : j < l.length * E.k := by rw [← E.cells_len]; exact (List.getElem?_eq_some_iff.1 h).1
  have hq : j / E.k < l.length := (Nat.div_lt_iff_lt_mul E.pos).2 hj
  have hi : j % E.k < E.k := Nat.mod_lt _ E.pos
  have hx : l[j / E.k]? = some l[j / E.k] := List.getElem?_eq_getElem hq
  have hv : (E.enc l[j / E.k])[j % E.k]? = some ((E.enc l[j / E.k])[j % E.k]'(by rw [E.len]; exact hi)) := List.getElem?_eq_getElem (by rw [E.len]; exact hi)
  have := E.cells_at hx hv
  rw [Nat.mul_comm, Nat.div_add_mod, h] at this
  exact ⟨_, hx, hv.trans this.symm⟩
/-- A slice of elements that came in, read as the form reads it. -/
theorem elts18_of {α : Type} (E : Elt α) {H : Type} {enc : TypeId × Value → H} {base : Nat} {held : Bool} {t e : TypeId} {fuel : Nat} {a : Option Addr} {len cap : Nat} {W : World} {x : DataW H × List MemPlace}
    (ht : Try.prog.underlying t = some (.slice e)) (hc : Try.prog.cellsOf e = E.k)
    (hone : ∀ (fu : Nat) (cs : List Value) (y : DataW H × List MemPlace), DataW.trod enc Try.prog W base (fun _ => true) held fu e cs = some y → ∃ p : α, cs = E.enc p)
    (h : DataW.trod enc Try.prog W base (fun _ => true) held fuel t (Value.slice a len cap).cells.toList = some x) :
    ∃ l : List α, l.length = len ∧ len ≤ cap ∧ l.length ≤ maxLen ∧ Els E 0 W.heap.size W a l := by
  rcases open_slice ht h with ⟨hcs, _⟩ | ⟨y, n, c, m, fu, D, Pl, hcs, _, hl, hm, hmm, _, hel⟩
  · simp [Value.cells] at hcs
    obtain ⟨rfl, rfl, rfl⟩ := hcs
    exact ⟨[], rfl, Nat.le_refl _, by simp, Or.inl rfl⟩
  · simp [Value.cells] at hcs
    obtain ⟨rfl, rfl, rfl⟩ := hcs
    have hm2 : m = cap := by rw [hmm]; simp
    have key : ∀ j, j < len → ∃ p : α, ∀ i v, (E.enc p)[i]? = some v → W.cell? ((y.add (j * E.k)).add i) = some v := by
      intro j hj
      obtain ⟨cs, hcl, htr⟩ := hel j (by omega)
      rw [hc] at hcl
      obtain ⟨_, hlen, hat⟩ := World.cells?_some hcl
      obtain ⟨p, rfl⟩ := hone _ _ _ htr
      refine ⟨p, fun i v hi => ?_⟩
      have hil := (List.getElem?_eq_some_iff.1 hi).1
      rw [E.len] at hil
      rw [hat i hil, hi]
    obtain ⟨l, hll, hp⟩ := list_of18 len _ key
    refine ⟨l, hll, by omega, by omega, ?_⟩
    rcases Nat.eq_zero_or_pos len with h0 | h0
    · have : l = [] := List.length_eq_zero_iff.1 (by omega)
      rw [this]; exact Or.inl rfl
    · obtain ⟨b, off, spot⟩ := y
      have hx0 : l[0]? = some l[0] := List.getElem?_eq_getElem (by omega)
      have hv0 : (E.enc l[0])[0]? = some ((E.enc l[0])[0]'(by rw [E.len]; exact E.pos)) := List.getElem?_eq_getElem (by rw [E.len]; exact E.pos)
      have hc0 := hp 0 _ hx0 0 _ hv0
      have hspot : spot = none := by simpa [Addr.add] using World.cell?_spot hc0
      subst hspot
      have hbl : b < W.heap.size := by
        have := World.block_lt_of_cell? W _ hc0
        simpa [Addr.add] using this
      refine Or.inr ⟨b, off, rfl, Nat.zero_le _, hbl, fun j u hj => ?_⟩
      obtain ⟨p, h1, h2⟩ := E.cells_from18 hj
      have := hp _ _ h1 _ _ h2
      rw [add_lies18, add_lies18, Nat.add_assoc, Nat.mul_comm, Nat.div_add_mod] at this
      exact this
theorem five_parts18 {cs : List Value} {a b c d e : Value} (hl : cs.length = 5) (h0 : (cs.drop 0).take 1 = [a]) (h1 : (cs.drop 1).take 1 = [b]) (h2 : (cs.drop 2).take 1 = [c]) (h3 : (cs.drop 3).take 1 = [d]) (h4 : (cs.drop 4).take 1 = [e]) : cs = [a, b, c, d, e] := by
  match cs, hl with
  | [_, _, _, _, _], _ => simp at h0 h1 h2 h3 h4; simp [h0, h1, h2, h3, h4]
theorem three_parts18 {cs : List Value} {a b c : Value} (hl : cs.length = 3) (h0 : (cs.drop 0).take 1 = [a]) (h1 : (cs.drop 1).take 1 = [b]) (h2 : (cs.drop 2).take 1 = [c]) : cs = [a, b, c] := by
  match cs, hl with
  | [_, _, _], _ => simp at h0 h1 h2; simp [h0, h1, h2]
theorem row_cells18 {H : Type} {enc : TypeId × Value → H} {P : Program} {base : Nat} {spare : Nat → Bool} {held : Bool} {fuel : Nat} {cs : List Value} {W : World} {x : DataW H × List MemPlace} {e i : TypeId} {f0 f1 f2 f3 f4 : Field}
    (he : P.underlying e = some (.struct #[f0, f1, f2, f3, f4])) (hi : P.underlying i = some (.int .i64)) (hec : P.cellsOf e = 5) (hic : P.cellsOf i = 1)
    (t0 : f0.type = i) (t1 : f1.type = i) (t2 : f2.type = i) (t3 : f3.type = i) (t4 : f4.type = i) (o0 : f0.offset = 0) (o1 : f1.offset = 1) (o2 : f2.offset = 2) (o3 : f3.offset = 3) (o4 : f4.offset = 4)
    (h : DataW.trod enc P W base spare held fuel e cs = some x) : ∃ p : Row18, cs = rowElt.enc p := by
  obtain ⟨xs, n, _, _, hlen, hxl, hg⟩ := DataW.trod_struct he h
  have g0 := hg 0 f0 rfl
  have g1 := hg 1 f1 rfl
  have g2 := hg 2 f2 rfl
  have g3 := hg 3 f3 rfl
  have g4 := hg 4 f4 rfl
  rw [t0, o0, hic] at g0
  rw [t1, o1, hic] at g1
  rw [t2, o2, hic] at g2
  rw [t3, o3, hic] at g3
  rw [t4, o4, hic] at g4
  match xs, hxl with
  | [y0, y1, y2, y3, y4], _ =>
    obtain ⟨n0, e0, _, _⟩ := DataW.trod_int hi g0
    obtain ⟨n1, e1, _, _⟩ := DataW.trod_int hi g1
    obtain ⟨n2, e2, _, _⟩ := DataW.trod_int hi g2
    obtain ⟨n3, e3, _, _⟩ := DataW.trod_int hi g3
    obtain ⟨n4, e4, _, _⟩ := DataW.trod_int hi g4
    exact ⟨⟨n0, n1, n2, n3, n4⟩, five_parts18 (hlen.trans hec) e0 e1 e2 e3 e4⟩
/-- A row by value. -/
theorem row_of18 {H : Type} {enc : TypeId × Value → H} {P : Program} {w : World} {base : Nat} {spare : Nat → Bool} {held : Bool} {r : Reach} {b0 : Nat} {e i : TypeId} {f0 f1 f2 f3 f4 : Field} {v : Value} {d : DataW H} {p : List MemPlace}
    (he : P.underlying e = some (.struct #[f0, f1, f2, f3, f4])) (hi : P.underlying i = some (.int .i64)) (hec : P.cellsOf e = 5) (hic : P.cellsOf i = 1)
    (t0 : f0.type = i) (t1 : f1.type = i) (t2 : f2.type = i) (t3 : f3.type = i) (t4 : f4.type = i) (o0 : f0.offset = 0) (o1 : f1.offset = 1) (o2 : f2.offset = 2) (o3 : f3.offset = 3) (o4 : f4.offset = 4)
    (hv : Value.okWide P w r b0 e v) (h : DataW.Trod enc P w base spare held e v d p) : ∃ x : Row18, v = rowVal x := by
  obtain ⟨cs, rfl, _⟩ := WideShapes.okWide_struct he hv
  obtain ⟨fuel, hf⟩ := h
  obtain ⟨x, hx⟩ := row_cells18 he hi hec hic t0 t1 t2 t3 t4 o0 o1 o2 o3 o4 hf
  obtain ⟨l⟩ := cs
  exact ⟨x, by simp [Value.cells] at hx; rw [hx]; rfl⟩
/-- Facts by value. -/
theorem fact_of18 {H : Type} {enc : TypeId × Value → H} {P : Program} {w : World} {base : Nat} {spare : Nat → Bool} {held : Bool} {r : Reach} {b0 : Nat} {e i b : TypeId} {f0 f1 f2 : Field} {v : Value} {d : DataW H} {p : List MemPlace}
    (he : P.underlying e = some (.struct #[f0, f1, f2])) (hi : P.underlying i = some (.int .i64)) (hb : P.underlying b = some .bool) (hec : P.cellsOf e = 3) (hic : P.cellsOf i = 1) (hbc : P.cellsOf b = 1)
    (t0 : f0.type = i) (t1 : f1.type = b) (t2 : f2.type = i) (o0 : f0.offset = 0) (o1 : f1.offset = 1) (o2 : f2.offset = 2)
    (hv : Value.okWide P w r b0 e v) (h : DataW.Trod enc P w base spare held e v d p) : ∃ x : Fact18, v = factVal x := by
  obtain ⟨cs, rfl, _⟩ := WideShapes.okWide_struct he hv
  obtain ⟨fuel, hf⟩ := h
  obtain ⟨xs, n, _, _, hlen, hxl, hg⟩ := DataW.trod_struct he hf
  have g0 := hg 0 f0 rfl
  have g1 := hg 1 f1 rfl
  have g2 := hg 2 f2 rfl
  rw [t0, o0, hic] at g0
  rw [t1, o1, hbc] at g1
  rw [t2, o2, hic] at g2
  match xs, hxl with
  | [y0, y1, y2], _ =>
    obtain ⟨n0, e0, _, _⟩ := DataW.trod_int hi g0
    obtain ⟨n1, e1, _⟩ := DataW.trod_bool hb g1
    obtain ⟨n2, e2, _, _⟩ := DataW.trod_int hi g2
    have hx := three_parts18 (hlen.trans hec) e0 e1 e2
    obtain ⟨l⟩ := cs
    exact ⟨⟨n0, n1, n2⟩, by simp [Value.cells] at hx; rw [hx]⟩
/-- A slice of rows. -/
theorem rows_of18 {H : Type} {enc : TypeId × Value → H} {base : Nat} {held : Bool} {t e i : TypeId} {fuel : Nat} {a : Option Addr} {len cap : Nat} {W : World} {x : DataW H × List MemPlace} {f0 f1 f2 f3 f4 : Field}
    (ht : Try.prog.underlying t = some (.slice e)) (he : Try.prog.underlying e = some (.struct #[f0, f1, f2, f3, f4])) (hi : Try.prog.underlying i = some (.int .i64)) (hec : Try.prog.cellsOf e = 5) (hic : Try.prog.cellsOf i = 1)
    (t0 : f0.type = i) (t1 : f1.type = i) (t2 : f2.type = i) (t3 : f3.type = i) (t4 : f4.type = i) (o0 : f0.offset = 0) (o1 : f1.offset = 1) (o2 : f2.offset = 2) (o3 : f3.offset = 3) (o4 : f4.offset = 4)
    (h : DataW.trod enc Try.prog W base (fun _ => true) held fuel t (Value.slice a len cap).cells.toList = some x) :
    ∃ l : List Row18, l.length = len ∧ len ≤ cap ∧ l.length ≤ maxLen ∧ RowsIn W.heap.size W a l :=
  elts18_of rowElt ht hec (fun _ _ _ hf => row_cells18 he hi hec hic t0 t1 t2 t3 t4 o0 o1 o2 o3 o4 hf) h
end Go.Proofs.Ytifihejogbcbgaa
