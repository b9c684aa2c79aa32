/- The program's Of, Under and Count: what they collect of the pairs that the iterator hands on, for every index and in every world. (Written by gen_prgc14.py.) -/
import Derived.Test.YtnbmccfaomhppaaPrgB14
import Derived.Test.YtnbmccfaomhppaaWake13
namespace Go.Proofs.Ytnbmccfaomhppaa
open Go.RowKit Go.Shelf
attribute [local go_sem] Oper.semAt_some

/-- Under way: a value in a box, and a list of the call's own in another one. -/
structure Col14 (w : World) (tb : TypeId) (q : Value) (t e : TypeId) (cs : List Value) (a : Option Addr) (c : Nat) (W : World) : Prop where
  box : Boxed W (w.heap.size + 1) tb q
  var : Boxed W (w.heap.size + 1 + 1) t (.slice a cs.length c)
  row : W.ownsRow (w.heap.size + 4) e 1 (.slice a cs.length c) cs.length cs
  old : Below w.heap.size w W
  big : w.heap.size + 4 ≤ W.heap.size
theorem owns_but {W W' : World} {B k : Nat} {e : TypeId} {v : Value} {xs : List Value} {row : Option Nat} (h : W.ownsRow B e 1 v k xs) (hg : W.grownBy W' row) (hr : ∀ r, row = some r → ∃ o : Obj, W.heap[r]? = some o ∧ ∀ cs fr, o ≠ .cells cs e fr) : W'.ownsRow B e 1 v k xs := by
  refine ⟨h.1, ?_⟩
  rcases h.2 with h1 | ⟨g, cap, cur, h1, h2, h3, h4⟩
  · exact Or.inl h1
  · refine Or.inr ⟨g, cap, cur, h1, h2, ?_, h4⟩
    rw [hg.block g (Array.getElem?_eq_some_iff.1 h3).1 (fun e' => by
      obtain ⟨o, ho, hn⟩ := hr g e'.symm
      rw [h3] at ho
      exact hn _ _ (Option.some.inj ho).symm)]
    exact h3
theorem Col14.turn {w : World} {tb t e T : TypeId} {q : Value} {cs : List Value} {a : Option Addr} {c : Nat} {W W' : World} {row : Option Nat} (hT : T ≠ e) (h : Col14 w tb q t e cs a c W) (hg : W.grownBy W' row)
    (hr : ∀ r, row = some r → w.heap.size + 4 ≤ r ∧ ∃ o : Obj, W.heap[r]? = some o ∧ (o.isCells = false ∨ ∃ cs fr, o = .cells cs T fr)) : Col14 w tb q t e cs a c W' := by
  refine ⟨h.box.kept hg ?_, h.var.kept hg ?_, owns_but h.row hg ?_, ?_, Nat.le_trans h.big hg.size⟩
  · intro e; have := (hr _ e.symm).1; omega
  · intro e; have := (hr _ e.symm).1; omega
  · intro r e
    obtain ⟨o, ho, hc⟩ := (hr r e).2
    refine ⟨o, ho, fun cs fr e2 => ?_⟩
    rcases hc with hc | ⟨cs', fr', rfl⟩
    · rw [e2] at hc; cases hc
    · injection e2 with _ e3
      exact hT e3
  · exact h.old.grown hg (by have := h.old.size; omega) (fun k e => by have := (hr k e).1; omega)
theorem owns_low {W : World} {B B' k : Nat} {e : TypeId} {v : Value} {xs : List Value} (h : W.ownsRow B e 1 v k xs) (hB : B' ≤ B) : W.ownsRow B' e 1 v k xs := by
  refine ⟨h.1, ?_⟩
  rcases h.2 with h1 | ⟨g, cap, cur, h1, h2, h3⟩
  · exact Or.inl h1
  · exact Or.inr ⟨g, cap, cur, h1, by omega, h3⟩
/-- What the call returns with: the row, behind the turn of the deferred calls' block. -/
theorem Col14.out {w : World} {tb t e : TypeId} {q : Value} {cs : List Value} {a : Option Addr} {c D : Nat} {W : World} {o : Obj} (h : Col14 w tb q t e cs a c W) (hD : w.heap.size ≤ D) (hK : W.heap[D]? = some o) (ho : o.isCells = false) (hw : o.isWalk = false) (o' : Obj) :
    cs.length ≤ c ∧ Rw w.heap.size (W.putObj D o').heap.size (W.putObj D o') a cs ∧ Below w.heap.size w (W.putObj D o') := by
  have hr := ownsRow_putObj h.row o' hK ho
  obtain ⟨a', c', hv, hc, _, ht⟩ := rw_own hr
  injection hv with e1 _ e3
  subst e1 e3
  exact ⟨hc, ht.wide (by omega) (Nat.le_refl _), h.old.trans (belowK_b (w := w) (Nat.le_refl _) W D o o' hD hK ho hw)⟩
theorem of_snoc (pre : List Pr) (x : Pr) (s : List UInt8) : ofP (pre ++ [x]) s = if x.1 = s then ofP pre s ++ [x.2] else ofP pre s := by
  unfold ofP
  rw [List.filter_append, List.map_append]
  by_cases h : x.1 = s
  · rw [if_pos h, List.filter_cons_of_pos (by simpa using h)]
    rfl
  · rw [if_neg h, List.filter_cons_of_neg (by simpa using h)]
    simp
theorem under_snoc (pre : List Pr) (x : Pr) (n : Int) : underP (pre ++ [x]) n = if x.2 = n then underP pre n ++ [x.1] else underP pre n := by
  unfold underP
  rw [List.filter_append, List.map_append]
  by_cases h : x.2 = n
  · rw [if_pos h, List.filter_cons_of_pos (by simpa using h)]
    rfl
  · rw [if_neg h, List.filter_cons_of_neg (by simpa using h)]
    simp
theorem infoI14 : (Try.prog.info? 3).map (fun i => (i.zero, i.size, i.bytes)) = some (some (.int .i64 0), 1, 8) := by kernel_rfl

def ofTmps (w : World) (iv : Value) (q : List UInt8) (x : Pr) : Array Value := #[iv, .string (tx q), .pointer (some ⟨w.heap.size, 0, none⟩), .pointer (some ⟨w.heap.size + 1, 0, none⟩), .slice none 0 0, .pointer (some ⟨w.heap.size + 1 + 1, 0, none⟩), .string (tx x.1), .int .i64 x.2, iv, .func (.func 37) #[] #[.pointer (some ⟨w.heap.size + 1 + 1 + 1, 0, none⟩)], .string (tx x.1), .int .i64 x.2, undef, undef, undef, undef, undef, undef, undef, undef]
set_option maxRecDepth 100000 in
set_option maxHeartbeats 4000000 in
theorem pof14_any (ka : Option Addr) (kc : Nat) (ia : Option Addr) (ic : Nat) (K : List (List UInt8)) (I : List (List Int)) (q : List UInt8) (w : World) (hx : IxV w ka kc ia ic K I) (hs : Small14 K I) :
    Calls Try.prog 11 #[ixVal ka kc ia ic K I, .string (tx q)] w fun e w' => ∃ a c, e = .returned (.slice a (ofP (okL (pairsO K I) (pairsV K I)) q).length c) ∧ (ofP (okL (pairsO K I) (pairsV K I)) q).length ≤ c ∧ Rw w.heap.size w'.heap.size w' a (intCells (ofP (okL (pairsO K I) (pairsV K I)) q)) ∧ Below w.heap.size w w' := by
  have hfr := fun v => pairs14_any ka kc ia ic K I v
  refine (callsIn_wide (n := 3)).1 ?_
  refine callsIn_of_wp_marks Try.func11 rfl trivial ?_ rfl
  simp only [Try.ntmps11, List.size_toArray, List.length_cons, List.length_nil, Nat.reduceAdd, Nat.reduceSub, Array.replicate_succ, Array.replicate_zero, List.push_toArray, List.append_toArray, List.nil_append, List.cons_append]
  gi_wp2_with (refine ⟨trivial, ?_⟩; gi_at_call 27; refine (callsIn_wide.2 (hfr _)).mono ?_; rintro e w2 ⟨rfl, rfl⟩)
  obtain ⟨W0, hW0⟩ : ∃ W0, (((w.alloc (.cells #[.slice ka K.length kc, .slice ia I.length ic] 25)).alloc (.cells #[.string (tx q)] 9)).alloc (.cells #[.slice none 0 0] 33)).alloc (.cells #[.slice ka K.length kc, .slice ia I.length ic] 25) = W0 := ⟨_, rfl⟩
  have hsz : W0.heap.size = w.heap.size + 4 := by rw [← hW0]; simp
  have hold : Below w.heap.size w W0 := by
    rw [← hW0]
    exact ((((Below.refl _ w).alloc (Nat.le_refl _) _).alloc (by simp) _).alloc (by simp; omega) _).alloc (by simp; omega) _
  have k1 : Boxed W0 (w.heap.size + 1) 9 (.string (tx q)) := by
    have h := ((Boxed.new (w.alloc (.cells #[.slice ka K.length kc, .slice ia I.length ic] 25)) 9 (.string (tx q))).alloc (.cells #[.slice none 0 0] 33)).alloc (.cells #[.slice ka K.length kc, .slice ia I.length ic] 25)
    rw [World.size_alloc] at h
    rw [← hW0]; exact h
  have k2 : Boxed W0 (w.heap.size + 1 + 1) 33 (.slice none 0 0) := by
    have h := (Boxed.new ((w.alloc (.cells #[.slice ka K.length kc, .slice ia I.length ic] 25)).alloc (.cells #[.string (tx q)] 9)) 33 (.slice none 0 0)).alloc (.cells #[.slice ka K.length kc, .slice ia I.length ic] 25)
    simp only [World.size_alloc] at h
    rw [← hW0]; exact h
  have k3 : W0.heap[w.heap.size + 1 + 1 + 1]? = some (.cells #[.slice ka K.length kc, .slice ia I.length ic] 25 (0, 0)) := by
    have h := World.alloc_heap_new (((w.alloc (.cells #[.slice ka K.length kc, .slice ia I.length ic] 25)).alloc (.cells #[.string (tx q)] 9)).alloc (.cells #[.slice none 0 0] 33)) (.cells #[.slice ka K.length kc, .slice ia I.length ic] 25)
    simp only [World.size_alloc] at h
    rw [← hW0]; exact h
  rw [hW0]
  clear hW0
  have hsc : Col14 w 9 (.string (tx q)) 33 3 (intCells (ofP [] q)) none 0 W0 := ⟨k1, k2, World.ownsRow_nil _ _ _ _, hold, by omega⟩
  have HTE : 25 ≠ 3 := by decide
  refine range_var (T := 25) (F := Fence.wide) rfl (by omega) (gf := 37) (lb := #[.pointer (some ⟨w.heap.size + 1 + 1 + 1, 0, none⟩)]) rfl trivial (enters_of Try.func37 (by kernel_rfl) rfl)
    (pairs_seq 2 (by omega) 25 ka kc ia ic K I w W0 hx hs (w.heap.size + 1 + 1 + 1) hold (by omega) k3) keptx_trans (fun W l o o' hl h ho => keptx_put (m := W0.heap.size) (by omega) (by omega) W l o o' hl h ho) (Below.refl _ _) (fun _ => rfl)
    (fun pre W => ∃ a c, Col14 w 9 (.string (tx q)) 33 3 (intCells (ofP pre q)) a c W)
    (fun _ _ _ => False)
    (fun pre A B row h hg hr => by
      obtain ⟨a, c, h1⟩ := h
      exact ⟨a, c, h1.turn HTE hg (fun r e => ⟨by have := (hr r e).1; omega, (hr r e).2⟩)⟩)
    (fun _ _ _ _ _ h _ _ => h)
    ⟨none, 0, hsc⟩
    (fun x a' _ => a' = { tmps := ofTmps w (ixVal ka kc ia ic K I) q x, defers := [] })
    (fun x a' W l o o' hl h ho hax => hax) ?assign ?body ?done ?stop
  case assign =>
    rintro l pre x W P ⟨a, c, h1⟩ hP
    dsimp only [prEnc]
    gi_wp2
    exact hP _ _ (KeepsFrom.refl _ _) ⟨Below.refl _ _, rfl⟩ ⟨a, c, h1⟩ rfl
  case body =>
    rintro l pre x a' W ⟨a, c, h1⟩ rfl hlt
    unfold ofTmps
    have c0 := h1.box.cell
    have c1 := h1.var.cell
    have hln : (intCells (ofP pre q)).length ≤ 2000 := by
      rw [intCells_len]
      exact Nat.le_trans (of_len pre q) (by omega)
    have hsn := of_snoc pre x q
    by_cases q1 : x.1 = q
    · rw [if_pos q1] at hsn
      have hcells : intCells (ofP (pre ++ [x]) q) = intCells (ofP pre q) ++ [.int .i64 x.2] := by rw [hsn]; simp [intCells]
      have HC := Lib.hid hcells
      have e1 : ((tx x.1).toList == (tx q).toList) = true := by rw [tx_beq]; exact beq_iff_eq.2 q1
      clear q1 hsn hcells
      generalize intCells (ofP pre q) = cs at *
      obtain ⟨i0, hi, hz0, hz1, hz2⟩ := info_parts infoI14
      gi_wp2_with (gi_at_builtin; refine wpListIn_append_own _ rfl _ _ 33 rfl (w.heap.size + 4) 3 i0 (.int .i64 0) 1 8 Try.underlying33 hi hz0 hz1 hz2 rfl (by decide) _ _ _ rfl (h1.row.alloc _) ⟨W.heap.size, 0, none⟩ 1 1 [.int .i64 x.2] rfl rfl (cell_one_new _ _ _) (by simp [Value.oneCell']) (by unfold maxLen; omega) (by omega) (by have := h1.big; simp; omega) ?_; intro v' w1 hown' hgrow _; obtain ⟨g', cap', rfl⟩ := ownsRow_succ hown'; obtain ⟨hv1, hv2, _, hk2, _⟩ := h1.var.appended (by decide) (owns_low h1.row (show w.heap.size ≤ w.heap.size + 4 by omega)) h1.old.size (by omega) (owns_low hown' (show w.heap.size ≤ w.heap.size + 4 by omega)) hgrow; have hc1 := hv1.cell; have hf1 := hv1.frozen)
      have hkept : KeptX w.heap.size (w.heap.size + 1 + 1 + 1) W (w1.setCell ⟨w.heap.size + 1 + 1, 0, none⟩ (.slice (some ⟨g', 0, none⟩) (cs.length + 1) cap')) :=
        keptx_trans (keptx_alloc W _ h1.old.size (by have := h1.big; omega)) (keptx_trans (keptx_row (h1.row.alloc _) hgrow (by omega) (by omega) (by have := h1.big; simp; omega) (by have := h1.big; simp; omega)) (keptx_set (by omega) (by omega) _))
      have hbx := ((h1.box.alloc _).kept hgrow (h1.box.not_row (by decide) h1.row)).other (show w.heap.size + 1 ≠ w.heap.size + 1 + 1 by omega) (.slice (some ⟨g', 0, none⟩) (cs.length + 1) cap')
      have hrow1 := owns_but hown' (grownBy_setCell' w1 (w.heap.size + 1 + 1) (.slice (some ⟨g', 0, none⟩) (cs.length + 1) cap')) (fun r e => by
        cases e
        exact ⟨_, hv1, fun cs fr e2 => by
          injection e2 with _ e3
          revert e3
          decide⟩)
      have hlen : (cs ++ [(.int .i64 x.2 : Value)]).length = cs.length + 1 := by simp
      refine ⟨hk2.from _, hkept, some ⟨g', 0, none⟩, cap', ?_⟩
      rw [HC.out]
      refine ⟨hbx, ?_, ?_, h1.old.trans hkept.1, Nat.le_trans h1.big hkept.1.size⟩
      · rw [hlen]; exact hv2
      · rw [hlen]; exact hrow1
    · rw [if_neg q1] at hsn
      have e1 : ((tx x.1).toList == (tx q).toList) = false := by rw [tx_beq]; exact beq_eq_false_iff_ne.2 q1
      clear q1
      gi_wp2
      refine ⟨KeepsFrom.refl _ _, ⟨Below.refl _ _, rfl⟩, a, c, ?_⟩
      rw [hsn]
      exact h1
  case done =>
    rintro D xs W hD rfl ⟨a, c, h1⟩ hK
    have c1 := h1.var.cell
    obtain ⟨o1, o2, o3⟩ := h1.out (by omega) hK rfl rfl (.deferred none)
    rw [intCells_len] at o1 c1
    clear h1
    gi_wp2
    refine ⟨by simp, .inl ⟨_, _, rfl, run_takeDeferred hK, ?_⟩⟩
    exact ⟨_, results_tmp rfl _ _ _, a, c, rfl, o1, o2, o3⟩
  case stop =>
    rintro D j pre W hD _ h _
    exact h.elim

def underTmps (w : World) (iv : Value) (q : Int) (x : Pr) : Array Value := #[iv, .int .i64 q, .pointer (some ⟨w.heap.size, 0, none⟩), .pointer (some ⟨w.heap.size + 1, 0, none⟩), .slice none 0 0, .pointer (some ⟨w.heap.size + 1 + 1, 0, none⟩), .string (tx x.1), .int .i64 x.2, iv, .func (.func 37) #[] #[.pointer (some ⟨w.heap.size + 1 + 1 + 1, 0, none⟩)], .string (tx x.1), .int .i64 x.2, undef, undef, undef, undef, undef, undef, undef, undef]
set_option maxRecDepth 100000 in
set_option maxHeartbeats 4000000 in
theorem punder14_any (ka : Option Addr) (kc : Nat) (ia : Option Addr) (ic : Nat) (K : List (List UInt8)) (I : List (List Int)) (q : Int) (w : World) (hx : IxV w ka kc ia ic K I) (hs : Small14 K I) :
    Calls Try.prog 12 #[ixVal ka kc ia ic K I, .int .i64 q] w fun e w' => ∃ a c, e = .returned (.slice a (underP (okL (pairsO K I) (pairsV K I)) q).length c) ∧ (underP (okL (pairsO K I) (pairsV K I)) q).length ≤ c ∧ Rw w.heap.size w'.heap.size w' a (txCells (underP (okL (pairsO K I) (pairsV K I)) q)) ∧ Below w.heap.size w w' := by
  have hfr := fun v => pairs14_any ka kc ia ic K I v
  refine (callsIn_wide (n := 3)).1 ?_
  refine callsIn_of_wp_marks Try.func12 rfl trivial ?_ rfl
  simp only [Try.ntmps12, List.size_toArray, List.length_cons, List.length_nil, Nat.reduceAdd, Nat.reduceSub, Array.replicate_succ, Array.replicate_zero, List.push_toArray, List.append_toArray, List.nil_append, List.cons_append]
  gi_wp2_with (refine ⟨trivial, ?_⟩; gi_at_call 27; refine (callsIn_wide.2 (hfr _)).mono ?_; rintro e w2 ⟨rfl, rfl⟩)
  obtain ⟨W0, hW0⟩ : ∃ W0, (((w.alloc (.cells #[.slice ka K.length kc, .slice ia I.length ic] 25)).alloc (.cells #[.int .i64 q] 3)).alloc (.cells #[.slice none 0 0] 22)).alloc (.cells #[.slice ka K.length kc, .slice ia I.length ic] 25) = W0 := ⟨_, rfl⟩
  have hsz : W0.heap.size = w.heap.size + 4 := by rw [← hW0]; simp
  have hold : Below w.heap.size w W0 := by
    rw [← hW0]
    exact ((((Below.refl _ w).alloc (Nat.le_refl _) _).alloc (by simp) _).alloc (by simp; omega) _).alloc (by simp; omega) _
  have k1 : Boxed W0 (w.heap.size + 1) 3 (.int .i64 q) := by
    have h := ((Boxed.new (w.alloc (.cells #[.slice ka K.length kc, .slice ia I.length ic] 25)) 3 (.int .i64 q)).alloc (.cells #[.slice none 0 0] 22)).alloc (.cells #[.slice ka K.length kc, .slice ia I.length ic] 25)
    rw [World.size_alloc] at h
    rw [← hW0]; exact h
  have k2 : Boxed W0 (w.heap.size + 1 + 1) 22 (.slice none 0 0) := by
    have h := (Boxed.new ((w.alloc (.cells #[.slice ka K.length kc, .slice ia I.length ic] 25)).alloc (.cells #[.int .i64 q] 3)) 22 (.slice none 0 0)).alloc (.cells #[.slice ka K.length kc, .slice ia I.length ic] 25)
    simp only [World.size_alloc] at h
    rw [← hW0]; exact h
  have k3 : W0.heap[w.heap.size + 1 + 1 + 1]? = some (.cells #[.slice ka K.length kc, .slice ia I.length ic] 25 (0, 0)) := by
    have h := World.alloc_heap_new (((w.alloc (.cells #[.slice ka K.length kc, .slice ia I.length ic] 25)).alloc (.cells #[.int .i64 q] 3)).alloc (.cells #[.slice none 0 0] 22)) (.cells #[.slice ka K.length kc, .slice ia I.length ic] 25)
    simp only [World.size_alloc] at h
    rw [← hW0]; exact h
  rw [hW0]
  clear hW0
  have hsc : Col14 w 3 (.int .i64 q) 22 9 (txCells (underP [] q)) none 0 W0 := ⟨k1, k2, World.ownsRow_nil _ _ _ _, hold, by omega⟩
  have HTE : 25 ≠ 9 := by decide
  refine range_var (T := 25) (F := Fence.wide) rfl (by omega) (gf := 37) (lb := #[.pointer (some ⟨w.heap.size + 1 + 1 + 1, 0, none⟩)]) rfl trivial (enters_of Try.func37 (by kernel_rfl) rfl)
    (pairs_seq 2 (by omega) 25 ka kc ia ic K I w W0 hx hs (w.heap.size + 1 + 1 + 1) hold (by omega) k3) keptx_trans (fun W l o o' hl h ho => keptx_put (m := W0.heap.size) (by omega) (by omega) W l o o' hl h ho) (Below.refl _ _) (fun _ => rfl)
    (fun pre W => ∃ a c, Col14 w 3 (.int .i64 q) 22 9 (txCells (underP pre q)) a c W)
    (fun _ _ _ => False)
    (fun pre A B row h hg hr => by
      obtain ⟨a, c, h1⟩ := h
      exact ⟨a, c, h1.turn HTE hg (fun r e => ⟨by have := (hr r e).1; omega, (hr r e).2⟩)⟩)
    (fun _ _ _ _ _ h _ _ => h)
    ⟨none, 0, hsc⟩
    (fun x a' _ => a' = { tmps := underTmps w (ixVal ka kc ia ic K I) q x, defers := [] })
    (fun x a' W l o o' hl h ho hax => hax) ?assign ?body ?done ?stop
  case assign =>
    rintro l pre x W P ⟨a, c, h1⟩ hP
    dsimp only [prEnc]
    gi_wp2
    exact hP _ _ (KeepsFrom.refl _ _) ⟨Below.refl _ _, rfl⟩ ⟨a, c, h1⟩ rfl
  case body =>
    rintro l pre x a' W ⟨a, c, h1⟩ rfl hlt
    unfold underTmps
    have c0 := h1.box.cell
    have c1 := h1.var.cell
    have hln : (txCells (underP pre q)).length ≤ 2000 := by
      rw [txCells_len]
      exact Nat.le_trans (under_len pre q) (by omega)
    have hsn := under_snoc pre x q
    by_cases q1 : x.2 = q
    · rw [if_pos q1] at hsn
      have hcells : txCells (underP (pre ++ [x]) q) = txCells (underP pre q) ++ [.string (tx x.1)] := by rw [hsn]; simp [txCells]
      have HC := Lib.hid hcells
      have e1 : (x.2 == q) = true := beq_iff_eq.2 q1
      clear q1 hsn hcells
      generalize txCells (underP pre q) = cs at *
      obtain ⟨i0, hi, hz0, hz1, hz2⟩ := info_parts infoTx
      gi_wp2_with (gi_at_builtin; refine wpListIn_append_own _ rfl _ _ 22 rfl (w.heap.size + 4) 9 i0 (.string ⟨#[]⟩) 1 16 Try.underlying22 hi hz0 hz1 hz2 rfl (by decide) _ _ _ rfl (h1.row.alloc _) ⟨W.heap.size, 0, none⟩ 1 1 [.string (tx x.1)] rfl rfl (cell_one_new _ _ _) (by simp [Value.oneCell']) (by unfold maxLen; omega) (by omega) (by have := h1.big; simp; omega) ?_; intro v' w1 hown' hgrow _; obtain ⟨g', cap', rfl⟩ := ownsRow_succ hown'; obtain ⟨hv1, hv2, _, hk2, _⟩ := h1.var.appended (by decide) (owns_low h1.row (show w.heap.size ≤ w.heap.size + 4 by omega)) h1.old.size (by omega) (owns_low hown' (show w.heap.size ≤ w.heap.size + 4 by omega)) hgrow; have hc1 := hv1.cell; have hf1 := hv1.frozen)
      have hkept : KeptX w.heap.size (w.heap.size + 1 + 1 + 1) W (w1.setCell ⟨w.heap.size + 1 + 1, 0, none⟩ (.slice (some ⟨g', 0, none⟩) (cs.length + 1) cap')) :=
        keptx_trans (keptx_alloc W _ h1.old.size (by have := h1.big; omega)) (keptx_trans (keptx_row (h1.row.alloc _) hgrow (by omega) (by omega) (by have := h1.big; simp; omega) (by have := h1.big; simp; omega)) (keptx_set (by omega) (by omega) _))
      have hbx := ((h1.box.alloc _).kept hgrow (h1.box.not_row (by decide) h1.row)).other (show w.heap.size + 1 ≠ w.heap.size + 1 + 1 by omega) (.slice (some ⟨g', 0, none⟩) (cs.length + 1) cap')
      have hrow1 := owns_but hown' (grownBy_setCell' w1 (w.heap.size + 1 + 1) (.slice (some ⟨g', 0, none⟩) (cs.length + 1) cap')) (fun r e => by
        cases e
        exact ⟨_, hv1, fun cs fr e2 => by
          injection e2 with _ e3
          revert e3
          decide⟩)
      have hlen : (cs ++ [(.string (tx x.1) : Value)]).length = cs.length + 1 := by simp
      refine ⟨hk2.from _, hkept, some ⟨g', 0, none⟩, cap', ?_⟩
      rw [HC.out]
      refine ⟨hbx, ?_, ?_, h1.old.trans hkept.1, Nat.le_trans h1.big hkept.1.size⟩
      · rw [hlen]; exact hv2
      · rw [hlen]; exact hrow1
    · rw [if_neg q1] at hsn
      have e1 : (x.2 == q) = false := beq_eq_false_iff_ne.2 q1
      clear q1
      gi_wp2
      refine ⟨KeepsFrom.refl _ _, ⟨Below.refl _ _, rfl⟩, a, c, ?_⟩
      rw [hsn]
      exact h1
  case done =>
    rintro D xs W hD rfl ⟨a, c, h1⟩ hK
    have c1 := h1.var.cell
    obtain ⟨o1, o2, o3⟩ := h1.out (by omega) hK rfl rfl (.deferred none)
    rw [txCells_len] at o1 c1
    clear h1
    gi_wp2
    refine ⟨by simp, .inl ⟨_, _, rfl, run_takeDeferred hK, ?_⟩⟩
    exact ⟨_, results_tmp rfl _ _ _, a, c, rfl, o1, o2, o3⟩
  case stop =>
    rintro D j pre W hD _ h _
    exact h.elim

/-- Under way: the count in its box. -/
structure Cnt14 (w : World) (n : Nat) (W : World) : Prop where
  box : Boxed W (w.heap.size + 1) 3 (.int .i64 n)
  old : Below w.heap.size w W
  big : w.heap.size + 3 ≤ W.heap.size
theorem Cnt14.turn {w : World} {n : Nat} {W W' : World} {row : Option Nat} (h : Cnt14 w n W) (hg : W.grownBy W' row) (hr : ∀ r, row = some r → w.heap.size + 3 ≤ r) : Cnt14 w n W' :=
  ⟨h.box.kept hg (fun e => by have := hr _ e.symm; omega), h.old.grown hg (by have := h.old.size; omega) (fun k e => by have := hr k e; omega), Nat.le_trans h.big hg.size⟩
set_option maxRecDepth 100000 in
set_option maxHeartbeats 4000000 in
theorem pcount14_any (ka : Option Addr) (kc : Nat) (ia : Option Addr) (ic : Nat) (K : List (List UInt8)) (I : List (List Int)) (w : World) (hx : IxV w ka kc ia ic K I) (hs : Small14 K I) :
    Calls Try.prog 13 #[ixVal ka kc ia ic K I] w fun e w' => e = .returned (.int .i64 (okL (pairsO K I) (pairsV K I)).length) ∧ Below w.heap.size w w' := by
  have hfr := fun v => pairs14_any ka kc ia ic K I v
  refine (callsIn_wide (n := 3)).1 ?_
  refine callsIn_of_wp_marks Try.func13 rfl trivial ?_ rfl
  simp only [Try.ntmps13, List.size_toArray, List.length_cons, List.length_nil, Nat.reduceAdd, Nat.reduceSub, Array.replicate_succ, Array.replicate_zero, List.push_toArray, List.append_toArray, List.nil_append, List.cons_append]
  gi_wp2_with (refine ⟨trivial, ?_⟩; gi_at_call 27; refine (callsIn_wide.2 (hfr _)).mono ?_; rintro e w2 ⟨rfl, rfl⟩)
  obtain ⟨W0, hW0⟩ : ∃ W0, ((w.alloc (.cells #[.slice ka K.length kc, .slice ia I.length ic] 25)).alloc (.cells #[.int .i64 0] 3)).alloc (.cells #[.slice ka K.length kc, .slice ia I.length ic] 25) = W0 := ⟨_, rfl⟩
  have hsz : W0.heap.size = w.heap.size + 3 := by rw [← hW0]; simp
  have hold : Below w.heap.size w W0 := by
    rw [← hW0]
    exact (((Below.refl _ w).alloc (Nat.le_refl _) _).alloc (by simp) _).alloc (by simp; omega) _
  have k1 : Boxed W0 (w.heap.size + 1) 3 (.int .i64 0) := by
    have h := (Boxed.new (w.alloc (.cells #[.slice ka K.length kc, .slice ia I.length ic] 25)) 3 (.int .i64 0)).alloc (.cells #[.slice ka K.length kc, .slice ia I.length ic] 25)
    rw [World.size_alloc] at h
    rw [← hW0]; exact h
  have k3 : W0.heap[w.heap.size + 1 + 1]? = some (.cells #[.slice ka K.length kc, .slice ia I.length ic] 25 (0, 0)) := by
    have h := World.alloc_heap_new ((w.alloc (.cells #[.slice ka K.length kc, .slice ia I.length ic] 25)).alloc (.cells #[.int .i64 0] 3)) (.cells #[.slice ka K.length kc, .slice ia I.length ic] 25)
    simp only [World.size_alloc] at h
    rw [← hW0]; exact h
  rw [hW0]
  clear hW0
  have hsc : Cnt14 w ([] : List Pr).length W0 := ⟨k1, hold, by omega⟩
  refine range_var (T := 25) (F := Fence.wide) rfl (by omega) (gf := 37) (lb := #[.pointer (some ⟨w.heap.size + 1 + 1, 0, none⟩)]) rfl trivial (enters_of Try.func37 (by kernel_rfl) rfl)
    (pairs_seq 2 (by omega) 25 ka kc ia ic K I w W0 hx hs (w.heap.size + 1 + 1) hold (by omega) k3) keptx_trans (fun W l o o' hl h ho => keptx_put (m := W0.heap.size) (by omega) (by omega) W l o o' hl h ho) (Below.refl _ _) (fun _ => rfl)
    (fun pre W => Cnt14 w pre.length W)
    (fun _ _ _ => False)
    (fun pre A B row h hg hr => h.turn hg (fun r e => by have := (hr r e).1; omega))
    (fun _ _ _ _ _ h _ _ => h)
    hsc
    (fun x a' _ => a' = { tmps := #[ixVal ka kc ia ic K I, .pointer (some ⟨w.heap.size, 0, none⟩), .int .i64 0, .pointer (some ⟨w.heap.size + 1, 0, none⟩), ixVal ka kc ia ic K I, .func (.func 37) #[] #[.pointer (some ⟨w.heap.size + 1 + 1, 0, none⟩)], .string (tx x.1), .int .i64 x.2, undef, undef, undef], defers := [] })
    (fun x a' W l o o' hl h ho hax => hax) ?assign ?body ?done ?stop
  case assign =>
    rintro l pre x W P h1 hP
    dsimp only [prEnc]
    gi_wp2
    exact hP _ _ (KeepsFrom.refl _ _) ⟨Below.refl _ _, rfl⟩ h1 (by simp)
  case body =>
    rintro l pre x a' W h1 rfl hlt
    have c0 := h1.box.cell
    have f0 := h1.box.frozen
    have i1 : IntKind.i64.wrap ((pre.length : Int) + 1) = (pre.length : Int) + 1 := IntWalk.i64_in _ (by omega)
    have hlen : ((pre ++ [x]).length : Int) = (pre.length : Int) + 1 := by simp
    gi_wp2
    have hkept : KeptX w.heap.size (w.heap.size + 1 + 1) W (W.setCell ⟨w.heap.size + 1, 0, none⟩ (.int .i64 ((pre.length : Int) + 1))) := keptx_set (by omega) (by omega) _
    exact ⟨(KeepsOthers.setCell _ _ _).from _, hkept, by rw [hlen]; exact h1.box.set _, h1.old.trans hkept.1, Nat.le_trans h1.big hkept.1.size⟩
  case done =>
    rintro D xs W hD rfl h1 hK
    have c0 := h1.box.cell
    have HB := h1.old.trans (belowK_b (w := w) (Nat.le_refl _) W D _ (.deferred none) (by omega) hK rfl rfl)
    clear h1
    gi_wp2
    refine ⟨by simp, .inl ⟨_, _, rfl, run_takeDeferred hK, ?_⟩⟩
    exact ⟨_, results_tmp rfl _ _ _, rfl, HB⟩
  case stop =>
    rintro D j pre W hD _ h _
    exact h.elim
end Go.Proofs.Ytnbmccfaomhppaa
