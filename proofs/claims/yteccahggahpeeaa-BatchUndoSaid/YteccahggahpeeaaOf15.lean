/- The law's own of: the program's store as the document's. -/
import Derived.Test.YteccahggahpeeaaMElt15
import Derived.Test.YteccahggahpeeaaDocF15
import Derived.Test.YteccahggahpeeaaDocI15
namespace Go.Proofs.Yteccahggahpeeaa
open Go.RowKit

theorem step_append_e {α : Type} (E : Elt α) {ops : Array Oper} {o : Oper} {a : Act} {K : Act → World → Prop} {Q : Exit → Act → World → Prop} {V : World} {X : Prop} {t e : TypeId} {z : Value} {bytes : Nat}
    (ht : Try.prog.underlying t = some (.slice e)) (hinfo : (Try.prog.info? e).map (fun i => (i.zero, i.size, i.bytes)) = some (some z, E.k, bytes)) (hzc : z.cells.size = E.k) (hb : bytes ≤ 1000000) (hgd : o.guard = none) (s x : Operand)
    (ho : o.op = .call { callee := .builtin .append, args := #[s, x], argTypes := #[t, t] })
    (B : Nat) (a0 : Option Addr) (c0 : Nat) (l : List α) (hs : a.eval s = .slice a0 l.length c0) (hown : V.ownsRow B e E.k (.slice a0 l.length c0) l.length (E.cells l)) (hB : B ≤ V.heap.size) (p : α) {arr : Array Value} (harr : arr.toList = E.enc p)
    (g : Nat) (hx : a.eval x = .slice (some ⟨g, 0, none⟩) 1 1) (hg : g = V.heap.size) (hk : l.length ≤ 900000)
    (h : ∀ a' c' V' m, Hid (m = l ++ [p]) → V'.ownsRow B e E.k (.slice a' m.length c') m.length (E.cells m) → (V.alloc (.cells arr e)).grownBy V' (Value.slice a0 l.length c0).ownBlock → K (a.put o.dst (.slice a' m.length c')) V') :
    if Region.wanted o (yielded ops a.tmps) = true then Oper.wp Try.prog o a (V.alloc (.cells arr e)) K Q else X := by
  subst hg
  refine step_append_rk hgd s x E.pos ht hinfo hzc ho B l.length _ (E.cells l) (E.cells [p]) hs (hown.alloc _) _ 1 1 0 (V.heap.size + 1) hx (E.cells_len [p]) (lit_one_e V p harr) (E.one_cell [p]) (by omega) hb (by simp; omega) ?_
  intro v' w' ho' hg'
  rw [← E.cells_append] at ho'
  have ho2 : w'.ownsRow B e E.k v' (l ++ [p]).length (E.cells (l ++ [p])) := by rw [List.length_append]; exact ho'
  obtain ⟨a', c', rfl, _, _, _⟩ := rk_own ho2
  exact h a' c' w' _ (Lib.hid rfl) ho2 hg'
theorem cells_to15 (S : St15) {i : Nat} (h : i < S.length) : cellsF 0 (S.take (i + 1)) = cellsF 0 (S.take i) ++ rowC (i : Int) (tab S (i : Int)) := by
  have e : S.take (i + 1) = S.take i ++ [tab S (i : Int)] := by rw [List.take_add_one, List.getElem?_eq_getElem h, tab_at h]; rfl
  rw [e, cells_append, List.length_take, Nat.min_eq_left (by omega)]
  show _ ++ (rowC ((0 + i : Nat) : Int) _ ++ []) = _
  rw [List.append_nil, Nat.zero_add]
theorem rowC_next (t : Int) (T : Tb15) {k : Nat} (h : k < T.length) : rowC t (T.take (k + 1)) = rowC t (T.take k) ++ [(t, (recAt T k).1, (recAt T k).2)] := by
  unfold rowC
  rw [List.take_add_one, recAt_get h, List.map_append]; rfl
structure Of15 (w : World) (ta : Option Addr) (tc : Nat) (S : St15) (a : Option Addr) (c : Nat) (cs : List Cl15) (W : World) : Prop where
  old : Below w.heap.size w W
  box : W.heap[w.heap.size]? = some (.cells #[.slice ta S.length tc] 24 (0, 0))
  res : W.heap[w.heap.size + 1]? = some (.cells #[.int .i64 0, .slice none 0 0] 32 (0, 0))
  sto : W.heap[w.heap.size + 2]? = some (.cells #[.int .i64 S.length, .slice a cs.length c] 32 (0, 0))
  own : W.ownsRow (w.heap.size + 3) 72 3 (.slice a cs.length c) cs.length (clE.cells cs)
theorem Of15.start (w : World) (ta : Option Addr) (tc : Nat) (S : St15) : Of15 w ta tc S none 0 [] (((w.alloc (.cells #[.slice ta S.length tc] 24)).alloc (.cells #[.int .i64 0, .slice none 0 0] 32)).alloc (.cells #[.int .i64 S.length, .slice none 0 0] 32)) := by
  have hb := (((Below.refl _ w).alloc (Nat.le_refl _) (.cells #[.slice ta S.length tc] 24)).alloc (by simp) (.cells #[.int .i64 0, .slice none 0 0] 32)).alloc (by simp; omega) (.cells #[.int .i64 S.length, .slice none 0 0] 32)
  have b3 := below_three (Below.refl _ (((w.alloc (.cells #[.slice ta S.length tc] 24)).alloc (.cells #[.int .i64 0, .slice none 0 0] 32)).alloc (.cells #[.int .i64 S.length, .slice none 0 0] 32)))
  exact ⟨hb, b3.2.1, b3.2.2.1, b3.2.2.2, World.ownsRow_nil _ _ _ _⟩
theorem Of15.step {w : World} {ta : Option Addr} {tc : Nat} {S : St15} {a : Option Addr} {c : Nat} {cs : List Cl15} {W V : World} (h : Of15 w ta tc S a c cs W) (hb : Below W.heap.size W V) : Of15 w ta tc S a c cs V :=
  ⟨h.old.trans (hb.mono h.old.size), old_obj hb h.box, old_obj hb h.res, old_obj hb h.sto, ownk_on h.own hb⟩
theorem Of15.size {w : World} {ta : Option Addr} {tc : Nat} {S : St15} {a : Option Addr} {c : Nat} {cs : List Cl15} {W : World} (h : Of15 w ta tc S a c cs W) : w.heap.size + 3 ≤ W.heap.size := obj_lt h.sto
theorem Of15.facts {w : World} {ta : Option Addr} {tc : Nat} {S : St15} {a : Option Addr} {c : Nat} {cs : List Cl15} {W : World} (h : Of15 w ta tc S a c cs W) : W.cell? ⟨w.heap.size, 0, none⟩ = some (.slice ta S.length tc) ∧ W.cell? ⟨w.heap.size + 2, 0, none⟩ = some (.int .i64 S.length) ∧ W.cell? ⟨w.heap.size + 2, 1, none⟩ = some (.slice a cs.length c) ∧ W.frozen? ⟨w.heap.size + 2, 1, none⟩ = false ∧ W.cell? ⟨w.heap.size + 1, 0, none⟩ = some (.int .i64 0) ∧ W.cell? ⟨w.heap.size + 1, 1, none⟩ = some (.slice none 0 0) ∧ W.frozen? ⟨w.heap.size + 1, 0, none⟩ = false ∧ W.frozen? ⟨w.heap.size + 1, 1, none⟩ = false :=
  ⟨cell_of h.box rfl, cell_of h.sto rfl, cell_of h.sto rfl, frozen_of_row _ _ 1 _ _ h.sto, cell_of h.res rfl, cell_of h.res rfl, frozen_of_row _ _ 0 _ _ h.res, frozen_of_row _ _ 1 _ _ h.res⟩
/-- One more was appended, and not yet stored. -/
theorem Of15.kept {w : World} {ta : Option Addr} {tc : Nat} {S : St15} {a : Option Addr} {c : Nat} {cs : List Cl15} {V V' : World} (h : Of15 w ta tc S a c cs V) {o : Obj} (hg : (V.alloc o).grownBy V' (Value.slice a cs.length c).ownBlock) : Below w.heap.size w V' ∧ V'.heap[w.heap.size]? = some (.cells #[.slice ta S.length tc] 24 (0, 0)) ∧ V'.heap[w.heap.size + 1]? = some (.cells #[.int .i64 0, .slice none 0 0] 32 (0, 0)) ∧ V'.heap[w.heap.size + 2]? = some (.cells #[.int .i64 S.length, .slice a cs.length c] 32 (0, 0)) := by
  have hG := h.size
  have hk : ∀ j, j < w.heap.size + 3 → V'.heap[j]? = V.heap[j]? := fun j hj => by
    rw [hg.block j (by simp; omega) (fun e => by have := h.own.lt j e.symm; omega), Below.heap_alloc V o j (by omega)]
  refine ⟨(h.old.alloc h.old.size o).grown hg (by have := h.old.size; simp; omega) fun j hj => by have := h.own.lt j hj; omega, ?_, ?_, ?_⟩
  · rw [hk _ (by omega)]; exact h.box
  · rw [hk _ (by omega)]; exact h.res
  · rw [hk _ (by omega)]; exact h.sto
theorem Of15.more {w : World} {ta : Option Addr} {tc : Nat} {S : St15} {a : Option Addr} {c : Nat} {cs : List Cl15} {V V' : World} (h : Of15 w ta tc S a c cs V) {o : Obj} {a' : Option Addr} {c' : Nat} {ds : List Cl15} (hg : (V.alloc o).grownBy V' (Value.slice a cs.length c).ownBlock) (ho : V'.ownsRow (w.heap.size + 3) 72 3 (.slice a' ds.length c') ds.length (clE.cells ds)) : Of15 w ta tc S a' c' ds (V'.setCell ⟨w.heap.size + 2, 1, none⟩ (.slice a' ds.length c')) := by
  obtain ⟨k0, k1, k2, k3⟩ := h.kept hg
  refine ⟨k0.setCell (p := ⟨w.heap.size + 2, 1, none⟩) (show w.heap.size ≤ w.heap.size + 2 by omega) _, ?_, ?_, heap_setCell_same V' (w.heap.size + 2) 1 _ _ _ k3, ownsRow_setCell_below ho (show w.heap.size + 2 < w.heap.size + 3 by omega) _⟩
  · rw [heap_set15 _ _ _ _ _ (by omega)]; exact k1
  · rw [heap_set15 _ _ _ _ _ (by omega)]; exact k2
theorem Of15.els {w : World} {ta : Option Addr} {tc : Nat} {S : St15} {a : Option Addr} {c : Nat} {cs : List Cl15} {W : World} (h : Of15 w ta tc S a c cs W) : cs.length ≤ c ∧ Els clE (w.heap.size + 3) W.heap.size W a cs := by
  obtain ⟨a', c', hv, hc, _, ht⟩ := rk_own h.own
  injection hv with h1 _ h3
  subst h1 h3
  exact ⟨hc, ht⟩
def OfOut (w : World) (e : Ending) (w' : World) (S : St15) : Prop :=
  ∃ a' c', e = .returned (docVal S.length a' c' (cellsF 0 S)) ∧ (cellsF 0 S).length ≤ c' ∧ Els clE 0 w'.heap.size w' a' (cellsF 0 S) ∧ Below w.heap.size w w'
theorem Of15.whole {w : World} {ta : Option Addr} {tc : Nat} {S : St15} {a : Option Addr} {c : Nat} {W : World} (h : Of15 w ta tc S a c (cellsF 0 S) W) : OfOut w (.returned (docVal S.length a c (cellsF 0 S))) ((W.setCell ⟨w.heap.size + 1, 0, none⟩ (.int .i64 S.length)).setCell ⟨w.heap.size + 1, 1, none⟩ (.slice a (cellsF 0 S).length c)) S := by
  obtain ⟨h1, h2⟩ := h.els
  exact ⟨a, c, rfl, h1, (((h2.o (P := fun b => b ≠ w.heap.size + 1) (fun b hb _ => by omega)).set (by simp) _).set (by simp) _).els, two_below14 h.old (by omega) _ _⟩
set_option maxRecDepth 100000 in
set_option maxHeartbeats 8000000 in
theorem of15_any (ta : Option Addr) (tc : Nat) (S : St15) (w : World) (h : TabsV 0 w.heap.size w ta S) (hn : (cellsF 0 S).length ≤ 900000) (hcn : S.length ≤ 100000) (hT : ∀ i : Nat, i < S.length → (tab S (i : Int)).length ≤ 900000) :
    Calls Try.prog 11 #[stVal ta tc S] w fun e w' => OfOut w e w' S := by
  have H0 := Lib.hid (Of15.start w ta tc S)
  have HX := Lib.hid h
  have HTL := Lib.hid hT
  have HCL : Hid (∀ (i k : Nat), i < S.length → k ≤ (tab S (i : Int)).length → (cellsF 0 (S.take i) ++ rowC (i : Int) ((tab S (i : Int)).take k)).length ≤ 900000) := Lib.hid fun i k hi hk => by
    have e := cells_split hi
    have : (cellsF 0 S).length = (cellsF 0 (S.take i)).length + ((tab S (i : Int)).length + (cellsF (i + 1) (S.drop (i + 1))).length) := by
      rw [e, List.length_append, List.length_append]; unfold rowC; rw [List.length_map]
    rw [List.length_append]; unfold rowC; rw [List.length_map, List.length_take]; omega
  obtain ⟨b0, b1, b2, b3, b4, b5, b6, b7⟩ := H0.out.facts
  clear h hn hT
  go_enter Try.func11, Try.ntmps11
  go_upto_region 3 with fail
  clear b1 b2 b3 b4 b5 b6 b7
  go_loopw [4] (fun s4 wr => ∃ (i : Nat) (a : Option Addr) (c : Nat) (cs : List Cl15), s4 = .int .i64 i ∧ i ≤ S.length ∧ Hid (Of15 w ta tc S a c cs wr) ∧ Hid (cs = cellsF 0 (S.take i))) (fun i _ => S.length + 1 - (intOf i).toNat)
  case atStart => exact ⟨0, none, 0, [], rfl, by omega, H0, Lib.hid rfl⟩
  case round =>
    clear H0 b0
    obtain ⟨i, a, c, cs, rfl, hi, HA, HM⟩ := hrel
    obtain ⟨b0, b1, b2, b3, b4, b5, b6, b7⟩ := HA.out.facts
    by_cases hlt : i < S.length
    · have i1 : (i : Int) < (S.length : Int) := by omega
      have i3 : (0 : Int) ≤ (i : Int) := by omega
      obtain ⟨tb, toff, ea, htb, aj, cj, x0, _, hT⟩ := HX.out.at hlt
      have HNX := cells_to15 S hlt
      have HCi : Hid (∀ k, k ≤ (tab S (i : Int)).length → (cellsF 0 (S.take i) ++ rowC (i : Int) ((tab S (i : Int)).take k)).length ≤ 900000) := Lib.hid fun k hk => HCL.out i k hlt hk
      have hTl := HTL.out i hlt
      obtain ⟨T, hT2⟩ : ∃ T, tab S (i : Int) = T := ⟨_, rfl⟩
      rw [hT2] at x0 hT HNX HCi hTl
      have HNX := Lib.hid HNX
      have HTW : Hid (∀ W, Below w.heap.size w W → W.cell? ⟨tb, toff + i, none⟩ = some (.slice aj T.length cj)) := Lib.hid fun W hW => (hW.cell (p := ⟨tb, toff + i, none⟩) htb).trans x0
      have HT := Lib.hid hT
      subst ea
      clear hT2 hT x0 htb
      have x0 := HTW.out wr HA.out.old
      have HM0 : Hid (cs = cellsF 0 (S.take i) ++ rowC (i : Int) (T.take 0)) := Lib.hid (by rw [HM.out]; show _ = _ ++ []; rw [List.append_nil])
      go_upto_region 6 with fail
      go_loopw [5] (fun s5 wr => ∃ (k : Nat) (a : Option Addr) (c : Nat) (cs : List Cl15), s5 = .int .i64 k ∧ k ≤ T.length ∧ Hid (Of15 w (some ⟨tb, toff, none⟩) tc S a c cs wr) ∧ Hid (cs = cellsF 0 (S.take i) ++ rowC (i : Int) (T.take k))) (fun k _ => T.length + 1 - (intOf k).toNat)
      case atStart => exact ⟨0, a, c, cs, rfl, by omega, HA, HM0⟩
      case round =>
        clear HA HM HM0 b0 b1 b2 b3 b4 b5 b6 b7 x0
        obtain ⟨k, a, c, cs, rfl, hk, HA, HM⟩ := hrel
        obtain ⟨b0, b1, b2, b3, b4, b5, b6, b7⟩ := HA.out.facts
        have x0 := HTW.out wr HA.out.old
        by_cases hlt2 : k < T.length
        · have j1 : (k : Int) < (T.length : Int) := by omega
          have j3 : (0 : Int) ≤ (k : Int) := by omega
          obtain ⟨rb, roff, eb, hbb, o0, o1⟩ := recs_at HT.out hlt2
          have hml : cs.length ≤ 900000 := by rw [HM.out]; exact HCi.out k hk
          have HM3 : Hid (cs ++ [((i : Int), (recAt T k).1, (recAt T k).2)] = cellsF 0 (S.take i) ++ rowC (i : Int) (T.take (k + 1))) := Lib.hid (by rw [HM.out, rowC_next _ _ hlt2, List.append_assoc])
          have HOP : Hid (∀ W, Below w.heap.size w W → W.cell? ⟨rb, roff + k * 2, none⟩ = some (.int .i64 (recAt T k).1) ∧ W.cell? ⟨rb, roff + k * 2 + 1, none⟩ = some (.string (tx (recAt T k).2))) := Lib.hid fun W hW => ⟨(hW.cell (p := ⟨rb, roff + k * 2, none⟩) hbb).trans o0, (hW.cell (p := ⟨rb, roff + k * 2 + 1, none⟩) hbb).trans o1⟩
          subst eb
          clear o0 o1 hbb
          generalize recAt T k = r at *
          go_upto_region 8 with fail
          have AD := Lib.hid (HA.out.step (Below.refl _ wr).drew)
          have hw := AD.out.size
          obtain ⟨c0, c1, c2, c3, _, _, _, _⟩ := AD.out.facts
          obtain ⟨o0, o1⟩ := HOP.out _ AD.out.old
          have x1 := HTW.out _ AD.out.old
          have HSW : Hid (∀ (a' : Option Addr) (c' : Nat) (ds : List Cl15) (v : World), Of15 w (some ⟨tb, toff, none⟩) tc S a' c' ds v → v.cell? ⟨w.heap.size, 0, none⟩ = some (.slice (some ⟨tb, toff, none⟩) S.length tc) ∧ v.cell? ⟨tb, toff + i, none⟩ = some (.slice (some ⟨rb, roff, none⟩) T.length cj) ∧ v.cell? ⟨rb, roff + k * 2, none⟩ = some (.int .i64 r.1) ∧ v.cell? ⟨rb, roff + k * 2 + 1, none⟩ = some (.string (tx r.2))) := Lib.hid fun a' c' ds v hv => ⟨hv.facts.1, HTW.out v hv.old, (HOP.out v hv.old).1, (HOP.out v hv.old).2⟩
          have AL := Lib.hid ((HA.out.step ((Below.refl _ wr).alloc (Nat.le_refl _) (.cells #[.int .i64 i, .int .i64 r.1, .string (tx r.2)] 72))).step (Below.refl _ _).drew)
          obtain ⟨_, _, e2, e3, _, _, _, _⟩ := AL.out.facts
          have SS := And.intro c0 (And.intro x1 (And.intro o0 o1))
          -- BEGIN drawn
          refine wp_region_held_drew (S := (fun v => v.cell? ⟨w.heap.size, 0, none⟩ = some (.slice (some ⟨tb, toff, none⟩) S.length tc) ∧ v.cell? ⟨tb, toff + i, none⟩ = some (.slice (some ⟨rb, roff, none⟩) T.length cj) ∧ v.cell? ⟨rb, roff + k * 2, none⟩ = some (.int .i64 r.1) ∧ v.cell? ⟨rb, roff + k * 2 + 1, none⟩ = some (.string (tx r.2)))) (by kernel_rfl) SS (fun hHeld => ?_)
          refine wpAnyH_take (i := 0) (v := ?v0) rfl (by kernel_rfl) (by kernel_rfl) (by kernel_rfl) (fun _ _ _ h => h) (Or.inl ⟨by rfl, ?y0⟩) (by assumption) ?r0
          case y0 => (intro v hSv; (try dsimp only at hSv); go_simp; all_goals with_reducible rfl)
          try simp only [Act.put, List.setIfInBounds_toArray, List.set_cons_zero, List.set_cons_succ]
          refine wpAnyH_take (i := 2) (v := ?v2) rfl (by kernel_rfl) (by kernel_rfl) (by kernel_rfl) (fun _ _ _ h => h) (Or.inl ⟨by rfl, ?y2⟩) (by assumption) ?r2
          case y2 => (intro v hSv; (try dsimp only at hSv); go_simp; all_goals with_reducible rfl)
          try simp only [Act.put, List.setIfInBounds_toArray, List.set_cons_zero, List.set_cons_succ]
          refine wpAnyH_take (i := 3) (v := ?v3) rfl (by kernel_rfl) (by kernel_rfl) (by kernel_rfl) (fun _ _ _ h => h) (Or.inl ⟨by rfl, ?y3⟩) (by assumption) ?r3
          case y3 => (intro v hSv; (try dsimp only at hSv); go_simp; all_goals with_reducible rfl)
          try simp only [Act.put, List.setIfInBounds_toArray, List.set_cons_zero, List.set_cons_succ]
          refine wpAnyH_take (i := 4) (v := ?v4) rfl (by kernel_rfl) (by kernel_rfl) (by kernel_rfl) (fun _ _ _ h => h) (Or.inl ⟨by rfl, ?y4⟩) (by assumption) ?r4
          case y4 => (intro v hSv; (try dsimp only at hSv); go_simp; all_goals with_reducible rfl)
          try simp only [Act.put, List.setIfInBounds_toArray, List.set_cons_zero, List.set_cons_succ]
          refine wpAnyH_take (i := 5) (v := ?v5) rfl (by kernel_rfl) (by kernel_rfl) (by kernel_rfl) (fun _ _ _ h => h) (Or.inl ⟨by rfl, ?y5⟩) (by assumption) ?r5
          case y5 => (intro v hSv; (try dsimp only at hSv); go_simp; all_goals with_reducible rfl)
          try simp only [Act.put, List.setIfInBounds_toArray, List.set_cons_zero, List.set_cons_succ]
          refine wpAnyH_take (i := 6) (v := ?v6) rfl (by kernel_rfl) (by kernel_rfl) (by kernel_rfl) (fun _ _ _ h => h) (Or.inl ⟨by rfl, ?y6⟩) (by assumption) ?r6
          case y6 => (intro v hSv; (try dsimp only at hSv); go_simp; all_goals with_reducible rfl)
          try simp only [Act.put, List.setIfInBounds_toArray, List.set_cons_zero, List.set_cons_succ]
          refine wpAnyH_take (i := 7) (v := ?v7) rfl (by kernel_rfl) (by kernel_rfl) (by kernel_rfl) (fun _ _ _ h => h) (Or.inl ⟨by rfl, ?y7⟩) (by assumption) ?r7
          case y7 => (intro v hSv; (try dsimp only at hSv); go_simp; all_goals with_reducible rfl)
          try simp only [Act.put, List.setIfInBounds_toArray, List.set_cons_zero, List.set_cons_succ]
          refine wpAnyH_take (i := 8) (v := ?v8) rfl (by kernel_rfl) (by kernel_rfl) (by kernel_rfl) (fun _ _ _ h => h) (Or.inl ⟨by rfl, ?y8⟩) (by assumption) ?r8
          case y8 => (intro v hSv; (try dsimp only at hSv); go_simp; all_goals with_reducible rfl)
          try simp only [Act.put, List.setIfInBounds_toArray, List.set_cons_zero, List.set_cons_succ]
          refine wpAnyH_take (i := 9) (v := ?v9) rfl (by kernel_rfl) (by kernel_rfl) (by kernel_rfl) (fun _ _ _ h => h) (Or.inl ⟨by rfl, ?y9⟩) (by assumption) ?r9
          case y9 => (intro v hSv; (try dsimp only at hSv); go_simp; all_goals with_reducible rfl)
          try simp only [Act.put, List.setIfInBounds_toArray, List.set_cons_zero, List.set_cons_succ]
          refine wpAnyH_take (i := 10) (v := ?v10) rfl (by kernel_rfl) (by kernel_rfl) (by kernel_rfl) (fun _ _ _ h => h) (Or.inl ⟨by rfl, ?y10⟩) (by assumption) ?r10
          case y10 => (intro v hSv; (try dsimp only at hSv); go_simp; all_goals with_reducible rfl)
          try simp only [Act.put, List.setIfInBounds_toArray, List.set_cons_zero, List.set_cons_succ]
          refine wpAnyH_take (i := 11) (v := ?v11) rfl (by kernel_rfl) (by kernel_rfl) (by kernel_rfl) (fun _ _ _ h => h) (Or.inl ⟨by rfl, ?y11⟩) (by assumption) ?r11
          case y11 => (intro v hSv; (try dsimp only at hSv); go_simp; all_goals with_reducible rfl)
          try simp only [Act.put, List.setIfInBounds_toArray, List.set_cons_zero, List.set_cons_succ]
          refine wpAnyH_take (i := 12) (v := ?v12) rfl (by kernel_rfl) (by kernel_rfl) (by kernel_rfl) (fun _ _ _ h => h) (Or.inl ⟨by rfl, ?y12⟩) (by assumption) ?r12
          case y12 => (intro v hSv; (try dsimp only at hSv); go_simp; all_goals with_reducible rfl)
          try simp only [Act.put, List.setIfInBounds_toArray, List.set_cons_zero, List.set_cons_succ]
          refine wpAnyH_take (i := 13) (v := ?v13) rfl (by kernel_rfl) (by kernel_rfl) (by kernel_rfl) (fun _ _ _ h => h) (Or.inl ⟨by rfl, ?y13⟩) (by assumption) ?r13
          case y13 => (intro v hSv; (try dsimp only at hSv); go_simp; all_goals with_reducible rfl)
          try simp only [Act.put, List.setIfInBounds_toArray, List.set_cons_zero, List.set_cons_succ]
          refine wpAnyH_take (i := 14) (v := ?v14) rfl (by kernel_rfl) (by kernel_rfl) (by kernel_rfl) (fun _ _ _ h => h) (Or.inl ⟨by rfl, ?y14⟩) (by assumption) ?r14
          case y14 => (intro v hSv; (try dsimp only at hSv); go_simp; all_goals with_reducible rfl)
          try simp only [Act.put, List.setIfInBounds_toArray, List.set_cons_zero, List.set_cons_succ]
          refine wpAnyH_take (i := 15) (v := ?v15) rfl (by kernel_rfl) (by kernel_rfl) (by kernel_rfl) (fun _ _ _ h => h) (Or.inl ⟨by rfl, ?y15⟩) (by assumption) ?r15
          case y15 => (intro v hSv; (try dsimp only at hSv); go_simp; all_goals with_reducible rfl)
          try simp only [Act.put, List.setIfInBounds_toArray, List.set_cons_zero, List.set_cons_succ]
          refine wpAnyH_take (i := 16) (v := ?v16) rfl (by kernel_rfl) (by kernel_rfl) (by kernel_rfl) (fun _ _ _ h => h) (Or.inl ⟨by rfl, ?y16⟩) (by assumption) ?r16
          case y16 => (intro v hSv; (try dsimp only at hSv); go_simp; all_goals with_reducible rfl)
          try simp only [Act.put, List.setIfInBounds_toArray, List.set_cons_zero, List.set_cons_succ]
          refine wpAnyH_take (i := 17) (v := ?v17) rfl (by kernel_rfl) (by kernel_rfl) (by kernel_rfl) (fun _ _ _ h => h) (Or.inl ⟨by rfl, ?y17⟩) (by assumption) ?r17
          case y17 => (intro v hSv; (try dsimp only at hSv); go_simp; all_goals with_reducible rfl)
          try simp only [Act.put, List.setIfInBounds_toArray, List.set_cons_zero, List.set_cons_succ]
          refine wpAnyH_take (i := 18) (v := ?v18) rfl (by kernel_rfl) (by kernel_rfl) (by kernel_rfl) (fun _ _ _ h => h) (Or.inl ⟨by rfl, ?y18⟩) (by assumption) ?r18
          case y18 => (intro v hSv; (try dsimp only at hSv); go_simp; all_goals with_reducible rfl)
          try simp only [Act.put, List.setIfInBounds_toArray, List.set_cons_zero, List.set_cons_succ]
          refine wpAnyH_take (i := 19) (v := ?v19) rfl (by kernel_rfl) (by kernel_rfl) (by kernel_rfl) (fun _ _ _ h => h) (Or.inl ⟨by rfl, ?y19⟩) (by assumption) ?r19
          case y19 => (intro v hSv; (try dsimp only at hSv); go_simp; all_goals with_reducible rfl)
          try simp only [Act.put, List.setIfInBounds_toArray, List.set_cons_zero, List.set_cons_succ]
          refine wpAnyH_take (i := 20) (v := ?v20) rfl (by kernel_rfl) (by kernel_rfl) (by kernel_rfl) (fun _ _ _ h => h) (Or.inl ⟨by rfl, ?y20⟩) (by assumption) ?r20
          case y20 => (intro v hSv; (try dsimp only at hSv); go_simp; all_goals with_reducible rfl)
          try simp only [Act.put, List.setIfInBounds_toArray, List.set_cons_zero, List.set_cons_succ]
          refine wpAnyH_take (i := 21) (v := ?v21) rfl (by kernel_rfl) (by kernel_rfl) (by kernel_rfl) (fun _ _ _ h => h) (Or.inl ⟨by rfl, ?y21⟩) (by assumption) ?r21
          case y21 => (intro v hSv; (try dsimp only at hSv); go_simp; all_goals with_reducible rfl)
          try simp only [Act.put, List.setIfInBounds_toArray, List.set_cons_zero, List.set_cons_succ]
          refine wpAnyH_ready (rs := [1, 22]) (by kernel_rfl) (by simp) ?_
          refine AllReadyH.cons rfl (fun K hK => ?_) (AllReadyH.cons rfl (fun K hK => ?_) AllReadyH.nil)
          · go_simp
            refine hK.out _ _ (by first | exact SS | exact hHeld | fail) (fun hHeld => ?_)
            clear hK K
            try simp only [Act.put, List.setIfInBounds_toArray, List.set_cons_zero, List.set_cons_succ]
            refine wpAnyH_ready (rs := [22]) (by kernel_rfl) (by simp) ?_
            refine AllReadyH.cons rfl (fun K hK => ?_) AllReadyH.nil
            go_simp
            refine hK.out _ _ (by first | exact SS | exact hHeld | exact HSW.out _ _ _ _ AL.out) (fun hHeld => ?_)
            clear hK K
            try simp only [Act.put, List.setIfInBounds_toArray, List.set_cons_zero, List.set_cons_succ]
            refine wpAnyH_ready (rs := [23]) (by kernel_rfl) (by simp) ?_
            refine AllReadyH.cons rfl (fun K hK => ?_) AllReadyH.nil
            refine step_append_e (V := World.drew _) clE Try.underlying30 infoCl rfl (by decide) rfl _ _ rfl (w.heap.size + 3) a c cs rfl AD.out.own hw ((i : Int), r.1, r.2) rfl _ rfl rfl hml ?_
            intro a7 c7 V7 ts hts' ho7 hg7
            have HF7 := Lib.hid (AD.out.more hg7 ho7)
            have hS8 := Lib.hid (HSW.out _ _ _ _ HF7.out)
            obtain ⟨k0, k1, k2, k3⟩ := AD.out.kept hg7
            have y3 := frozen_of_row _ _ 1 _ _ k3
            have y4 := cell_of (j := 1) k3 rfl
            have hS7 := And.intro (cell_of (j := 0) k1 rfl) (And.intro (HTW.out _ k0) (HOP.out _ k0))
            clear ho7 hg7 k1 k2 k3
            refine hK.out _ _ (by first | exact SS | exact hHeld | exact hS7) (fun hHeld => ?_)
            clear hK K
            try simp only [Act.put, List.setIfInBounds_toArray, List.set_cons_zero, List.set_cons_succ]
            refine wpAnyH_take (i := 24) (v := ?v24a) rfl (by kernel_rfl) (by kernel_rfl) (by kernel_rfl) (fun _ _ _ h => h) (Or.inl ⟨by rfl, ?y24a⟩) (by assumption) ?r24a
            case y24a => (intro v hSv; (try dsimp only at hSv); go_simp; all_goals with_reducible rfl)
            try simp only [Act.put, List.setIfInBounds_toArray, List.set_cons_zero, List.set_cons_succ]
            refine wpAnyH_ready (rs := [25]) (by kernel_rfl) (by simp) ?_
            refine AllReadyH.cons rfl (fun K hK => ?_) AllReadyH.nil
            go_simp
            refine hK.out _ _ (by first | exact SS | exact hHeld | exact hS8.out) (fun hHeld => ?_)
            clear hK K
            try simp only [Act.put, List.setIfInBounds_toArray, List.set_cons_zero, List.set_cons_succ]
            refine wpAnyH_done (by kernel_rfl) ?_ _
            have HM4 := Lib.hid (hts'.out.trans HM3.out)
            clear hts' SS hS7 hS8 y3 y4 k0 c0 c1 c2 c3 o0 o1 x1 x0 e2 e3 b0 b1 b2 b3 b4 b5 b6 b7 hHeld
            go_wp2
            go_roundw
            case rel => exact ⟨k + 1, a7, c7, ts, by first | rfl | go_num, by omega, HF7, HM4⟩
            case measure => first | (simp [intOf]; omega) | simp [intOf]
          · go_simp
            refine hK.out _ _ (by first | exact SS | exact hHeld | exact HSW.out _ _ _ _ AL.out) (fun hHeld => ?_)
            clear hK K
            try simp only [Act.put, List.setIfInBounds_toArray, List.set_cons_zero, List.set_cons_succ]
            refine wpAnyH_ready (rs := [1]) (by kernel_rfl) (by simp) ?_
            refine AllReadyH.cons rfl (fun K hK => ?_) AllReadyH.nil
            go_simp
            refine hK.out _ _ (by first | exact SS | exact hHeld | exact HSW.out _ _ _ _ AL.out) (fun hHeld => ?_)
            clear hK K
            try simp only [Act.put, List.setIfInBounds_toArray, List.set_cons_zero, List.set_cons_succ]
            refine wpAnyH_ready (rs := [23]) (by kernel_rfl) (by simp) ?_
            refine AllReadyH.cons rfl (fun K hK => ?_) AllReadyH.nil
            refine step_append_e (V := World.drew _) clE Try.underlying30 infoCl rfl (by decide) rfl _ _ rfl (w.heap.size + 3) a c cs rfl AD.out.own hw ((i : Int), r.1, r.2) rfl _ rfl rfl hml ?_
            intro a7 c7 V7 ts hts' ho7 hg7
            have HF7 := Lib.hid (AD.out.more hg7 ho7)
            have hS8 := Lib.hid (HSW.out _ _ _ _ HF7.out)
            obtain ⟨k0, k1, k2, k3⟩ := AD.out.kept hg7
            have y3 := frozen_of_row _ _ 1 _ _ k3
            have y4 := cell_of (j := 1) k3 rfl
            have hS7 := And.intro (cell_of (j := 0) k1 rfl) (And.intro (HTW.out _ k0) (HOP.out _ k0))
            clear ho7 hg7 k1 k2 k3
            refine hK.out _ _ (by first | exact SS | exact hHeld | exact hS7) (fun hHeld => ?_)
            clear hK K
            try simp only [Act.put, List.setIfInBounds_toArray, List.set_cons_zero, List.set_cons_succ]
            refine wpAnyH_take (i := 24) (v := ?v24b) rfl (by kernel_rfl) (by kernel_rfl) (by kernel_rfl) (fun _ _ _ h => h) (Or.inl ⟨by rfl, ?y24b⟩) (by assumption) ?r24b
            case y24b => (intro v hSv; (try dsimp only at hSv); go_simp; all_goals with_reducible rfl)
            try simp only [Act.put, List.setIfInBounds_toArray, List.set_cons_zero, List.set_cons_succ]
            refine wpAnyH_ready (rs := [25]) (by kernel_rfl) (by simp) ?_
            refine AllReadyH.cons rfl (fun K hK => ?_) AllReadyH.nil
            go_simp
            refine hK.out _ _ (by first | exact SS | exact hHeld | exact hS8.out) (fun hHeld => ?_)
            clear hK K
            try simp only [Act.put, List.setIfInBounds_toArray, List.set_cons_zero, List.set_cons_succ]
            refine wpAnyH_done (by kernel_rfl) ?_ _
            have HM4 := Lib.hid (hts'.out.trans HM3.out)
            clear hts' SS hS7 hS8 y3 y4 k0 c0 c1 c2 c3 o0 o1 x1 x0 e2 e3 b0 b1 b2 b3 b4 b5 b6 b7 hHeld
            go_wp2
            go_roundw
            case rel => exact ⟨k + 1, a7, c7, ts, by first | rfl | go_num, by omega, HF7, HM4⟩
            case measure => first | (simp [intOf]; omega) | simp [intOf]
          -- END drawn
        · obtain rfl : k = T.length := by omega
          have HM3 : Hid (cs = cellsF 0 (S.take (i + 1))) := Lib.hid (by rw [HM.out, HNX.out, List.take_length])
          go_wp2
          go_roundw
          case rel => exact ⟨i + 1, a, c, cs, by go_num, by omega, HA, HM3⟩
          case measure => first | (simp [intOf]; omega) | simp [intOf]
    · obtain rfl : i = S.length := by omega
      have HMS : Hid (cs = cellsF 0 S) := Lib.hid (by rw [HM.out, List.take_length])
      have HA2 : Hid (Of15 w ta tc S a c (cellsF 0 S) wr) := Lib.hid (by rw [← HMS.out]; exact HA.out)
      go_wp2
      refine bodyPost_ret (results_cell_row rfl _ _ (w.heap.size + 1) 32 _ _ _ rfl (two_stored14 HA.out.res _ _) Try.underlying32 rfl (by kernel_rfl)) rfl ?_
      rw [HMS.out]
      exact HA2.out.whole
end Go.Proofs.Yteccahggahpeeaa
