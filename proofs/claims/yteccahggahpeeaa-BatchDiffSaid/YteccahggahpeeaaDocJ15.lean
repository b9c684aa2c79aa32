/- The document's Take of a text, for every text and in every world. -/
import Derived.Test.YteccahggahpeeaaBatD15
import Derived.Test.YteccahggahpeeaaDocF15
import Derived.Test.YteccahggahpeeaaMDocA15
import Derived.Test.YteccahggahpeeaaMTextRow
namespace Go.Proofs.Yteccahggahpeeaa
open Go.RowKit

theorem takeA_stop {L : List UInt8} {n : Nat} {r : Rs} {S : St15} (h : takeA L = tabsOn L n r S) (h2 : n = 0 ∨ r.e ≠ 0) : takeA L = (r, S) := by
  rw [h]
  rcases h2 with q | q
  · rw [q]; rfl
  · exact tabs_stop q n S
theorem rows_more {L : List UInt8} {m k : Nat} {r0 r : Rs} {T : Tb15} (h : rowsOn L m r0 [] = rowsOn L (m - k) r T) (hk : k < m) (hr : r.e = 0) : rowsOn L m r0 [] = rowsOn L (m - (k + 1)) (textR L (numR L r 4 999999) 200) (T ++ [(numV L r 4 999999, textL L (numR L r 4 999999) 200)]) := by
  rw [h, show m - k = (m - (k + 1)) + 1 by omega]
  conv => lhs; unfold rowsOn
  rw [if_pos hr]
theorem rows_done {L : List UInt8} {m k : Nat} {r0 r : Rs} {T : Tb15} (h : rowsOn L m r0 [] = rowsOn L (m - k) r T) (h2 : m - k = 0 ∨ r.e ≠ 0) : rowsOn L m r0 [] = (r, T) := by
  rw [h]
  rcases h2 with q | q
  · rw [q]; rfl
  · exact rows_stop q _ T
theorem tabs_more {L : List UInt8} {n i : Nat} {r : Rs} {S : St15} {R : Rs × Tb15} (h : takeA L = tabsOn L (n - i) r S) (hi : i < n) (hr : r.e = 0) (hR : rowsOn L (numV L r 1 60).toNat (numR L r 1 60) [] = R) : takeA L = tabsOn L (n - (i + 1)) R.1 (S ++ [R.2]) := by
  rw [h, show n - i = (n - (i + 1)) + 1 by omega]
  conv => lhs; unfold tabsOn
  rw [if_pos hr, hR]
theorem cells_more (S : St15) (T : Tb15) {i : Nat} (h : S.length = i) : cellsF 0 (S ++ [T]) = cellsF 0 S ++ rowC (i : Int) T := by
  rw [cells_append, h]
  show _ ++ (rowC ((0 + i : Nat) : Int) T ++ []) = _
  rw [List.append_nil, Nat.zero_add]
theorem rowC_more (t : Int) (T : Tb15) (x : Rec15) : rowC t (T ++ [x]) = rowC t T ++ [(t, x.1, x.2)] := by
  unfold rowC
  rw [List.map_append]; rfl
theorem num_small {L : List UInt8} {r : Rs} {x m : Int} (hm : 0 ≤ m) : 0 ≤ numV L r x m ∧ numV L r x m ≤ m := by
  unfold numV
  split
  · split
    · rename_i h
      obtain ⟨g, g2⟩ := num_zero h
      exact ⟨(get_bound g).1, g2⟩
    · omega
  · omega
theorem end_zero {L : List UInt8} {r : Rs} (h : (endR L r).e = 0) : r.e = 0 := by
  unfold endR at h
  split at h
  · rename_i q; exact q.1
  · exact h
theorem take_bad {L : List UInt8} {r : Rs} {S : St15} (h : takeA L = (r, S)) (h2 : (endR L r).e ≠ 0) : takeSE L = (endR L r).e ∧ takeSV L = [] := by
  have h1 : takeSE L = (endR L r).e := by unfold takeSE; rw [h, if_pos h2]
  exact ⟨h1, by unfold takeSV; rw [h1, if_neg h2]⟩
theorem take_good {L : List UInt8} {r : Rs} {S : St15} (h : takeA L = (r, S)) (h2 : (endR L r).e = 0) : takeSE L = checkS S ∧ takeSV L = if checkS S = 0 then S else [] := by
  have h1 : takeSE L = checkS S := by unfold takeSE; rw [h, if_neg (by rw [h2]; decide)]
  exact ⟨h1, by unfold takeSV; rw [h1, h]⟩
theorem stop_or {k m : Nat} {e : Int} (h : ¬ (k < m ∧ e = 0)) : m - k = 0 ∨ e ≠ 0 := by
  by_cases z : e = 0
  · left
    have : ¬ k < m := fun y => h ⟨y, z⟩
    omega
  · right
    exact z
/-- A text being taken. -/
structure Tk15 (w : World) (s : ByteArray) (G : Nat) (n : Int) (r : Rs) (a : Option Addr) (c : Nat) (cs : List Cl15) (W : World) : Prop where
  old : Below w.heap.size w W
  big : w.heap.size + 2 ≤ G
  res : W.heap[w.heap.size]? = some (.cells #[.int .i64 0, .slice none 0 0] 32 (0, 0))
  rdo : W.heap[w.heap.size + 1]? = some (.cells #[.string s, .int .i64 r.p, .int .i64 r.e] 109 (0, 0))
  sto : W.heap[G]? = some (.cells #[.int .i64 n, .slice a cs.length c] 32 (0, 0))
  own : W.ownsRow (G + 1) 72 3 (.slice a cs.length c) cs.length (clE.cells cs)
theorem Tk15.step {w : World} {s : ByteArray} {G : Nat} {n : Int} {r : Rs} {a : Option Addr} {c : Nat} {cs : List Cl15} {W V : World} (h : Tk15 w s G n r a c cs W) (hb : Below W.heap.size W V) : Tk15 w s G n r a c cs V :=
  ⟨h.old.trans (hb.mono h.old.size), h.big, old_obj hb h.res, old_obj hb h.rdo, old_obj hb h.sto, ownk_on h.own hb⟩
theorem Tk15.setR {w : World} {s : ByteArray} {G : Nat} {n : Int} {r : Rs} {a : Option Addr} {c : Nat} {cs : List Cl15} {W : World} (h : Tk15 w s G n r a c cs W) (q : Rs) : Tk15 w s G n q a c cs (((W.setCell ⟨w.heap.size + 1, 0, none⟩ (.string s)).setCell ⟨w.heap.size + 1, 1, none⟩ (.int .i64 q.p)).setCell ⟨w.heap.size + 1, 2, none⟩ (.int .i64 q.e)) := by
  have hb := h.big
  refine ⟨three_below h.old (by omega) _ _ _, hb, ?_, three_stored h.rdo _ _ _, ?_, ?_⟩
  · rw [heap_set15 _ _ _ _ _ (by omega), heap_set15 _ _ _ _ _ (by omega), heap_set15 _ _ _ _ _ (by omega)]; exact h.res
  · rw [heap_set15 _ _ _ _ _ (by omega), heap_set15 _ _ _ _ _ (by omega), heap_set15 _ _ _ _ _ (by omega)]; exact h.sto
  · exact ownsRow_setCell_below (ownsRow_setCell_below (ownsRow_setCell_below h.own (show w.heap.size + 1 < G + 1 by omega) _) (show w.heap.size + 1 < G + 1 by omega) _) (show w.heap.size + 1 < G + 1 by omega) _
theorem Tk15.size {w : World} {s : ByteArray} {G : Nat} {n : Int} {r : Rs} {a : Option Addr} {c : Nat} {cs : List Cl15} {W : World} (h : Tk15 w s G n r a c cs W) : G + 1 ≤ W.heap.size := obj_lt h.sto
/-- One cell more, behind an append and the store of what it told. -/
theorem Tk15.more {w : World} {s : ByteArray} {G : Nat} {n : Int} {r : Rs} {a : Option Addr} {c : Nat} {cs : List Cl15} {V V' : World} (h : Tk15 w s G n r a c cs V) {o : Obj} {a' : Option Addr} {c' : Nat} {ds : List Cl15} (hg : (V.alloc o).grownBy V' (Value.slice a cs.length c).ownBlock) (ho : V'.ownsRow (G + 1) 72 3 (.slice a' ds.length c') ds.length (clE.cells ds)) : Tk15 w s G n r a' c' ds (V'.setCell ⟨G, 1, none⟩ (.slice a' ds.length c')) := by
  have hb := h.big
  have hG := h.size
  have hne : ∀ j, j < G + 1 → some j ≠ (Value.slice a cs.length c).ownBlock := fun j hj e => by have := h.own.lt j e.symm; omega
  have hk : ∀ j, j < G + 1 → V'.heap[j]? = V.heap[j]? := fun j hj => by
    rw [hg.block j (by simp; omega) (hne j hj), Below.heap_alloc V o j (by omega)]
  have hB : Below w.heap.size w V' := (h.old.alloc h.old.size o).grown hg (by have := h.old.size; simp; omega) fun j hj => by have := h.own.lt j hj; omega
  refine ⟨hB.setCell (p := ⟨G, 1, none⟩) (show w.heap.size ≤ G by omega) _, hb, ?_, ?_, ?_, ownsRow_setCell_below ho (show G < G + 1 by omega) _⟩
  · rw [heap_set15 _ _ _ _ _ (by omega), hk _ (by omega)]; exact h.res
  · rw [heap_set15 _ _ _ _ _ (by omega), hk _ (by omega)]; exact h.rdo
  · have h1 : V'.heap[G]? = some (.cells #[.int .i64 n, .slice a cs.length c] 32 (0, 0)) := by rw [hk G (by omega)]; exact h.sto
    exact heap_setCell_same V' G 1 _ _ _ h1
theorem Tk15.kept {w : World} {s : ByteArray} {G : Nat} {n : Int} {r : Rs} {a : Option Addr} {c : Nat} {cs : List Cl15} {V V' : World} (h : Tk15 w s G n r a c cs V) {o : Obj} (hg : (V.alloc o).grownBy V' (Value.slice a cs.length c).ownBlock) : V'.heap[G]? = some (.cells #[.int .i64 n, .slice a cs.length c] 32 (0, 0)) := by
  have hG := h.size
  have hne : some G ≠ (Value.slice a cs.length c).ownBlock := fun e => by have := h.own.lt G e.symm; omega
  rw [hg.block G (by simp; omega) hne, Below.heap_alloc V o G (by omega)]
  exact h.sto
theorem Tk15.els {w : World} {s : ByteArray} {G : Nat} {n : Int} {r : Rs} {a : Option Addr} {c : Nat} {cs : List Cl15} {W : World} (h : Tk15 w s G n r a c cs W) : cs.length ≤ c ∧ Els clE (G + 1) W.heap.size W a cs := by
  obtain ⟨a', c', hv, hc, _, ht⟩ := rk_own h.own
  injection hv with h1 _ h3
  subst h1 h3
  exact ⟨hc, ht⟩
theorem Tk15.start {w w2 : World} {s : ByteArray} {n : Int} {x y z : Value} (hb : Below w.heap.size w w2) (h0 : w2.heap[w.heap.size]? = some (.cells #[.int .i64 0, .slice none 0 0] 32 (0, 0))) (h1 : w2.heap[w.heap.size + 1]? = some (.cells #[x, y, z] 109 (0, 0))) (r : Rs) : Tk15 w s w2.heap.size n r none 0 [] ((((w2.setCell ⟨w.heap.size + 1, 0, none⟩ (.string s)).setCell ⟨w.heap.size + 1, 1, none⟩ (.int .i64 r.p)).setCell ⟨w.heap.size + 1, 2, none⟩ (.int .i64 r.e)).alloc (.cells #[.int .i64 n, .slice none 0 0] 32)) := by
  have hz : w.heap.size + 2 ≤ w2.heap.size := obj_lt h1
  have h3 := three_stored h1 (.string s) (.int .i64 r.p) (.int .i64 r.e)
  have hb3 := three_below hb (show w.heap.size ≤ w.heap.size + 1 by omega) (.string s) (.int .i64 r.p) (.int .i64 r.e)
  have h4 : (((w2.setCell ⟨w.heap.size + 1, 0, none⟩ (.string s)).setCell ⟨w.heap.size + 1, 1, none⟩ (.int .i64 r.p)).setCell ⟨w.heap.size + 1, 2, none⟩ (.int .i64 r.e)).heap[w.heap.size]? = some (.cells #[.int .i64 0, .slice none 0 0] 32 (0, 0)) := by
    rw [heap_set15 _ _ _ _ _ (by omega), heap_set15 _ _ _ _ _ (by omega), heap_set15 _ _ _ _ _ (by omega)]; exact h0
  have hsz : (((w2.setCell ⟨w.heap.size + 1, 0, none⟩ (.string s)).setCell ⟨w.heap.size + 1, 1, none⟩ (.int .i64 r.p)).setCell ⟨w.heap.size + 1, 2, none⟩ (.int .i64 r.e)).heap.size = w2.heap.size := by simp
  generalize ((w2.setCell ⟨w.heap.size + 1, 0, none⟩ (.string s)).setCell ⟨w.heap.size + 1, 1, none⟩ (.int .i64 r.p)).setCell ⟨w.heap.size + 1, 2, none⟩ (.int .i64 r.e) = V at *
  refine ⟨hb3.alloc (by omega) _, hz, ?_, ?_, ?_, World.ownsRow_nil _ _ _ _⟩
  · rw [Below.heap_alloc V _ _ (by omega)]; exact h4
  · rw [Below.heap_alloc V _ _ (by omega)]; exact h3
  · rw [← hsz]; show (V.heap.push _)[_]? = _; simp
theorem Tk15.twos {w : World} {s : ByteArray} {G : Nat} {n : Int} {r : Rs} {a : Option Addr} {c : Nat} {cs : List Cl15} {W : World} (h : Tk15 w s G n r a c cs W) : W.cell? ⟨w.heap.size, 0, none⟩ = some (.int .i64 0) ∧ W.cell? ⟨w.heap.size, 1, none⟩ = some (.slice none 0 0) ∧ W.frozen? ⟨w.heap.size, 0, none⟩ = false ∧ W.frozen? ⟨w.heap.size, 1, none⟩ = false :=
  ⟨cell_of h.res rfl, cell_of h.res rfl, frozen_of_row _ _ 0 _ _ h.res, frozen_of_row _ _ 1 _ _ h.res⟩
def TkOut (w : World) (e : Ending) (w' : World) (S : St15) (E : Int) : Prop :=
  ∃ a' c', e = .returned (.tuple #[docVal S.length a' c' (cellsF 0 S), .int .i64 E]) ∧ (cellsF 0 S).length ≤ c' ∧ Els clE 0 w'.heap.size w' a' (cellsF 0 S) ∧ Below w.heap.size w w'
theorem Tk15.nothing {w : World} {s : ByteArray} {G : Nat} {n : Int} {r : Rs} {a : Option Addr} {c : Nat} {cs : List Cl15} {W : World} (h : Tk15 w s G n r a c cs W) (E : Int) : TkOut w (.returned (.tuple #[.agg #[.int .i64 0, .slice none 0 0], .int .i64 E])) ((W.setCell ⟨w.heap.size, 0, none⟩ (.int .i64 0)).setCell ⟨w.heap.size, 1, none⟩ (.slice none 0 0)) [] E :=
  ⟨none, 0, rfl, Nat.le_refl _, Or.inl rfl, two_below14 h.old (Nat.le_refl _) _ _⟩
theorem Tk15.whole {w : World} {s : ByteArray} {G : Nat} {r : Rs} {a : Option Addr} {c : Nat} {S : St15} {W : World} (h : Tk15 w s G S.length r a c (cellsF 0 S) W) (E : Int) : TkOut w (.returned (.tuple #[docVal S.length a c (cellsF 0 S), .int .i64 E])) ((W.setCell ⟨w.heap.size, 0, none⟩ (.int .i64 S.length)).setCell ⟨w.heap.size, 1, none⟩ (.slice a (cellsF 0 S).length c)) S E := by
  have hb := h.big
  obtain ⟨h1, h2⟩ := h.els
  exact ⟨a, c, rfl, h1, (((h2.o (P := fun b => b ≠ w.heap.size) (fun b hb _ => by omega)).set (by simp) _).set (by simp) _).els, two_below14 h.old (Nat.le_refl _) _ _⟩
set_option maxRecDepth 100000 in
set_option maxHeartbeats 8000000 in
theorem rtake15_any (s : ByteArray) (hs : s.size ≤ 4611686018427387904) (w : World) :
    Calls Try.prog 26 #[.string s] w fun e w' => TkOut w e w' (takeSV s.data.toList) (takeSE s.data.toList) := by
  have HNU : Hid (∀ (q : Rs) (x m : Int) (V : World), Within s.data.toList q → Calls Try.prog 54 #[.agg #[.string s, .int .i64 q.p, .int .i64 q.e], .int .i64 x, .int .i64 m] V fun e w' => e = .returned (.tuple #[.agg #[.string s, .int .i64 (numR s.data.toList q x m).p, .int .i64 (numR s.data.toList q x m).e], .int .i64 (numV s.data.toList q x m)]) ∧ Below V.heap.size V w') := Lib.hid fun q x m V h => rnum6 s hs q (within_fit h (by rw [Array.length_toList]; exact hs)) x m V
  have HTX : Hid (∀ (q : Rs) (m : Int) (V : World), Within s.data.toList q → Calls Try.prog 55 #[.agg #[.string s, .int .i64 q.p, .int .i64 q.e], .int .i64 m] V fun e w' => e = .returned (.tuple #[.agg #[.string s, .int .i64 (textR s.data.toList q m).p, .int .i64 (textR s.data.toList q m).e], .string (tx (textL s.data.toList q m))]) ∧ Below V.heap.size V w') := Lib.hid fun q m V h => rtext6 s hs q (within_fit h (by rw [Array.length_toList]; exact hs)) m V
  have HEN : Hid (∀ (q : Rs) (V : World), Calls Try.prog 56 #[.agg #[.string s, .int .i64 q.p, .int .i64 q.e]] V fun e w' => e = .returned (.agg #[.string s, .int .i64 (endR s.data.toList q).p, .int .i64 (endR s.data.toList q).e]) ∧ Below V.heap.size V w') := Lib.hid fun q V => rend6 s q V
  have hw0 : Within s.data.toList ⟨0, 0⟩ := ⟨Int.le_refl _, Int.natCast_nonneg _⟩
  have hn0 := HNU.out ⟨0, 0⟩ 1 8 
  obtain ⟨L, hL⟩ : ∃ L, s.data.toList = L := ⟨_, rfl⟩
  rw [hL] at HNU HTX HEN hw0 hn0 ⊢
  obtain ⟨hb0, hb1⟩ := num_small (L := L) (r := ⟨0, 0⟩) (x := 1) (m := 8) (by decide)
  obtain ⟨n, hn⟩ : ∃ n : Nat, numV L ⟨0, 0⟩ 1 8 = n := ⟨(numV L ⟨0, 0⟩ 1 8).toNat, by omega⟩
  have HA0 : Hid (takeA L = tabsOn L (n - 0) (numR L ⟨0, 0⟩ 1 8) []) := Lib.hid (by unfold takeA; rw [hn, Int.toNat_natCast, Nat.sub_zero])
  have HW0 : Hid (Within L (numR L ⟨0, 0⟩ 1 8)) := Lib.hid (num_in hw0)
  have hn8 : n ≤ 8 := by omega
  rw [hn] at hn0
  obtain ⟨r0, hr0⟩ : ∃ r0, numR L ⟨0, 0⟩ 1 8 = r0 := ⟨_, rfl⟩
  rw [hr0] at hn0 HA0 HW0
  clear hn hr0 hb0 hb1 hL hs
  go_enter Try.func26, Try.ntmps26
  go_upto_region 5 with (go_at_call 54; refine (hn0 _ hw0).mono ?_; rintro e w2 ⟨rfl, hb⟩; obtain ⟨hbl, G1, G0⟩ := below_two hb; obtain ⟨d0, d1, d2, f0, f1, f2⟩ := three_cells G1; clear hn0)
  have HT0 := Lib.hid (Tk15.start (s := s) (n := n) hbl G0 G1 r0)
  clear hb d0 d1 d2 f0 f1 f2
  go_loopw [7] (fun s7 wr => ∃ (i : Nat) (r : Rs) (a : Option Addr) (c : Nat) (S : St15), s7 = .int .i64 i ∧ i ≤ n ∧ Hid (Tk15 w s w2.heap.size n r a c (cellsF 0 S) wr) ∧ Hid (S.length = i) ∧ Hid (takeA L = tabsOn L (n - i) r S) ∧ Hid (Within L r) ∧ Hid ((cellsF 0 S).length ≤ i * 60)) (fun i _ => n + 1 - (intOf i).toNat)
  case atStart => exact ⟨0, r0, none, 0, [], rfl, by omega, HT0, Lib.hid rfl, HA0, HW0, Lib.hid (Nat.zero_le _)⟩
  case round =>
    clear HT0 HA0 HW0 hbl G0 G1
    obtain ⟨i, r, a, c, S, rfl, hi, HT, HS, HA, HW, HL⟩ := hrel
    by_cases hq : i < n ∧ r.e = 0
    · obtain ⟨hlt, hr⟩ := hq
      have i1 : (i : Int) < (n : Int) := by omega
      have hd : (r.e == 0) = true := by rw [hr]; rfl
      obtain ⟨hb0, hb1⟩ := num_small (L := L) (r := r) (x := 1) (m := 60) (by decide)
      obtain ⟨m, hm⟩ : ∃ m : Nat, numV L r 1 60 = m := ⟨(numV L r 1 60).toNat, by omega⟩
      have hcn := HNU.out r 1 60 wr HW.out
      have HWm : Hid (Within L (numR L r 1 60)) := Lib.hid (num_in HW.out)
      have HRm : Hid (∀ R, rowsOn L m (numR L r 1 60) [] = R → takeA L = tabsOn L (n - (i + 1)) R.1 (S ++ [R.2])) := Lib.hid fun R hR => tabs_more HA.out hlt hr (by rw [hm, Int.toNat_natCast]; exact hR)
      have hm60 : m ≤ 60 := by omega
      rw [hm] at hcn
      obtain ⟨r1, hr1⟩ : ∃ r1, numR L r 1 60 = r1 := ⟨_, rfl⟩
      rw [hr1] at hcn HWm HRm
      obtain ⟨c0, c1, c2, f0, f1, f2⟩ := three_cells HT.out.rdo
      clear hm hr1 hb0 hb1 hr HA HW
      go_upto_region 10 with (go_at_call 54; refine hcn.mono ?_; rintro e w3 ⟨rfl, hb⟩; have H3 := Lib.hid (HT.out.step hb); have H4 := Lib.hid (H3.out.step ((Below.refl _ w3).alloc (Nat.le_refl _) (.cells #[.string s, .int .i64 r1.p, .int .i64 r1.e] 109))); obtain ⟨d0, d1, d2, g0, g1, g2⟩ := three_cells H4.out.rdo; clear hb hcn)
      have H5 : Hid (Tk15 w s w2.heap.size n r1 a c (cellsF 0 S ++ rowC (i : Int) []) ((((w3.alloc (.cells #[.string s, .int .i64 r1.p, .int .i64 r1.e] 109)).setCell ⟨w.heap.size + 1, 0, none⟩ (.string s)).setCell ⟨w.heap.size + 1, 1, none⟩ (.int .i64 r1.p)).setCell ⟨w.heap.size + 1, 2, none⟩ (.int .i64 r1.e))) := Lib.hid (by
        have := H4.out.setR r1
        show Tk15 w s w2.heap.size n r1 a c (cellsF 0 S ++ []) _
        rw [List.append_nil]; exact this)
      have HL0 : Hid ((cellsF 0 S ++ rowC (i : Int) []).length ≤ i * 60 + 0) := Lib.hid (by show (cellsF 0 S ++ []).length ≤ _; rw [List.append_nil]; exact HL.out)
      clear c0 c1 c2 f0 f1 f2 d0 d1 d2 g0 g1 g2 hd i1
      go_loopw [10] (fun s10 wr => ∃ (k : Nat) (q : Rs) (a : Option Addr) (c : Nat) (T : Tb15), s10 = .int .i64 k ∧ k ≤ m ∧ Hid (Tk15 w s w2.heap.size n q a c (cellsF 0 S ++ rowC (i : Int) T) wr) ∧ Hid (rowsOn L m r1 [] = rowsOn L (m - k) q T) ∧ Hid (Within L q) ∧ Hid ((cellsF 0 S ++ rowC (i : Int) T).length ≤ i * 60 + k)) (fun k _ => m + 1 - (intOf k).toNat)
      case atStart => exact ⟨0, r1, a, c, [], rfl, by omega, H5, Lib.hid rfl, HWm, HL0⟩
      case round =>
        clear H3 H4 H5 HT HL HL0 HWm
        obtain ⟨k, q, a, c, T, rfl, hk, HT, HR, HW, HL⟩ := hrel
        by_cases hq : k < m ∧ q.e = 0
        · obtain ⟨hlt2, hr⟩ := hq
          have i1 : (k : Int) < (m : Int) := by omega
          have hd : (q.e == 0) = true := by rw [hr]; rfl
          have HR2 := Lib.hid (rows_more HR.out hlt2 hr)
          have hcn := HNU.out q 4 999999 wr HW.out
          have HWn := Lib.hid (num_in (x := 4) (m := 999999) HW.out)
          have hol : (cellsF 0 S ++ rowC (i : Int) T).length ≤ 900000 := by have := HL.out; omega
          obtain ⟨v, hv⟩ : ∃ v, numV L q 4 999999 = v := ⟨_, rfl⟩
          obtain ⟨qn, hqn⟩ : ∃ qn, numR L q 4 999999 = qn := ⟨_, rfl⟩
          rw [hv, hqn] at HR2 hcn
          rw [hqn] at HWn
          have HWt := Lib.hid (text_in (m := 200) HWn.out)
          have HTQ : Hid (∀ V, Calls Try.prog 55 #[.agg #[.string s, .int .i64 qn.p, .int .i64 qn.e], .int .i64 200] V fun e w' => e = .returned (.tuple #[.agg #[.string s, .int .i64 (textR L qn 200).p, .int .i64 (textR L qn 200).e], .string (tx (textL L qn 200))]) ∧ Below V.heap.size V w') := Lib.hid fun V => HTX.out qn 200 V HWn.out
          obtain ⟨x, hx⟩ : ∃ x, textL L qn 200 = x := ⟨_, rfl⟩
          obtain ⟨qt, hqt⟩ : ∃ qt, textR L qn 200 = qt := ⟨_, rfl⟩
          rw [hx, hqt] at HR2 HTQ
          rw [hqt] at HWt
          have HCM : Hid (cellsF 0 S ++ rowC (i : Int) (T ++ [(v, x)]) = cellsF 0 S ++ rowC (i : Int) T ++ [((i : Int), v, x)]) := Lib.hid (by rw [rowC_more, List.append_assoc])
          clear hv hqn hx hqt hr HR HW HWn
          obtain ⟨cs, hcs⟩ : ∃ cs, cellsF 0 S ++ rowC (i : Int) T = cs := ⟨_, rfl⟩
          rw [hcs] at HT HL hol HCM
          clear hcs
          obtain ⟨c0, c1, c2, f0, f1, f2⟩ := three_cells HT.out.rdo
          go_upto_region 15 with (first
            | (go_at_call 54; refine hcn.mono ?_; rintro e w3 ⟨rfl, hb⟩; have H3 := Lib.hid (HT.out.step hb); have H4 := Lib.hid (H3.out.step ((Below.refl _ w3).alloc (Nat.le_refl _) (.cells #[.string s, .int .i64 qn.p, .int .i64 qn.e] 109))); clear hb hcn)
            | (go_at_call 55; refine (HTQ.out _).mono ?_; rintro e w5 ⟨rfl, hb⟩; have H5 := Lib.hid (H4.out.step hb); have H6 := Lib.hid (H5.out.step ((Below.refl _ w5).alloc (Nat.le_refl _) (.cells #[.string s, .int .i64 qt.p, .int .i64 qt.e] 109))); obtain ⟨d0, d1, d2, g0, g1, g2⟩ := three_cells H6.out.rdo; clear hb))
          have HV := Lib.hid (H6.out.setR qt)
          clear c0 c1 c2 f0 f1 f2 d0 d1 d2 g0 g1 g2 hd i1
          obtain ⟨V, hV⟩ : ∃ V, V = (((w5.alloc (.cells #[.string s, .int .i64 qt.p, .int .i64 qt.e] 109)).setCell ⟨w.heap.size + 1, 0, none⟩ (.string s)).setCell ⟨w.heap.size + 1, 1, none⟩ (.int .i64 qt.p)).setCell ⟨w.heap.size + 1, 2, none⟩ (.int .i64 qt.e) := ⟨_, rfl⟩
          rw [← hV] at HV ⊢
          clear hV
          obtain ⟨x0, x1⟩ := (show V.cell? ⟨w2.heap.size, 1, none⟩ = some (.slice a cs.length c) ∧ V.frozen? ⟨w2.heap.size, 1, none⟩ = false from ⟨cell_of HV.out.sto rfl, frozen_of_row _ _ 1 _ _ HV.out.sto⟩)
          have hw := HV.out.size
          go_wp2_with (refine append_e (V := V) clE Try.underlying30 infoCl rfl (by decide) rfl _ _ rfl (w2.heap.size + 1) a c cs rfl HV.out.own hw ((i : Int), v, x) rfl _ rfl rfl hol ?_; intro a4 c4 V4 m4 hm4 ho4 hg4; have HF4 := Lib.hid (HV.out.more hg4 ho4); have hk4 := HV.out.kept hg4; obtain ⟨y0, y1⟩ := (show V4.cell? ⟨w2.heap.size, 1, none⟩ = some (.slice a cs.length c) ∧ V4.frozen? ⟨w2.heap.size, 1, none⟩ = false from ⟨cell_of hk4 rfl, frozen_of_row _ _ 1 _ _ hk4⟩); clear ho4 hg4 hk4)
          go_round
          case rel => exact ⟨k + 1, qt, a4, c4, T ++ [(v, x)], by go_num, by omega, Lib.hid (by rw [HCM.out, ← hm4.out]; exact HF4.out), HR2, HWt, Lib.hid (by rw [HCM.out, List.length_append]; exact Nat.succ_le_succ HL.out)⟩
          case measure => first | (simp [intOf]; omega) | simp [intOf]
        · have HRD := Lib.hid (rows_done HR.out (stop_or hq))
          have HAN := Lib.hid (HRm.out _ HRD.out)
          have HTN : Hid (Tk15 w s w2.heap.size n q a c (cellsF 0 (S ++ [T])) wr) := Lib.hid (by rw [cells_more S T HS.out]; exact HT.out)
          have HSN : Hid ((S ++ [T]).length = i + 1) := Lib.hid (by rw [List.length_append, HS.out]; rfl)
          have HLN : Hid ((cellsF 0 (S ++ [T])).length ≤ (i + 1) * 60) := Lib.hid (by rw [cells_more S T HS.out]; have := HL.out; omega)
          by_cases hlt2 : k < m
          · have i1 : (k : Int) < (m : Int) := by omega
            have hd : (q.e == 0) = false := beq_eq_false_iff_ne.2 fun z => hq ⟨hlt2, z⟩
            obtain ⟨c0, c1, c2, f0, f1, f2⟩ := three_cells HT.out.rdo
            clear hq
            go_wp2
            go_round
            case rel => exact ⟨i + 1, q, a, c, S ++ [T], by go_num, by omega, HTN, HSN, HAN, HW, HLN⟩
            case measure => first | (simp [intOf]; omega) | simp [intOf]
          · have i1 : ¬ (k : Int) < (m : Int) := by omega
            clear hq
            go_wp2
            go_round
            case rel => exact ⟨i + 1, q, a, c, S ++ [T], by go_num, by omega, HTN, HSN, HAN, HW, HLN⟩
            case measure => first | (simp [intOf]; omega) | simp [intOf]
    · have HTA := Lib.hid (takeA_stop HA.out (stop_or hq))
      have HIN : Hid (r.e = 0 → S.length = n) := Lib.hid fun z => by
        have := HS.out
        have : ¬ i < n := fun y => hq ⟨y, z⟩
        omega
      have hen := HEN.out r
      have HBD : Hid ((endR L r).e ≠ 0 → takeSE L = (endR L r).e ∧ takeSV L = []) := Lib.hid fun z => take_bad HTA.out z
      have HGD : Hid ((endR L r).e = 0 → S.length = n ∧ takeSE L = checkS S ∧ takeSV L = if checkS S = 0 then S else []) := Lib.hid fun z => ⟨HIN.out (end_zero z), take_good HTA.out z⟩
      obtain ⟨re, hre⟩ : ∃ re, endR L r = re := ⟨_, rfl⟩
      rw [hre] at hen HBD HGD
      obtain ⟨c0, c1, c2, f0, f1, f2⟩ := three_cells HT.out.rdo
      clear hre HTA HIN HA HW
      by_cases hlt2 : i < n
      · have i1 : (i : Int) < (n : Int) := by omega
        have hd : (r.e == 0) = false := beq_eq_false_iff_ne.2 fun z => hq ⟨hlt2, z⟩
        clear hq
        go_upto_region 17 with (go_at_call 56; refine (hen _).mono ?_; rintro e w6 ⟨rfl, hb⟩; have H6 := Lib.hid (HT.out.step hb); obtain ⟨d0, d1, d2, g0, g1, g2⟩ := three_cells H6.out.rdo; clear hb hen)
        have HV := Lib.hid (H6.out.setR re)
        clear c0 c1 c2 f0 f1 f2 d0 d1 d2 g0 g1 g2 i1
        obtain ⟨V, hV⟩ : ∃ V, V = ((w6.setCell ⟨w.heap.size + 1, 0, none⟩ (.string s)).setCell ⟨w.heap.size + 1, 1, none⟩ (.int .i64 re.p)).setCell ⟨w.heap.size + 1, 2, none⟩ (.int .i64 re.e) := ⟨_, rfl⟩
        rw [← hV] at HV ⊢
        clear hV H6 HT
        obtain ⟨c0, c1, c2, f0, f1, f2⟩ := three_cells HV.out.rdo
        obtain ⟨b0, b1, h0, h1⟩ := HV.out.twos
        by_cases hz : ¬ re.e = 0
        · have d1 : (re.e != 0) = true := by rw [bne_iff_ne]; exact hz
          obtain ⟨q1, q2⟩ := HBD.out hz
          have HQ := Lib.hid (And.intro q1 q2)
          have HD := Lib.hid (HV.out.step (Below.refl _ V).drew)
          obtain ⟨k0, k1, k2, _, _, _⟩ := three_cells HD.out.rdo
          obtain ⟨l0, l1, m0, m1⟩ := HD.out.twos
          clear hz q1 q2
          go_upto_region 18 with fail
          go_region_with (fail)
          all_goals
            go_wp2
            refine bodyPost_ret (results_row_slot rfl _ _ w.heap.size _ rfl (st_load (two_stored14 HD.out.res _ _))) rfl ?_
            rw [HQ.out.1, HQ.out.2]
            exact HD.out.nothing re.e
        · have hz := Classical.not_not.1 hz
          have d1 : (re.e != 0) = false := by rw [hz]; rfl
          obtain ⟨q1, q2, q3⟩ := HGD.out hz
          have hlS := HL.out
          have hck := rcheck15_any S.length a c (cellsF 0 S) V (HV.out.els.2.wide (Nat.zero_le _) (Nat.le_refl _)) (by omega) (by omega)
          obtain ⟨p0, p1⟩ := (show V.cell? ⟨w2.heap.size, 0, none⟩ = some (.int .i64 n) ∧ V.cell? ⟨w2.heap.size, 1, none⟩ = some (.slice a (cellsF 0 S).length c) from ⟨cell_of HV.out.sto rfl, cell_of HV.out.sto rfl⟩)
          subst q1
          rw [show checkC S.length (cellsF 0 S) = checkS S from rfl] at hck
          have HQ := Lib.hid (And.intro q2 q3)
          clear hlS hz q2 q3
          rcases check_two15 S with hc | hc
          · have HQ2 : Hid (takeSE L = 0 ∧ takeSV L = S) := Lib.hid ⟨by rw [HQ.out.1, hc], by rw [HQ.out.2, if_pos hc]⟩
            rw [hc] at hck
            clear hc
            go_wp2_with (go_at_call 20; refine hck.mono ?_; rintro e w7 ⟨rfl, hb⟩; have H7 := Lib.hid (HV.out.step hb); obtain ⟨l0, l1, m0, m1⟩ := H7.out.twos; obtain ⟨t0, t1⟩ := (show w7.cell? ⟨w2.heap.size, 0, none⟩ = some (.int .i64 S.length) ∧ w7.cell? ⟨w2.heap.size, 1, none⟩ = some (.slice a (cellsF 0 S).length c) from ⟨cell_of H7.out.sto rfl, cell_of H7.out.sto rfl⟩); clear hb)
            refine bodyPost_ret (results_row_slot rfl _ _ w.heap.size _ rfl (st_load (two_stored14 H7.out.res _ _))) rfl ?_
            rw [HQ2.out.1, HQ2.out.2]
            exact H7.out.whole 0
          · have HQ2 : Hid (takeSE L = 40 ∧ takeSV L = []) := Lib.hid ⟨by rw [HQ.out.1, hc], by rw [HQ.out.2, if_neg (by rw [hc]; decide)]⟩
            rw [hc] at hck
            clear hc
            go_wp2_with (go_at_call 20; refine hck.mono ?_; rintro e w7 ⟨rfl, hb⟩; have H7 := Lib.hid (HV.out.step hb); obtain ⟨l0, l1, m0, m1⟩ := H7.out.twos; clear hb)
            refine bodyPost_ret (results_row_slot rfl _ _ w.heap.size _ rfl (st_load (two_stored14 H7.out.res _ _))) rfl ?_
            rw [HQ2.out.1, HQ2.out.2]
            exact H7.out.nothing 40
      · have i1 : ¬ (i : Int) < (n : Int) := by omega
        clear hq
        go_upto_region 17 with (go_at_call 56; refine (hen _).mono ?_; rintro e w6 ⟨rfl, hb⟩; have H6 := Lib.hid (HT.out.step hb); obtain ⟨d0, d1, d2, g0, g1, g2⟩ := three_cells H6.out.rdo; clear hb hen)
        have HV := Lib.hid (H6.out.setR re)
        clear c0 c1 c2 f0 f1 f2 d0 d1 d2 g0 g1 g2 i1
        obtain ⟨V, hV⟩ : ∃ V, V = ((w6.setCell ⟨w.heap.size + 1, 0, none⟩ (.string s)).setCell ⟨w.heap.size + 1, 1, none⟩ (.int .i64 re.p)).setCell ⟨w.heap.size + 1, 2, none⟩ (.int .i64 re.e) := ⟨_, rfl⟩
        rw [← hV] at HV ⊢
        clear hV H6 HT
        obtain ⟨c0, c1, c2, f0, f1, f2⟩ := three_cells HV.out.rdo
        obtain ⟨b0, b1, h0, h1⟩ := HV.out.twos
        by_cases hz : ¬ re.e = 0
        · have d1 : (re.e != 0) = true := by rw [bne_iff_ne]; exact hz
          obtain ⟨q1, q2⟩ := HBD.out hz
          have HQ := Lib.hid (And.intro q1 q2)
          have HD := Lib.hid (HV.out.step (Below.refl _ V).drew)
          obtain ⟨k0, k1, k2, _, _, _⟩ := three_cells HD.out.rdo
          obtain ⟨l0, l1, m0, m1⟩ := HD.out.twos
          clear hz q1 q2
          go_upto_region 18 with fail
          go_region_with (fail)
          all_goals
            go_wp2
            refine bodyPost_ret (results_row_slot rfl _ _ w.heap.size _ rfl (st_load (two_stored14 HD.out.res _ _))) rfl ?_
            rw [HQ.out.1, HQ.out.2]
            exact HD.out.nothing re.e
        · have hz := Classical.not_not.1 hz
          have d1 : (re.e != 0) = false := by rw [hz]; rfl
          obtain ⟨q1, q2, q3⟩ := HGD.out hz
          have hlS := HL.out
          have hck := rcheck15_any S.length a c (cellsF 0 S) V (HV.out.els.2.wide (Nat.zero_le _) (Nat.le_refl _)) (by omega) (by omega)
          obtain ⟨p0, p1⟩ := (show V.cell? ⟨w2.heap.size, 0, none⟩ = some (.int .i64 n) ∧ V.cell? ⟨w2.heap.size, 1, none⟩ = some (.slice a (cellsF 0 S).length c) from ⟨cell_of HV.out.sto rfl, cell_of HV.out.sto rfl⟩)
          subst q1
          rw [show checkC S.length (cellsF 0 S) = checkS S from rfl] at hck
          have HQ := Lib.hid (And.intro q2 q3)
          clear hlS hz q2 q3
          rcases check_two15 S with hc | hc
          · have HQ2 : Hid (takeSE L = 0 ∧ takeSV L = S) := Lib.hid ⟨by rw [HQ.out.1, hc], by rw [HQ.out.2, if_pos hc]⟩
            rw [hc] at hck
            clear hc
            go_wp2_with (go_at_call 20; refine hck.mono ?_; rintro e w7 ⟨rfl, hb⟩; have H7 := Lib.hid (HV.out.step hb); obtain ⟨l0, l1, m0, m1⟩ := H7.out.twos; obtain ⟨t0, t1⟩ := (show w7.cell? ⟨w2.heap.size, 0, none⟩ = some (.int .i64 S.length) ∧ w7.cell? ⟨w2.heap.size, 1, none⟩ = some (.slice a (cellsF 0 S).length c) from ⟨cell_of H7.out.sto rfl, cell_of H7.out.sto rfl⟩); clear hb)
            refine bodyPost_ret (results_row_slot rfl _ _ w.heap.size _ rfl (st_load (two_stored14 H7.out.res _ _))) rfl ?_
            rw [HQ2.out.1, HQ2.out.2]
            exact H7.out.whole 0
          · have HQ2 : Hid (takeSE L = 40 ∧ takeSV L = []) := Lib.hid ⟨by rw [HQ.out.1, hc], by rw [HQ.out.2, if_neg (by rw [hc]; decide)]⟩
            rw [hc] at hck
            clear hc
            go_wp2_with (go_at_call 20; refine hck.mono ?_; rintro e w7 ⟨rfl, hb⟩; have H7 := Lib.hid (HV.out.step hb); obtain ⟨l0, l1, m0, m1⟩ := H7.out.twos; clear hb)
            refine bodyPost_ret (results_row_slot rfl _ _ w.heap.size _ rfl (st_load (two_stored14 H7.out.res _ _))) rfl ?_
            rw [HQ2.out.1, HQ2.out.2]
            exact H7.out.nothing 40
end Go.Proofs.Yteccahggahpeeaa
