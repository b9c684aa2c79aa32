/- The document's own Of, Under, Drop and Same of pairs, for every list of pairs and in every world. -/
import Derived.Test.YteccahggahpeeaaMIds13
import Derived.Test.YteccahggahpeeaaMInts
import Derived.Test.YteccahggahpeeaaMLeaf
import Derived.Test.YteccahggahpeeaaMRows10
import Derived.Test.YteccahggahpeeaaRows
import Derived.Test.YteccahggahpeeaaShelf
import Derived.Laws.StructEq
import Derived.Deep.QuietTactic
import Derived.BigQuiet
import Derived.Deep.RegionHeld3
import Derived.Lib.RuneBytes
import Derived.WalkKit
import Derived.BigCall
import Derived.Outline
import Derived.Laws.IdiomStrings
import Derived.Lib.SmallJoins
import Derived.Lib.OthersKept
import Derived.Laws.RangeAny
namespace Go.Proofs.Yteccahggahpeeaa
open Go.RowKit

theorem tx_beq (a b : List UInt8) : ((tx a).toList == (tx b).toList) = (a == b) := by rw [ByteArray.toList_eq, ByteArray.toList_eq, tx_list, tx_list]
theorem pr_take (l : List Pr) (k : Nat) (hk : k < l.length) : l.take (k + 1) = l.take k ++ [prAt l k] := by
  rw [List.take_add_one, prAt_get l k hk]
  rfl
theorem of_step {l : List Pr} {k : Nat} (hk : k < l.length) (s : List UInt8) : ofP (l.take (k + 1)) s = if (prAt l k).1 = s then ofP (l.take k) s ++ [(prAt l k).2] else ofP (l.take k) s := by
  rw [pr_take l k hk]
  unfold ofP
  rw [List.filter_append, List.map_append]
  split
  · rename_i h
    rw [List.filter_cons, if_pos (by rw [h]; simp)]
    rfl
  · rename_i h
    rw [List.filter_cons, if_neg (by simpa using h)]
    simp
theorem under_step {l : List Pr} {k : Nat} (hk : k < l.length) (n : Int) : underP (l.take (k + 1)) n = if (prAt l k).2 = n then underP (l.take k) n ++ [(prAt l k).1] else underP (l.take k) n := by
  rw [pr_take l k hk]
  unfold underP
  rw [List.filter_append, List.map_append]
  split
  · rename_i h
    rw [List.filter_cons, if_pos (by rw [h]; simp)]
    rfl
  · rename_i h
    rw [List.filter_cons, if_neg (by simpa using h)]
    simp
theorem drop_step {l : List Pr} {k : Nat} (hk : k < l.length) (p : Pr) : dropP (l.take (k + 1)) p = if prAt l k = p then dropP (l.take k) p else dropP (l.take k) p ++ [prAt l k] := by
  rw [pr_take l k hk]
  unfold dropP
  rw [List.filter_append]
  split
  · rename_i h
    rw [List.filter_cons, if_neg (by rw [h]; simp)]
    simp
  · rename_i h
    rw [List.filter_cons, if_pos (by simpa using h)]
    rfl
theorem of_len (l : List Pr) (s : List UInt8) : (ofP l s).length ≤ l.length := by unfold ofP; rw [List.length_map]; exact List.length_filter_le _ _
theorem under_len (l : List Pr) (n : Int) : (underP l n).length ≤ l.length := by unfold underP; rw [List.length_map]; exact List.length_filter_le _ _
theorem drop_len (l : List Pr) (p : Pr) : (dropP l p).length ≤ l.length := List.length_filter_le _ _
/-- As it is told: the list with one less, and what is wrong. -/
def dropV (l : List Pr) (p : Pr) : List Pr := if p ∈ l then dropP l p else []
def dropE (l : List Pr) (p : Pr) : Int := if p ∈ l then 0 else 31
theorem dropV_in {l : List Pr} {p : Pr} (h : p ∈ l) : dropV l p = dropP l p ∧ dropE l p = 0 := by
  unfold dropV dropE
  rw [if_pos h, if_pos h]
  exact ⟨rfl, rfl⟩
theorem dropV_out {l : List Pr} {p : Pr} (h : p ∉ l) : dropV l p = [] ∧ dropE l p = 31 := by
  unfold dropV dropE
  rw [if_neg h, if_neg h]
  exact ⟨rfl, rfl⟩
/-- Numbers of the call's own, under way. -/
structure OutI (w W : World) (a : Option Addr) (c : Nat) (ys : List Int) : Prop where
  own : W.ownsRow w.heap.size 3 1 (.slice a ys.length c) ys.length (intCells ys)
  below : Below w.heap.size w W
theorem OutI.start (w : World) : OutI w w none 0 [] := ⟨World.ownsRow_nil _ _ _ _, Below.refl _ _⟩
theorem OutI.ints {w W : World} {a : Option Addr} {c : Nat} {ys : List Int} (h : OutI w W a c ys) : Ints W.heap.size W a ys := by
  obtain ⟨a', c', hv, hi⟩ := ints_own h.own
  injection hv with h1 _ _
  subst h1
  exact hi
theorem append_outI {ops : Array Oper} {rest : List Oper} {o : Oper} {a : Act} {Q : Exit → Act → World → Prop} {w V : World} (hgd : o.guard = none) (s x : Operand)
    (ho : o.op = .call { callee := .builtin .append, args := #[s, x], argTypes := #[120, 120] })
    (a0 : Option Addr) (c0 : Nat) (ys : List Int) (hs : a.eval s = .slice a0 ys.length c0) (hO : OutI w V a0 c0 ys) (t : Int)
    (hx : a.eval x = .slice (some ⟨V.heap.size, 0, none⟩) 1 1) (hk : ys.length ≤ 1000000)
    (h : ∀ a' c' V' zs, Hid (zs = ys ++ [t]) → OutI w V' a' c' zs → wpList Try.prog ops Q rest (a.put o.dst (.slice a' zs.length c')) V') :
    wpList Try.prog ops Q (o :: rest) a (V.alloc (.cells #[.int .i64 t] 3)) := by
  refine append_int hgd s x ho w.heap.size ys.length _ (intCells ys) hs hO.own t hx (by omega) hO.below.size ?_
  intro v' w4 ho4 hg4
  rw [intCells_more] at ho4
  have ho5 : w4.ownsRow w.heap.size 3 1 v' (ys ++ [t]).length (intCells (ys ++ [t])) := by rw [List.length_append]; exact ho4
  obtain ⟨a', c', hv, _⟩ := ints_own ho5
  subst hv
  refine h a' c' w4 _ (Lib.hid rfl) ⟨ho5, hO.below.trans ?_⟩
  refine ((Below.refl w.heap.size V).alloc hO.below.size (.cells #[.int .i64 t] 3)).grown hg4 (by have := hO.below.size; simp; omega) fun k hk => ?_
  exact (hO.own.lt k hk).1
end Go.Proofs.Yteccahggahpeeaa
namespace Go.Proofs.Yteccahggahpeeaa
open Go.RowKit

/-- A pair that came in by value lies in a block of its own. -/
def Boxed14 (w W : World) (p : Pr) : Prop := Below w.heap.size w W ∧ W.cell? ⟨w.heap.size, 0, none⟩ = some (.string (tx p.1)) ∧ W.cell? ⟨w.heap.size, 1, none⟩ = some (.int .i64 p.2)
theorem Boxed14.drew {w W : World} {p : Pr} (h : Boxed14 w W p) (n : Nat) : Boxed14 w (W.drewN n) p := ⟨drawn_below h.1 n, h.2.1, h.2.2⟩
end Go.Proofs.Yteccahggahpeeaa
namespace Go.Proofs.Yteccahggahpeeaa
open Go.RowKit

/-- A world in which the boxed pair lies, and all that was there before. -/
abbrev St14 (w v : World) (p : Pr) : Prop := Below w.heap.size w v ∧ v.cell? ⟨w.heap.size, 0, none⟩ = some (.string (tx p.1)) ∧ v.cell? ⟨w.heap.size, 1, none⟩ = some (.int .i64 p.2)
theorem St14.size {w v : World} {p : Pr} (h : St14 w v p) : w.heap.size < v.heap.size := World.block_lt_of_cell? v _ h.2.1
theorem St14.alloc {w v : World} {p : Pr} (h : St14 w v p) (o : Obj) : St14 w (v.alloc o) p :=
  ⟨h.1.alloc h.1.size o, (World.grownBy_alloc v o none).cell h.2.1 (by simp), (World.grownBy_alloc v o none).cell h.2.2 (by simp)⟩
theorem St14.drewer {w v : World} {p : Pr} (h : St14 w v p) : St14 w v.drew p := ⟨h.1.drew, h.2.1, h.2.2⟩
theorem St14.grown {w v v' : World} {p : Pr} {row : Option Nat} (h : St14 w v p) (hg : v.grownBy v' row) (hr : ∀ r, row = some r → w.heap.size + 1 ≤ r) : St14 w v' p :=
  ⟨h.1.grown hg h.1.size fun r e => by have := hr r e; omega, hg.cell h.2.1 (fun e => by have := hr _ e.symm; simp at this; omega), hg.cell h.2.2 (fun e => by have := hr _ e.symm; simp at this; omega)⟩
theorem rw_other {A B : Nat} {w w' : World} {b : Nat} {cs : List Value} {row : Option Nat} (hg : w.grownBy w' row) (h : Rw A B w (some ⟨b, 0, none⟩) cs) (hne : some b ≠ row) : Rw A B w' (some ⟨b, 0, none⟩) cs := by
  rcases h with h | ⟨b', off, ha, h1, h2, hc⟩
  · exact Or.inl h
  · injection ha with e
    injection e with e1 e2 _
    subst e1 e2
    exact Or.inr ⟨b, 0, rfl, h1, h2, fun j u hj => hg.cell (hc j u hj) hne⟩
theorem rw_alloc {A B : Nat} {w : World} {a : Option Addr} {cs : List Value} (h : Rw A B w a cs) (hB : B ≤ w.heap.size) (o : Obj) : Rw A B (w.alloc o) a cs := h.below ((Below.refl B w).alloc hB o)
theorem ins_cut {l : List Pr} {p : Pr} {k : Nat} (hk : k ≤ l.length) (h1 : ∀ j, j < k → prLt (prAt l j) p = true) (h2 : k < l.length → ¬ prLt (prAt l k) p = true) : l.take k ++ [p] ++ l.drop k = insP l p := by
  rw [insP_cut l p k hk (fun j hj hjk => ?_) (fun hlt => ?_), List.append_assoc]
  · rfl
  · have := prAt_get l j hj
    rw [List.getElem?_eq_getElem hj] at this
    rw [Option.some.inj this]
    exact h1 j hjk
  · have := prAt_get l k hlt
    rw [List.getElem?_eq_getElem hlt] at this
    rw [Option.some.inj this]
    exact h2 hlt
theorem prLt_none {p q : Pr} (h : prLt p q = false) : Op.bytesLess p.1 q.1 = false ∧ ((p.1 == q.1) = false ∨ ((p.1 == q.1) = true ∧ decide (p.2 < q.2) = false)) := by
  unfold prLt at h
  rw [Bool.or_eq_false_iff, Bool.and_eq_false_iff] at h
  refine ⟨h.1, ?_⟩
  cases hq : (p.1 == q.1) with
  | false => exact Or.inl rfl
  | true =>
    rcases h.2 with h | h
    · rw [hq] at h; cases h
    · exact Or.inr ⟨rfl, h⟩
theorem prLt_some {p q : Pr} (h : prLt p q = true) : Op.bytesLess p.1 q.1 = true ∨ (Op.bytesLess p.1 q.1 = false ∧ (p.1 == q.1) = true ∧ decide (p.2 < q.2) = true) := by
  unfold prLt at h
  rw [Bool.or_eq_true, Bool.and_eq_true] at h
  cases hq : Op.bytesLess p.1 q.1 with
  | true => exact Or.inl rfl
  | false =>
    rcases h with h | h
    · rw [hq] at h; cases h
    · exact Or.inr ⟨rfl, h.1, h.2⟩
theorem tx_less (a b : List UInt8) : Op.bytesLess (tx a).toList (tx b).toList = Op.bytesLess a b := by rw [ByteArray.toList_eq, ByteArray.toList_eq, tx_list, tx_list]
end Go.Proofs.Yteccahggahpeeaa
namespace Go.Proofs.Yteccahggahpeeaa
open Go.RowKit

/-- What is wrong with adding numbers under a text, and what comes of it. -/
def addsX (s : List UInt8) (l : List Pr) (ns : List Int) : Int := if checkOf s ≠ 0 then 9 else addsE s l ns
def addsV (s : List UInt8) (l : List Pr) (ns : List Int) : List Pr := if addsX s l ns = 0 then addsL s l ns else []
theorem addsV_bad {s : List UInt8} {l : List Pr} {ns : List Int} {E : Int} (h : addsX s l ns = E) (hE : E ≠ 0) : addsV s l ns = [] := by
  unfold addsV
  rw [h, if_neg hE]
theorem addsX_on {s : List UInt8} (h : checkOf s = 0) (l : List Pr) (ns : List Int) : addsX s l ns = addsE s l ns := by
  unfold addsX
  rw [if_neg (by simpa using h)]
theorem addsE_cons (s : List UInt8) (l : List Pr) (n : Int) (ns : List Int) : addsE s l (n :: ns) = if addE l s n ≠ 0 then addE l s n else addsE s (insP l (s, n)) ns := rfl
theorem addsL_cons (s : List UInt8) (l : List Pr) (n : Int) (ns : List Int) : addsL s l (n :: ns) = addsL s (insP l (s, n)) ns := rfl
/-- Under way: what is still to be told. -/
structure Adding (s : List UInt8) (l : List Pr) (ns : List Int) (k : Nat) (m : List Pr) : Prop where
  err : addsE s m (ns.drop k) = addsE s l ns
  out : addsL s m (ns.drop k) = addsL s l ns
  len : m.length = l.length + k
theorem Adding.stop {s : List UInt8} {l m : List Pr} {ns : List Int} {k : Nat} {E : Int} (h : Adding s l ns k m) (hk : k < ns.length) (he : addE m s (numAt ns k) = E) (hE : E ≠ 0) : addsE s l ns = E := by
  rw [← h.err, drop_at ns k hk]
  unfold addsE
  rw [he, if_pos hE]
theorem Adding.next {s : List UInt8} {l m : List Pr} {ns : List Int} {k : Nat} (h : Adding s l ns k m) (hk : k < ns.length) (he : addE m s (numAt ns k) = 0) : Adding s l ns (k + 1) (insP m (s, numAt ns k)) := by
  have h1 := h.err
  have h2 := h.out
  rw [drop_at ns k hk] at h1 h2
  rw [addsE_cons, he, if_neg (by simp)] at h1
  rw [addsL_cons] at h2
  exact ⟨h1, h2, by rw [len_insP, h.len]; omega⟩
theorem Adding.done {s : List UInt8} {l m : List Pr} {ns : List Int} (h : Adding s l ns ns.length m) : addsE s l ns = 0 ∧ addsL s l ns = m := by
  have h1 := h.err
  have h2 := h.out
  rw [List.drop_length] at h1 h2
  exact ⟨h1.symm, h2.symm⟩
end Go.Proofs.Yteccahggahpeeaa
namespace Go.Proofs.Yteccahggahpeeaa
open Go.RowKit

/-- A slice of slices of numbers. -/
def Lists (A B : Nat) (w : World) (a : Option Addr) (I : List (List Int)) : Prop :=
  I = [] ∨ ∃ b off, a = some ⟨b, off, none⟩ ∧ A ≤ b ∧ b < B ∧ ∀ j, j < I.length → ∃ (aj : Option Addr) (cj : Nat), w.cell? ⟨b, off + j, none⟩ = some (.slice aj (numsAt I j).length cj) ∧ (numsAt I j).length ≤ cj ∧ Ints B w aj (numsAt I j)
theorem Lists.below {A B : Nat} {w w' : World} {a : Option Addr} {I : List (List Int)} (h : Lists A B w a I) (hb : Below B w w') : Lists A B w' a I := by
  rcases h with h | ⟨b, off, ha, hA, hB, hc⟩
  · exact Or.inl h
  · refine Or.inr ⟨b, off, ha, hA, hB, fun j hj => ?_⟩
    obtain ⟨aj, cj, h1, h2, h3⟩ := hc j hj
    exact ⟨aj, cj, (hb.cell (p := ⟨b, off + j, none⟩) hB).trans h1, h2, h3.below hb⟩
theorem Lists.wide {A A' B B' : Nat} {w : World} {a : Option Addr} {I : List (List Int)} (h : Lists A B w a I) (hA : A' ≤ A) (hB : B ≤ B') : Lists A' B' w a I := by
  rcases h with h | ⟨b, off, ha, h1, h2, hc⟩
  · exact Or.inl h
  · refine Or.inr ⟨b, off, ha, by omega, by omega, fun j hj => ?_⟩
    obtain ⟨aj, cj, h1, h2, h3⟩ := hc j hj
    exact ⟨aj, cj, h1, h2, h3.up hB⟩
theorem Lists.step {A : Nat} {w w' : World} {a : Option Addr} {I : List (List Int)} (h : Lists A w.heap.size w a I) (b : Below w.heap.size w w') : Lists A w'.heap.size w' a I := (h.below b).wide (Nat.le_refl _) b.size
theorem Lists.at {A B : Nat} {w : World} {a : Option Addr} {I : List (List Int)} (h : Lists A B w a I) {j : Nat} (hj : j < I.length) : ∃ b off, a = some ⟨b, off, none⟩ ∧ b < B ∧ ∃ (aj : Option Addr) (cj : Nat), w.cell? ⟨b, off + j, none⟩ = some (.slice aj (numsAt I j).length cj) ∧ (numsAt I j).length ≤ cj ∧ Ints B w aj (numsAt I j) := by
  rcases h with h | ⟨b, off, ha, _, hb, hc⟩
  · subst h; simp at hj
  · exact ⟨b, off, ha, hb, hc j hj⟩
/-- Texts, as the rows of layer 1 have them. -/
theorem texts_txs {A B : Nat} {w : World} {a : Option Addr} {K : List (List UInt8)} (h : Txs A B w a K) : Texts B w a (K.map tx) := by
  rcases h with rfl | ⟨b, off, ha, _, hb, hc⟩
  · exact Or.inl rfl
  · refine Or.inr ⟨b, off, ha, hb, fun j hj => ?_⟩
    have hj' : j < K.length := by simpa using hj
    rw [hc j hj']
    unfold textAt rowAt
    rw [List.getD_eq_getElem?_getD, List.getD_eq_getElem?_getD, List.getElem?_map, List.getElem?_eq_getElem hj']
    rfl
theorem textAt_tx {K : List (List UInt8)} {j : Nat} (hj : j < K.length) : textAt (K.map tx) j = tx (rowAt K j) := by
  unfold textAt rowAt
  rw [List.getD_eq_getElem?_getD, List.getD_eq_getElem?_getD, List.getElem?_map, List.getElem?_eq_getElem hj]
  rfl
/-- Keys that are a row are in order. -/
theorem srtK_row {K : List (List UInt8)} (h : rowOf (K.map tx) = 0) : SrtK K := by
  unfold SrtK
  rw [List.pairwise_iff_getElem]
  intro i j hi hj hij
  have h1 := row_less (K.map tx) h i j hij (by simpa using hj)
  rw [textAt_tx hi, textAt_tx hj, ByteArray.toList_eq, ByteArray.toList_eq, tx_list, tx_list] at h1
  have e1 := rowAt_get K i hi
  have e2 := rowAt_get K j hj
  rw [List.getElem?_eq_getElem hi] at e1
  rw [List.getElem?_eq_getElem hj] at e2
  rw [Option.some.inj e1, Option.some.inj e2]
  exact h1

/-- May an index be, but for how many pairs it has? -/
def fineK (K : List (List UInt8)) (I : List (List Int)) : Prop := rowOf (K.map tx) = 0 ∧ K.length = I.length ∧ ∀ j, j < I.length → numsAt I j ≠ [] ∧ risingE (numsAt I j) = 0
theorem fine_ix {K : List (List UInt8)} {I : List (List Int)} (h : fineK K I) : Ix14 K I := by
  have hat : ∀ l ∈ I, ∃ j, j < I.length ∧ numsAt I j = l := fun l hl => by
    obtain ⟨j, hj, rfl⟩ := List.getElem_of_mem hl
    have := numsAt_get I j hj
    rw [List.getElem?_eq_getElem hj] at this
    exact ⟨j, hj, (Option.some.inj this).symm⟩
  refine ⟨h.2.1, srtK_row h.1, fun l hl => ?_, fun l hl => ?_⟩
  · obtain ⟨j, hj, rfl⟩ := hat l hl
    exact (h.2.2 j hj).1
  · obtain ⟨j, hj, rfl⟩ := hat l hl
    exact (rising_iff _).1 (h.2.2 j hj).2
instance (K : List (List UInt8)) (I : List (List Int)) : Decidable (fineK K I) := by unfold fineK; exact inferInstance
def pairsV (K : List (List UInt8)) (I : List (List Int)) : List Pr := if fineK K I then pairsK K I else []
def pairsO (K : List (List UInt8)) (I : List (List Int)) : Bool := decide (fineK K I ∧ sumK I ≤ 2000)
theorem pairs_fine {K : List (List UInt8)} {I : List (List Int)} (h : fineK K I) : pairsV K I = pairsK K I ∧ pairsO K I = decide (sumK I ≤ 2000) := by
  unfold pairsV pairsO
  rw [if_pos h]
  refine ⟨rfl, ?_⟩
  by_cases h2 : sumK I ≤ 2000
  · rw [decide_eq_true h2]; exact decide_eq_true ⟨h, h2⟩
  · rw [decide_eq_false h2]; exact decide_eq_false fun q => h2 q.2
theorem pairs_bad {K : List (List UInt8)} {I : List (List Int)} (h : ¬ fineK K I) : pairsV K I = [] ∧ pairsO K I = false := by
  unfold pairsV pairsO
  rw [if_neg h]
  exact ⟨rfl, decide_eq_false fun q => h q.1⟩
theorem sum_mem {I : List (List Int)} {l : List Int} (h : l ∈ I) : l.length ≤ sumK I := by
  induction I with
  | nil => cases h
  | cons m I ih =>
    unfold sumK at ih ⊢
    rw [List.map_cons, List.sum_cons]
    rcases List.mem_cons.1 h with rfl | h
    · omega
    · have := ih h; omega
theorem sum_take (I : List (List Int)) (i : Nat) : sumK (I.take i) ≤ sumK I := by
  induction i generalizing I with
  | zero => simp [sumK]
  | succ i ih =>
    cases I with
    | nil => simp [sumK]
    | cons m I =>
      have := ih I
      unfold sumK at this ⊢
      rw [List.take_succ_cons, List.map_cons, List.sum_cons, List.map_cons, List.sum_cons]
      omega
end Go.Proofs.Yteccahggahpeeaa
