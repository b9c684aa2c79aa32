/- The program's factsOf, isIn and byCell: in every world. -/
import Derived.Test.YtifihejogbcbgaaCov19
import Derived.Test.YtifihejogbcbgaaMPrgA18
import Derived.Test.YtifihejogbcbgaaRefD18
import Derived.Test.YtifihejogbcbgaaRefD19
import Derived.Test.YtifihejogbcbgaaWant19
namespace Go.Proofs.Ytifihejogbcbgaa
open Go.RowKit

theorem pfact_load19 {w : World} {g : Nat} {x y z : Value} (h : w.heap[g]? = some (.cells #[x, y, z] 28 (0, 0))) : (loadVar 28 ⟨g, 0, none⟩).run Try.prog w = .ok (.agg #[x, y, z]) w :=
  run_loadVar_row (P := Try.prog) w g _ 28 #[x, y, z] (0, 0) _ h Try.underlying28 rfl (by kernel_rfl)
set_option maxHeartbeats 4000000 in
theorem pfacts19_any (c : Nat) (hc : c < 8) (n : Int) (w : World) : Calls Try.prog 24 #[.int .i64 (c : Int), .int .i64 n] w fun e w' => e = .returned (factVal (cellF c n)) ∧ Below w.heap.size w w' := by
  have hcs : ∃ G B, cellF c n = ⟨G, B, n⟩ ∧ ((c = 0 ∧ G = 0 ∧ B = false) ∨ (c = 1 ∧ G = 0 ∧ B = true) ∨ (c = 2 ∧ G = 1 ∧ B = false) ∨ (c = 3 ∧ G = 1 ∧ B = true) ∨ (c = 4 ∧ G = 2 ∧ B = false) ∨ (c = 5 ∧ G = 2 ∧ B = true) ∨ (c = 6 ∧ G = 3 ∧ B = false) ∨ (c = 7 ∧ G = 3 ∧ B = true)) := by
    refine ⟨_, _, rfl, ?_⟩
    rcases (by omega : c = 0 ∨ c = 1 ∨ c = 2 ∨ c = 3 ∨ c = 4 ∨ c = 5 ∨ c = 6 ∨ c = 7) with rfl | rfl | rfl | rfl | rfl | rfl | rfl | rfl <;> decide
  obtain ⟨G, B, hcf, hcs⟩ := hcs
  have HCF := Lib.hid hcf
  clear hcf hc
  generalize cellF c n = cf at *
  rcases hcs with ⟨rfl, rfl, rfl⟩ | ⟨rfl, rfl, rfl⟩ | ⟨rfl, rfl, rfl⟩ | ⟨rfl, rfl, rfl⟩ | ⟨rfl, rfl, rfl⟩ | ⟨rfl, rfl, rfl⟩ | ⟨rfl, rfl, rfl⟩ | ⟨rfl, rfl, rfl⟩
  all_goals
    go_enter Try.func24, Try.ntmps24
    go_wp2
    refine bodyPost_ret (results_one18 rfl _ _ w.heap.size _ rfl (pfact_load19 (heap_alloc_new w _))) rfl ?_
    exact ⟨by rw [HCF.out], lit16 w _⟩
set_option maxHeartbeats 4000000 in
theorem pisin19_any (r : Row18) (c : Nat) (hc : c < 8) (w : World) : Calls Try.prog 47 #[rowVal r, .int .i64 (c : Int)] w fun e w' => e = .returned (.bool (inC19 r c)) ∧ Below w.heap.size w w' := by
  have h1 := heap_alloc_new w (.cells #[.int .i64 r.g, .int .i64 r.v, .int .i64 r.lo, .int .i64 r.hi, .int .i64 r.way] 52)
  obtain ⟨W, hW⟩ : ∃ W, W = w.alloc (.cells #[.int .i64 r.g, .int .i64 r.v, .int .i64 r.lo, .int .i64 r.hi, .int .i64 r.way] 52) := ⟨_, rfl⟩
  have hb0 : Below w.heap.size w W := by rw [hW]; exact lit16 w _
  rw [← hW] at h1
  have HS : Hid (∀ V, Below W.heap.size W V → V.cell? ⟨w.heap.size, 0, none⟩ = some (.int .i64 r.g) ∧ V.cell? ⟨w.heap.size, 1, none⟩ = some (.int .i64 r.v) ∧ V.cell? ⟨w.heap.size, 2, none⟩ = some (.int .i64 r.lo) ∧ V.cell? ⟨w.heap.size, 3, none⟩ = some (.int .i64 r.hi) ∧ V.cell? ⟨w.heap.size, 4, none⟩ = some (.int .i64 r.way)) := Lib.hid fun V hV => by
    have k1 := old_obj hV h1
    exact ⟨cell_of (j := 0) k1 rfl, cell_of (j := 1) k1 rfl, cell_of (j := 2) k1 rfl, cell_of (j := 3) k1 rfl, cell_of (j := 4) k1 rfl⟩
  have HF : Hid (∀ V, Calls Try.prog 24 #[.int .i64 (c : Int), .int .i64 r.lo] V fun e w' => e = .returned (factVal (cellF c r.lo)) ∧ Below V.heap.size V w') := Lib.hid fun V => pfacts19_any c hc _ V
  have HM : Hid (∀ V, Calls Try.prog 61 #[rowVal r, factVal (cellF c r.lo)] V fun e w' => e = .returned (.bool (inC19 r c)) ∧ Below V.heap.size V w') := Lib.hid fun V => pmatch18_any r _ V
  have HB0 := Lib.hid hb0
  have HW := Lib.hid hW
  generalize cellF c r.lo = F at *
  generalize inC19 r c = x at *
  clear hc h1 hb0
  have BX := Lib.hid (Below.refl W.heap.size W).drew
  have SX := Lib.hid (HS.out _ BX.out)
  have SS := Lib.hid (HS.out W (Below.refl _ _))
  obtain ⟨rg, rv, rl, rh, rw⟩ := r
  dsimp only at *
  go_enter Try.func47, Try.ntmps47
  go_upto_region 1 with fail
  rw [← hW]
  clear hW
  go_region_held3 (fun v => v.cell? ⟨w.heap.size, 0, none⟩ = some (.int .i64 rg) ∧ v.cell? ⟨w.heap.size, 1, none⟩ = some (.int .i64 rv) ∧ v.cell? ⟨w.heap.size, 2, none⟩ = some (.int .i64 rl) ∧ v.cell? ⟨w.heap.size, 3, none⟩ = some (.int .i64 rh) ∧ v.cell? ⟨w.heap.size, 4, none⟩ = some (.int .i64 rw)) (first
    | exact SX.out
    | exact SS.out
    | assumption
    | go_keep) (first
    | (go_at_call 24; refine (HF.out _).mono ?_; rintro e w5 ⟨rfl, hb⟩; have BY := Lib.hid (BX.out.trans (hb.mono BX.out.size)); clear BX SX hb; have BX := BY; clear BY; have SX := Lib.hid (HS.out _ BX.out))
    | (go_at_call 61; refine (HM.out _).mono ?_; rintro e w6 ⟨rfl, hb⟩; have BY := Lib.hid (BX.out.trans (hb.mono BX.out.size)); clear BX SX hb; have BX := BY; clear BY; have SX := Lib.hid (HS.out _ BX.out)))
  all_goals
    go_wp2
    go_ret
    exact ⟨rfl, HB0.out.trans (BX.out.mono HB0.out.size)⟩
end Go.Proofs.Ytifihejogbcbgaa
namespace Go.Proofs.Ytifihejogbcbgaa
open Go.RowKit

theorem infoRowp19 : (Try.prog.info? 52).map (fun i => (i.zero, i.size, i.bytes)) = some (some (.agg #[.int .i64 0, .int .i64 0, .int .i64 0, .int .i64 0, .int .i64 0]), 5, 40) := by kernel_rfl
theorem step_append_e19 {α : Type} (E : Elt α) {ops : Array Oper} {o : Oper} {a : Act} {K : Act → World → Prop} {Q : Exit → Act → World → Prop} {V : World} {X : Prop} {t e : TypeId} {z : Value} {bytes : Nat}
    (ht : Try.prog.underlying t = some (.slice e)) (hinfo : (Try.prog.info? e).map (fun i => (i.zero, i.size, i.bytes)) = some (some z, E.k, bytes)) (hzc : z.cells.size = E.k) (hb : bytes ≤ 1000000) (hgd : o.guard = none) (s x : Operand)
    (ho : o.op = .call { callee := .builtin .append, args := #[s, x], argTypes := #[t, t] })
    (B : Nat) (a0 : Option Addr) (c0 : Nat) (l : List α) (hs : a.eval s = .slice a0 l.length c0) (hown : V.ownsRow B e E.k (.slice a0 l.length c0) l.length (E.cells l)) (hB : B ≤ V.heap.size) (p : α) {arr : Array Value} (harr : arr.toList = E.enc p)
    (g : Nat) (hx : a.eval x = .slice (some ⟨g, 0, none⟩) 1 1) (hg : g = V.heap.size) (hk : l.length ≤ 900000)
    (h : ∀ a' c' V' m, Hid (m = l ++ [p]) → V'.ownsRow B e E.k (.slice a' m.length c') m.length (E.cells m) → (V.alloc (.cells arr e)).grownBy V' (Value.slice a0 l.length c0).ownBlock → K (a.put o.dst (.slice a' m.length c')) V') :
    if Region.wanted o (yielded ops a.tmps) = true then Oper.wp Try.prog o a (V.alloc (.cells arr e)) K Q else X := by
  subst hg
  refine step_append_rk hgd s x E.pos ht hinfo hzc ho B l.length _ (E.cells l) (E.cells [p]) hs (hown.alloc _) _ 1 1 0 (V.heap.size + 1) hx (E.cells_len [p]) (lit_one_e V p harr) (E.one_cell [p]) (by omega) hb (by simp; omega) ?_
  intro v' w' ho' hg'
  rw [← E.cells_append] at ho'
  have ho2 : w'.ownsRow B e E.k v' (l ++ [p]).length (E.cells (l ++ [p])) := by rw [List.length_append]; exact ho'
  obtain ⟨a', c', rfl, _, _, _⟩ := rk_own ho2
  exact h a' c' w' _ (Lib.hid rfl) ho2 hg'
theorem heap_alloc_old19 (w : World) (o : Obj) {k : Nat} (h : k < w.heap.size) : (w.alloc o).heap[k]? = w.heap[k]? := Below.heap_alloc _ _ _ h
theorem eight_any19 {w : World} {g : Nat} {t : TypeId} {x0 x1 x2 x3 x4 x5 x6 x7 : Value} {fr : Nat × Nat} (h : w.heap[g]? = some (.cells #[x0, x1, x2, x3, x4, x5, x6, x7] t fr)) :
    w.cell? ⟨g, 0, none⟩ = some x0 ∧ w.cell? ⟨g, 1, none⟩ = some x1 ∧ w.cell? ⟨g, 2, none⟩ = some x2 ∧ w.cell? ⟨g, 3, none⟩ = some x3 ∧ w.cell? ⟨g, 4, none⟩ = some x4 ∧ w.cell? ⟨g, 5, none⟩ = some x5 ∧ w.cell? ⟨g, 6, none⟩ = some x6 ∧ w.cell? ⟨g, 7, none⟩ = some x7 :=
  ⟨cell_of (j := 0) h rfl, cell_of (j := 1) h rfl, cell_of (j := 2) h rfl, cell_of (j := 3) h rfl, cell_of (j := 4) h rfl, cell_of (j := 5) h rfl, cell_of (j := 6) h rfl, cell_of (j := 7) h rfl⟩
theorem heap_eight19 (w : World) {g b : Nat} (h : b ≠ g) (v0 v1 v2 v3 v4 v5 v6 v7 : Value) : ((((((((w.setCell ⟨g, 0, none⟩ v0).setCell ⟨g, 1, none⟩ v1).setCell ⟨g, 2, none⟩ v2).setCell ⟨g, 3, none⟩ v3).setCell ⟨g, 4, none⟩ v4).setCell ⟨g, 5, none⟩ v5).setCell ⟨g, 6, none⟩ v6).setCell ⟨g, 7, none⟩ v7).heap[b]? = w.heap[b]? := by
  rw [Below.heap_setCell _ _ _ _ h, Below.heap_setCell _ _ _ _ h, Below.heap_setCell _ _ _ _ h, Below.heap_setCell _ _ _ _ h, Below.heap_setCell _ _ _ _ h, Below.heap_setCell _ _ _ _ h, Below.heap_setCell _ _ _ _ h, Below.heap_setCell _ _ _ _ h]
/-- Eight slices. -/
def sl8 (ad : Nat → Option Addr) (cs : Nat → Nat) (R : Nat → List Row18) : Array Value := #[.slice (ad 0) (R 0).length (cs 0), .slice (ad 1) (R 1).length (cs 1), .slice (ad 2) (R 2).length (cs 2), .slice (ad 3) (R 3).length (cs 3), .slice (ad 4) (R 4).length (cs 4), .slice (ad 5) (R 5).length (cs 5), .slice (ad 6) (R 6).length (cs 6), .slice (ad 7) (R 7).length (cs 7)]
/-- The rows behind c cells, and those of k rows in the next one. -/
def rowsAt19 (l : List Row18) (c k j : Nat) : List Row18 := if j < c then rowsTo l j l.length else if j = c then rowsTo l c k else []
def upd19 {α : Type} (f : Nat → α) (c : Nat) (x : α) (j : Nat) : α := if j = c then x else f j
theorem rowsat_start (l : List Row18) : rowsAt19 l 0 0 = fun _ => [] := by
  funext j
  unfold rowsAt19
  rw [if_neg (by omega)]
  split <;> rfl
theorem rowsat_next (l : List Row18) (c : Nat) : rowsAt19 l c l.length = rowsAt19 l (c + 1) 0 := by
  funext j
  unfold rowsAt19
  by_cases h : j < c
  · rw [if_pos h, if_pos (by omega)]
  · by_cases h2 : j = c
    · rw [if_neg h, if_pos h2, if_pos (by omega), h2]
    · rw [if_neg h, if_neg h2, if_neg (by omega)]
      split <;> rfl
theorem rowsat_skip {l : List Row18} {c k : Nat} (h : inC19 (rowAt18 l k) c = false) : rowsAt19 l c k = rowsAt19 l c (k + 1) := by
  have e : rowsTo l c (k + 1) = rowsTo l c k := by rw [rowsTo, if_neg (by rw [h]; decide)]
  funext j
  unfold rowsAt19
  rw [e]
theorem rowsat_more {l : List Row18} {c k : Nat} (h : inC19 (rowAt18 l k) c = true) : rowsAt19 l c (k + 1) = upd19 (rowsAt19 l c k) c (rowsTo l c k ++ [rowAt18 l k]) := by
  have e : rowsTo l c (k + 1) = rowsTo l c k ++ [rowAt18 l k] := by rw [rowsTo, if_pos h]
  funext j
  unfold rowsAt19 upd19
  rw [e]
  by_cases h2 : j = c
  · subst h2; simp
  · simp only [if_neg h2]
theorem rowsat_all (l : List Row18) (ad : Nat → Option Addr) (cs : Nat → Nat) : sl8 ad cs (rowsAt19 l 8 0) = sl8 ad cs fun c => rowsTo l c l.length := by simp [sl8, rowsAt19]
theorem sl8_at (ad : Nat → Option Addr) (cs : Nat → Nat) (R : Nat → List Row18) {c : Nat} (hc : c < 8) : (sl8 ad cs R)[c]? = some (.slice (ad c) (R c).length (cs c)) := by
  rcases (by omega : c = 0 ∨ c = 1 ∨ c = 2 ∨ c = 3 ∨ c = 4 ∨ c = 5 ∨ c = 6 ∨ c = 7) with rfl | rfl | rfl | rfl | rfl | rfl | rfl | rfl <;> rfl
theorem sl8_set (ad : Nat → Option Addr) (cs : Nat → Nat) (R : Nat → List Row18) {c : Nat} (hc : c < 8) (a : Option Addr) (n : Nat) (l : List Row18) : (sl8 ad cs R).setIfInBounds c (.slice a l.length n) = sl8 (upd19 ad c a) (upd19 cs c n) (upd19 R c l) := by
  rcases (by omega : c = 0 ∨ c = 1 ∨ c = 2 ∨ c = 3 ∨ c = 4 ∨ c = 5 ∨ c = 6 ∨ c = 7) with rfl | rfl | rfl | rfl | rfl | rfl | rfl | rfl <;> simp [sl8, upd19]
theorem els_keep19 {A B : Nat} {w w' : World} {a : Option Addr} {l : List Row18} (h : Els rowElt A B w a l) (hk : ∀ b, A ≤ b → b < B → w'.heap[b]? = w.heap[b]?) : Els rowElt A B w' a l := by
  rcases h with h | ⟨b, off, ha, h1, h2, hc⟩
  · exact Or.inl h
  · exact Or.inr ⟨b, off, ha, h1, h2, fun j u hj => (World.cell?_of_block (a := ⟨b, off + j, none⟩) (hk b h1 h2)).trans (hc j u hj)⟩
/-- Behind c cells, and k rows of the next one. -/
structure Byc19 (w W : World) (B : Nat) (ad : Nat → Option Addr) (cs : Nat → Nat) (l : List Row18) (c k : Nat) : Prop where
  now : W.heap[w.heap.size + 1]? = some (.cells (sl8 ad cs (rowsAt19 l c k)) 61 (0, 0))
  out : W.heap[w.heap.size]? = some (.cells (sl8 (fun _ => none) (fun _ => 0) fun _ => []) 61 (0, 0))
  base : w.heap.size + 2 ≤ B ∧ B ≤ W.heap.size
  done : ∀ j, j < c → Els rowElt (w.heap.size + 2) B W (ad j) (rowsTo l j l.length) ∧ (rowsTo l j l.length).length ≤ cs j
  cur : W.ownsRow B 52 5 (.slice (ad c) (rowsTo l c k).length (cs c)) (rowsTo l c k).length (rowElt.cells (rowsTo l c k))
  rest : ∀ j, c < j → ad j = none ∧ cs j = 0
  below : Below w.heap.size w W
theorem Byc19.step {w W W' : World} {B : Nat} {ad : Nat → Option Addr} {cs : Nat → Nat} {l : List Row18} {c k : Nat} (h : Byc19 w W B ad cs l c k) (hb : Below W.heap.size W W') : Byc19 w W' B ad cs l c k where
  now := old_obj hb h.now
  out := old_obj hb h.out
  base := ⟨h.base.1, Nat.le_trans h.base.2 hb.size⟩
  done := fun j hj => ⟨(h.done j hj).1.below (hb.mono h.base.2), (h.done j hj).2⟩
  cur := ownk_on h.cur hb
  rest := h.rest
  below := h.below.trans (hb.mono h.below.size)
theorem Byc19.skip {w W : World} {B : Nat} {ad : Nat → Option Addr} {cs : Nat → Nat} {l : List Row18} {c k : Nat} (h : Byc19 w W B ad cs l c k) (hn : inC19 (rowAt18 l k) c = false) : Byc19 w W B ad cs l c (k + 1) := by
  have e : rowsTo l c (k + 1) = rowsTo l c k := by rw [rowsTo, if_neg (by rw [hn]; decide)]
  exact ⟨by rw [← rowsat_skip hn]; exact h.now, h.out, h.base, h.done, by rw [e]; exact h.cur, h.rest, h.below⟩
theorem Byc19.next {w W : World} {B : Nat} {ad : Nat → Option Addr} {cs : Nat → Nat} {l : List Row18} {c : Nat} (h : Byc19 w W B ad cs l c l.length) : Byc19 w W W.heap.size ad cs l (c + 1) 0 where
  now := by rw [← rowsat_next]; exact h.now
  out := h.out
  base := ⟨Nat.le_trans h.base.1 h.base.2, Nat.le_refl _⟩
  done := fun j hj => by
    rcases (by omega : j < c ∨ j = c) with q | rfl
    · exact ⟨(h.done j q).1.wide (Nat.le_refl _) h.base.2, (h.done j q).2⟩
    · obtain ⟨a', c', hv, hc, _, ht⟩ := rk_own h.cur
      injection hv with h1 _ h3
      subst h1 h3
      exact ⟨Rw.wide ht h.base.1 (Nat.le_refl _), hc⟩
  cur := by
    rw [(h.rest (c + 1) (by omega)).1, (h.rest (c + 1) (by omega)).2]
    exact World.ownsRow_nil _ _ _ _
  rest := fun j hj => h.rest j (by omega)
  below := h.below
theorem Byc19.more {w V V7 : World} {B : Nat} {ad : Nat → Option Addr} {cs : Nat → Nat} {l : List Row18} {c k : Nat} (h : Byc19 w V B ad cs l c k) (hc : c < 8) (hy : inC19 (rowAt18 l k) c = true) {o : Obj} {a7 : Option Addr} {c7 : Nat} {m : List Row18} (hm : m = rowsTo l c k ++ [rowAt18 l k])
    (ho : V7.ownsRow B 52 5 (.slice a7 m.length c7) m.length (rowElt.cells m)) (hg : (V.alloc o).grownBy V7 (Value.slice (ad c) (rowsTo l c k).length (cs c)).ownBlock) :
    V7.heap[w.heap.size + 1]? = some (.cells (sl8 ad cs (rowsAt19 l c k)) 61 (0, 0)) ∧ Byc19 w (V7.setCell ⟨w.heap.size + 1, c, none⟩ (.slice a7 m.length c7)) B (upd19 ad c a7) (upd19 cs c c7) l c (k + 1) := by
  have e : rowsTo l c (k + 1) = m := by rw [rowsTo, if_pos hy, hm]
  have hrow : ∀ q, (Value.slice (ad c) (rowsTo l c k).length (cs c)).ownBlock = some q → B ≤ q := fun q hq => (h.cur.lt q hq).1
  have hb1 := h.base.1
  have hb2 := h.base.2
  have hsz : (V.alloc o).heap.size = V.heap.size + 1 := by simp
  have hold : ∀ b, b < B → V7.heap[b]? = V.heap[b]? := fun b hb => (hg.block b (by omega) fun q => by have := hrow b q.symm; omega).trans (Below.heap_alloc _ _ _ (by omega))
  have hnow : V7.heap[w.heap.size + 1]? = some (.cells (sl8 ad cs (rowsAt19 l c k)) 61 (0, 0)) := (hold _ (by omega)).trans h.now
  have hup : ∀ b, b ≠ w.heap.size + 1 → (V7.setCell ⟨w.heap.size + 1, c, none⟩ (.slice a7 m.length c7)).heap[b]? = V7.heap[b]? := fun b hb => Below.heap_setCell _ _ _ _ hb
  have hsize : (V7.setCell ⟨w.heap.size + 1, c, none⟩ (.slice a7 m.length c7)).heap.size = V7.heap.size := by simp [World.setCell]
  refine ⟨hnow, ?_, ?_, ⟨hb1, ?_⟩, fun j hj => ?_, ?_, fun j hj => ?_, ?_⟩
  · rw [rowsat_more hy, ← hm, ← sl8_set ad cs _ hc]
    exact heap_setCell_same V7 (w.heap.size + 1) c _ _ _ hnow
  · rw [hup _ (by omega), hold _ (by omega)]; exact h.out
  · rw [hsize]; have := hg.size; omega
  · have hne : j ≠ c := by omega
    unfold upd19
    rw [if_neg hne, if_neg hne]
    exact ⟨els_keep19 (h.done j hj).1 fun b q1 q2 => (hup b (by omega)).trans (hold b q2), (h.done j hj).2⟩
  · unfold upd19
    rw [if_pos rfl, if_pos rfl, e]
    refine ⟨ho.1, ho.2.imp id ?_⟩
    rintro ⟨g, cap, cur, q1, q2, q3, q4⟩
    exact ⟨g, cap, cur, q1, q2, by rw [hup _ (by omega)]; exact q3, q4⟩
  · have hne : j ≠ c := by omega
    unfold upd19
    rw [if_neg hne, if_neg hne]
    exact h.rest j hj
  · exact ((h.below.alloc h.below.size o).grown hg (by rw [hsz]; have := h.below.size; omega) fun q hq => by have := hrow q hq; omega).setCell (p := ⟨w.heap.size + 1, c, none⟩) (by show w.heap.size ≤ w.heap.size + 1; omega) _
theorem byc19_start (w : World) (l : List Row18) : Byc19 w ((w.alloc (.cells #[.slice none 0 0, .slice none 0 0, .slice none 0 0, .slice none 0 0, .slice none 0 0, .slice none 0 0, .slice none 0 0, .slice none 0 0] 61)).alloc (.cells #[.slice none 0 0, .slice none 0 0, .slice none 0 0, .slice none 0 0, .slice none 0 0, .slice none 0 0, .slice none 0 0, .slice none 0 0] 61)) (w.heap.size + 2) (fun _ => none) (fun _ => 0) l 0 0 where
  now := by rw [rowsat_start]; exact (two_new19 w _ _).2
  out := (two_new19 w _ _).1
  base := ⟨Nat.le_refl _, by simp⟩
  done := fun j hj => absurd hj (by omega)
  cur := World.ownsRow_nil _ _ _ _
  rest := fun _ _ => ⟨rfl, rfl⟩
  below := ((Below.refl _ w).alloc (Nat.le_refl _) _).alloc ((Below.refl _ w).alloc (Nat.le_refl _) _).size _
set_option linter.unusedSimpArgs false in
set_option maxRecDepth 100000 in
set_option maxHeartbeats 8000000 in
theorem pbycell19_any (a : Option Addr) (cap : Nat) (l : List Row18) (w : World) (hx : RowsIn w.heap.size w a l) (hn : l.length ≤ 900000) :
    Calls Try.prog 28 #[.slice a l.length cap] w fun e w' => ∃ ad cs, e = .returned (.agg (sl8 ad cs fun c => rowsTo l c l.length)) ∧ (∀ c, c < 8 → Els rowElt 0 w'.heap.size w' (ad c) (rowsTo l c l.length) ∧ (rowsTo l c l.length).length ≤ cs c) ∧ Below w.heap.size w w' := by
  have HX := Lib.hid hx
  have H0 := Lib.hid (byc19_start w l)
  clear hx
  go_enter Try.func28, Try.ntmps28
  go_wp2
  go_loopw [7] (fun s7 wr => ∃ (c : Nat) (ad : Nat → Option Addr) (cs : Nat → Nat) (B : Nat), s7 = .int .i64 c ∧ c ≤ 8 ∧ Hid (Byc19 w wr B ad cs l c 0)) (fun s7 _ => 8 - (intOf s7).toNat)
  case atStart => exact ⟨0, _, _, _, rfl, Nat.zero_le _, H0⟩
  case round =>
    clear H0
    obtain ⟨c, ad, cs, B, rfl, hc, HN⟩ := hrel
    by_cases hcl : c < 8
    · have j1 : decide ((c : Int) < 8) = true := decide_eq_true (by omega)
      have hc1 : c + 1 ≤ 8 := hcl
      have g1 : (c : Int) < 8 := by omega
      have g0 : (0 : Int) ≤ (c : Int) := by omega
      go_wp2
      go_loopw [12] (fun s12 wr => ∃ (k : Nat) (ad : Nat → Option Addr) (cs : Nat → Nat), s12 = .int .i64 k ∧ k ≤ l.length ∧ Hid (Byc19 w wr B ad cs l c k)) (fun s12 _ => l.length - (intOf s12).toNat)
      case atStart => exact ⟨0, _, _, rfl, Nat.zero_le _, HN⟩
      case round =>
        clear HN
        obtain ⟨k, ad, cs, rfl, hk, HN⟩ := hrel
        by_cases hlt : k < l.length
        · have i1 : decide ((k : Int) < (l.length : Int)) = true := decide_eq_true (by omega)
          have i1' : decide (k < l.length) = true := decide_eq_true hlt
          have i2 : (k : Int) < (l.length : Int) := by omega
          have i3 : (0 : Int) ≤ (k : Int) := by omega
          have hk1 : k + 1 ≤ l.length := hlt
          obtain ⟨b, off, rfl, hbb, c0, c1, c2, c3, c4⟩ := rows_at18 (rowsIn_step HX.out HN.out.below) hlt
          have HI : Hid (∀ W, Calls Try.prog 47 #[rowVal (rowAt18 l k), .int .i64 (c : Int)] W fun e w' => e = .returned (.bool (inC19 (rowAt18 l k) c)) ∧ Below W.heap.size W w') := Lib.hid fun W => pisin19_any _ c hcl W
          have HSKIP : Hid (∀ W, Byc19 w W B ad cs l c k → inC19 (rowAt18 l k) c = false → Byc19 w W B ad cs l c (k + 1)) := Lib.hid fun W h h2 => h.skip h2
          have HMORE : Hid (∀ V V7 o a7 c7 m, Byc19 w V B ad cs l c k → inC19 (rowAt18 l k) c = true → m = rowsTo l c k ++ [rowAt18 l k] → V7.ownsRow B 52 5 (.slice a7 m.length c7) m.length (rowElt.cells m) → (V.alloc o).grownBy V7 (Value.slice (ad c) (rowsTo l c k).length (cs c)).ownBlock → V7.heap[w.heap.size + 1]? = some (.cells (sl8 ad cs (rowsAt19 l c k)) 61 (0, 0)) ∧ Byc19 w (V7.setCell ⟨w.heap.size + 1, c, none⟩ (.slice a7 m.length c7)) B (upd19 ad c a7) (upd19 cs c c7) l c (k + 1)) := Lib.hid fun V V7 o a7 c7 m h h2 h3 h4 h5 => h.more hcl h2 h3 h4 h5
          have HAT : Hid ((sl8 ad cs (rowsAt19 l c k))[c]? = some (.slice (ad c) (rowsTo l c k).length (cs c))) := Lib.hid (by
            rw [sl8_at _ _ _ hcl]
            have : rowsAt19 l c k c = rowsTo l c k := by unfold rowsAt19; rw [if_neg (by omega), if_pos rfl]
            rw [this])
          have HLEN : Hid ((rowsTo l c k).length ≤ 900000) := Lib.hid (by rw [rows_len]; have := cell_le l c k; omega)
          have HSZ : Hid (w.heap.size + 2 ≤ wr.heap.size) := Lib.hid (Nat.le_trans HN.out.base.1 HN.out.base.2)
          have HOWN : Hid (∀ q, (Value.slice (ad c) (rowsTo l c k).length (cs c)).ownBlock = some q → q < wr.heap.size) := Lib.hid fun q hq => (HN.out.cur.lt q hq).2
          clear hlt
          generalize inC19 (rowAt18 l k) c = x at *
          generalize rowAt18 l k = r at *
          have hq := box_row18 wr r 52
          have HNB := Lib.hid (HN.out.step (lit16 wr (.cells #[.int .i64 r.g, .int .i64 r.v, .int .i64 r.lo, .int .i64 r.hi, .int .i64 r.way] 52)))
          have HBX := heap_alloc_new wr (.cells #[.int .i64 r.g, .int .i64 r.v, .int .i64 r.lo, .int .i64 r.hi, .int .i64 r.way] 52)
          obtain ⟨rg, rv, rl, rh, rw⟩ := r
          dsimp only at *
          go_upto_region 8 with fail
          obtain ⟨wa, hwa⟩ : ∃ V, V = wr.alloc (.cells #[.int .i64 rg, .int .i64 rv, .int .i64 rl, .int .i64 rh, .int .i64 rw] 52) := ⟨_, rfl⟩
          rw [← hwa] at hq HNB HBX ⊢
          obtain ⟨q0, q1, q2, q3, q4⟩ := hq
          have HBOX := Lib.hid HBX
          clear hwa HN c0 c1 c2 c3 c4 HBX
          cases x with
          | false =>
            go_upto_region 10 with (go_at_call 47; refine (HI.out _).mono ?_; rintro e w5 ⟨rfl, hb⟩; have HN5 := Lib.hid (HSKIP.out _ (HNB.out.step hb) rfl); clear hb q0 q1 q2 q3 q4)
            go_wp2
            go_roundw
            case rel => exact ⟨k + 1, _, _, by first | rfl | go_num, hk1, HN5⟩
            case measure => first | (simp [intOf]; omega) | simp [intOf]
          | true =>
            go_upto_region 9 with (go_at_call 47; refine (HI.out _).mono ?_; rintro e w5 ⟨rfl, hb⟩; have HN5 := Lib.hid (HNB.out.step hb); have HB5 := Lib.hid (old_obj hb HBOX.out); clear hb q0 q1 q2 q3 q4)
            have HN6 := Lib.hid (HN5.out.step (Below.refl _ w5).drew)
            have d0 := cell_of HN6.out.now HAT.out
            have d1 := cell_of ((heap_alloc_old19 w5 (.cells #[.int .i64 rg, .int .i64 rv, .int .i64 rl, .int .i64 rh, .int .i64 rw] 52) (obj_lt HN5.out.now)).trans HN5.out.now) HAT.out
            have HM5 : Hid (∀ a7 c7 V7 m, m = rowsTo l c k ++ [⟨rg, rv, rl, rh, rw⟩] → V7.ownsRow B 52 5 (.slice a7 m.length c7) m.length (rowElt.cells m) → (w5.drew.alloc (.cells #[.int .i64 rg, .int .i64 rv, .int .i64 rl, .int .i64 rh, .int .i64 rw] 52)).grownBy V7 (Value.slice (ad c) (rowsTo l c k).length (cs c)).ownBlock →
                V7.frozen? ⟨w.heap.size + 1, c, none⟩ = false ∧ V7.cell? ⟨w.heap.size + 1, c, none⟩ = some (.slice (ad c) (rowsTo l c k).length (cs c)) ∧ Byc19 w (V7.setCell ⟨w.heap.size + 1, c, none⟩ (.slice a7 m.length c7)) B (upd19 ad c a7) (upd19 cs c c7) l c (k + 1) ∧ V7.heap[wr.heap.size]? = some (.cells #[.int .i64 rg, .int .i64 rv, .int .i64 rl, .int .i64 rh, .int .i64 rw] 52 (0, 0)) ∧ (V7.setCell ⟨w.heap.size + 1, c, none⟩ (.slice a7 m.length c7)).heap[wr.heap.size]? = some (.cells #[.int .i64 rg, .int .i64 rv, .int .i64 rl, .int .i64 rh, .int .i64 rw] 52 (0, 0))) := Lib.hid fun a7 c7 V7 m h1 h2 h3 => by
              have h4 := HMORE.out _ _ _ a7 c7 m HN6.out trivial h1 h2 h3
              have hlt5 := obj_lt HB5.out
              have hq7 : V7.heap[wr.heap.size]? = some (.cells #[.int .i64 rg, .int .i64 rv, .int .i64 rl, .int .i64 rh, .int .i64 rw] 52 (0, 0)) := by
                rw [h3.block _ (by simp; omega) fun q => by have := HOWN.out _ q.symm; omega]
                exact (heap_alloc_old19 w5.drew _ hlt5).trans HB5.out
              refine ⟨frozen_of_row _ _ c _ _ h4.1, cell_of h4.1 HAT.out, h4.2, hq7, ?_⟩
              rw [Below.heap_setCell _ _ _ _ (show wr.heap.size ≠ w.heap.size + 1 by have := HSZ.out; omega)]
              exact hq7
            have HCU := Lib.hid HN6.out.cur
            have hbase := HN6.out.base.2
            have hlen := HLEN.out
            have HS5 : Hid (∀ V : World, V.heap[wr.heap.size]? = some (.cells #[.int .i64 rg, .int .i64 rv, .int .i64 rl, .int .i64 rh, .int .i64 rw] 52 (0, 0)) → V.cell? ⟨wr.heap.size, 0, none⟩ = some (.int .i64 rg) ∧ V.cell? ⟨wr.heap.size, 1, none⟩ = some (.int .i64 rv) ∧ V.cell? ⟨wr.heap.size, 2, none⟩ = some (.int .i64 rl) ∧ V.cell? ⟨wr.heap.size, 3, none⟩ = some (.int .i64 rh) ∧ V.cell? ⟨wr.heap.size, 4, none⟩ = some (.int .i64 rw)) := Lib.hid fun V h =>
              ⟨cell_of (j := 0) h rfl, cell_of (j := 1) h rfl, cell_of (j := 2) h rfl, cell_of (j := 3) h rfl, cell_of (j := 4) h rfl⟩
            have HSA := Lib.hid (HS5.out _ ((heap_alloc_old19 w5.drew (.cells #[.int .i64 rg, .int .i64 rv, .int .i64 rl, .int .i64 rh, .int .i64 rw] 52) (obj_lt HB5.out)).trans HB5.out))
            have SS := HS5.out w5.drew HB5.out
            clear HMORE HSKIP HOWN HLEN HNB HI
            generalize rowsTo l c k = L9 at *
            generalize ad c = A9 at *
            generalize cs c = C9 at *
            -- BEGIN drawn
            refine wp_region_held_drew (S := (fun v => v.cell? ⟨wr.heap.size, 0, none⟩ = some (.int .i64 rg) ∧ v.cell? ⟨wr.heap.size, 1, none⟩ = some (.int .i64 rv) ∧ v.cell? ⟨wr.heap.size, 2, none⟩ = some (.int .i64 rl) ∧ v.cell? ⟨wr.heap.size, 3, none⟩ = some (.int .i64 rh) ∧ v.cell? ⟨wr.heap.size, 4, none⟩ = some (.int .i64 rw))) (by kernel_rfl) SS (fun hHeld => ?_)
            refine wpAnyH_take (i := 0) (v := ?v0) rfl (by kernel_rfl) (by kernel_rfl) (by kernel_rfl) (fun _ _ _ h => h) (Or.inl ⟨by rfl, ?y0⟩) (by assumption) ?r0
            case y0 => (intro v hSv; (try dsimp only at hSv); go_simp; all_goals with_reducible rfl)
            try simp only [Act.put, List.setIfInBounds_toArray, List.set_cons_zero, List.set_cons_succ]
            refine wpAnyH_take (i := 1) (v := ?v1) rfl (by kernel_rfl) (by kernel_rfl) (by kernel_rfl) (fun _ _ _ h => h) (Or.inl ⟨by rfl, ?y1⟩) (by assumption) ?r1
            case y1 => (intro v hSv; (try dsimp only at hSv); go_simp; all_goals with_reducible rfl)
            try simp only [Act.put, List.setIfInBounds_toArray, List.set_cons_zero, List.set_cons_succ]
            refine wpAnyH_take (i := 2) (v := ?v2) rfl (by kernel_rfl) (by kernel_rfl) (by kernel_rfl) (fun _ _ _ h => h) (Or.inl ⟨by rfl, ?y2⟩) (by assumption) ?r2
            case y2 => (intro v hSv; (try dsimp only at hSv); go_simp; all_goals with_reducible rfl)
            try simp only [Act.put, List.setIfInBounds_toArray, List.set_cons_zero, List.set_cons_succ]
            refine wpAnyH_take (i := 4) (v := ?v4) rfl (by kernel_rfl) (by kernel_rfl) (by kernel_rfl) (fun _ _ _ h => h) (Or.inl ⟨by rfl, ?y4⟩) (by assumption) ?r4
            case y4 => (intro v hSv; (try dsimp only at hSv); go_simp; all_goals with_reducible rfl)
            try simp only [Act.put, List.setIfInBounds_toArray, List.set_cons_zero, List.set_cons_succ]
            refine wpAnyH_ready (rs := [3, 5]) (by kernel_rfl) (by simp) ?_
            refine AllReadyH.cons rfl (fun K hK => ?_) (AllReadyH.cons rfl (fun K hK => ?_) AllReadyH.nil)
            · go_simp
              refine hK.out _ _ (by first | exact SS | exact hHeld | fail) (fun hHeld => ?_)
              clear hK K
              try simp only [Act.put, List.setIfInBounds_toArray, List.set_cons_zero, List.set_cons_succ]
              refine wpAnyH_ready (rs := [5]) (by kernel_rfl) (by simp) ?_
              refine AllReadyH.cons rfl (fun K hK => ?_) AllReadyH.nil
              go_simp
              refine hK.out _ _ (by first | exact SS | exact hHeld | exact HSA.out) (fun hHeld => ?_)
              clear hK K
              try simp only [Act.put, List.setIfInBounds_toArray, List.set_cons_zero, List.set_cons_succ]
              refine wpAnyH_ready (rs := [6]) (by kernel_rfl) (by simp) ?_
              refine AllReadyH.cons rfl (fun K hK => ?_) AllReadyH.nil
              refine step_append_e19 (V := World.drew _) rowElt Try.underlying23 infoRowp19 rfl (by decide) rfl _ _ rfl B A9 C9 L9 rfl HCU.out hbase ⟨rg, rv, rl, rh, rw⟩ rfl _ rfl rfl hlen ?_
              intro a7 c7 V7 ts hts' ho7 hg7
              obtain ⟨y3, y4, hN7, hB7, hB8⟩ := HM5.out a7 c7 V7 ts hts'.out ho7 hg7
              have hS7 := HS5.out _ hB7
              have hS8 := HS5.out _ hB8
              have HN7 := Lib.hid hN7
              clear hN7 hB7 hB8 ho7 hg7
              refine hK.out _ _ (by first | exact SS | exact hHeld | exact hS7) (fun hHeld => ?_)
              clear hK K
              try simp only [Act.put, List.setIfInBounds_toArray, List.set_cons_zero, List.set_cons_succ]
              refine wpAnyH_take (i := 7) (v := ?v7a) rfl (by kernel_rfl) (by kernel_rfl) (by kernel_rfl) (fun _ _ _ h => h) (Or.inl ⟨by rfl, ?y7a⟩) (by assumption) ?r7a
              case y7a => (intro v hSv; (try dsimp only at hSv); go_simp; all_goals with_reducible rfl)
              try simp only [Act.put, List.setIfInBounds_toArray, List.set_cons_zero, List.set_cons_succ]
              refine wpAnyH_ready (rs := [8]) (by kernel_rfl) (by simp) ?_
              refine AllReadyH.cons rfl (fun K hK => ?_) AllReadyH.nil
              go_simp
              refine hK.out _ _ (by first | exact SS | exact hHeld | exact hS8) (fun hHeld => ?_)
              clear hK K
              try simp only [Act.put, List.setIfInBounds_toArray, List.set_cons_zero, List.set_cons_succ]
              refine wpAnyH_done (by kernel_rfl) ?_ _
              clear hts' SS hS7 hS8 y3 y4 d0 d1 hHeld
              go_wp2
              go_roundw
              case rel => exact ⟨k + 1, _, _, by first | rfl | go_num, hk1, HN7⟩
              case measure => first | (simp [intOf]; omega) | simp [intOf]
            · go_simp
              refine hK.out _ _ (by first | exact SS | exact hHeld | exact HSA.out) (fun hHeld => ?_)
              clear hK K
              try simp only [Act.put, List.setIfInBounds_toArray, List.set_cons_zero, List.set_cons_succ]
              refine wpAnyH_ready (rs := [3]) (by kernel_rfl) (by simp) ?_
              refine AllReadyH.cons rfl (fun K hK => ?_) AllReadyH.nil
              go_simp
              refine hK.out _ _ (by first | exact SS | exact hHeld | exact HSA.out) (fun hHeld => ?_)
              clear hK K
              try simp only [Act.put, List.setIfInBounds_toArray, List.set_cons_zero, List.set_cons_succ]
              refine wpAnyH_ready (rs := [6]) (by kernel_rfl) (by simp) ?_
              refine AllReadyH.cons rfl (fun K hK => ?_) AllReadyH.nil
              refine step_append_e19 (V := World.drew _) rowElt Try.underlying23 infoRowp19 rfl (by decide) rfl _ _ rfl B A9 C9 L9 rfl HCU.out hbase ⟨rg, rv, rl, rh, rw⟩ rfl _ rfl rfl hlen ?_
              intro a7 c7 V7 ts hts' ho7 hg7
              obtain ⟨y3, y4, hN7, hB7, hB8⟩ := HM5.out a7 c7 V7 ts hts'.out ho7 hg7
              have hS7 := HS5.out _ hB7
              have hS8 := HS5.out _ hB8
              have HN7 := Lib.hid hN7
              clear hN7 hB7 hB8 ho7 hg7
              refine hK.out _ _ (by first | exact SS | exact hHeld | exact hS7) (fun hHeld => ?_)
              clear hK K
              try simp only [Act.put, List.setIfInBounds_toArray, List.set_cons_zero, List.set_cons_succ]
              refine wpAnyH_take (i := 7) (v := ?v7b) rfl (by kernel_rfl) (by kernel_rfl) (by kernel_rfl) (fun _ _ _ h => h) (Or.inl ⟨by rfl, ?y7b⟩) (by assumption) ?r7b
              case y7b => (intro v hSv; (try dsimp only at hSv); go_simp; all_goals with_reducible rfl)
              try simp only [Act.put, List.setIfInBounds_toArray, List.set_cons_zero, List.set_cons_succ]
              refine wpAnyH_ready (rs := [8]) (by kernel_rfl) (by simp) ?_
              refine AllReadyH.cons rfl (fun K hK => ?_) AllReadyH.nil
              go_simp
              refine hK.out _ _ (by first | exact SS | exact hHeld | exact hS8) (fun hHeld => ?_)
              clear hK K
              try simp only [Act.put, List.setIfInBounds_toArray, List.set_cons_zero, List.set_cons_succ]
              refine wpAnyH_done (by kernel_rfl) ?_ _
              clear hts' SS hS7 hS8 y3 y4 d0 d1 hHeld
              go_wp2
              go_roundw
              case rel => exact ⟨k + 1, _, _, by first | rfl | go_num, hk1, HN7⟩
              case measure => first | (simp [intOf]; omega) | simp [intOf]
            -- END drawn
        · obtain rfl : k = l.length := by omega
          have i1 : decide ((l.length : Int) < (l.length : Int)) = false := decide_eq_false (by omega)
          have HN2 := Lib.hid HN.out.next
          go_wp2
          go_roundw
          case rel => exact ⟨c + 1, _, _, _, by first | rfl | go_num, hc1, HN2⟩
          case measure => first | (simp [intOf]; omega) | simp [intOf]
    · obtain rfl : c = 8 := by omega
      have j1 : decide (((8 : Nat) : Int) < 8) = false := rfl
      have HE : Hid (sl8 ad cs (rowsAt19 l 8 0) = sl8 ad cs fun c => rowsTo l c l.length) := Lib.hid (rowsat_all l ad cs)
      have HD : Hid (∀ V : World, (∀ b, w.heap.size + 2 ≤ b → V.heap[b]? = wr.heap[b]?) → V.heap.size = wr.heap.size → ∀ c, c < 8 → Els rowElt 0 V.heap.size V (ad c) (rowsTo l c l.length) ∧ (rowsTo l c l.length).length ≤ cs c) := Lib.hid fun V hV hs c hc8 =>
        have h := HN.out.done c hc8
        ⟨(els_keep19 h.1 fun b q1 _ => hV b q1).wide (Nat.zero_le _) (by rw [hs]; exact HN.out.base.2), h.2⟩
      have h1 := HN.out.now
      have h2 := HN.out.out
      have HB := Lib.hid HN.out.below
      rw [HE.out] at h1
      clear HN
      obtain ⟨a0, a1, a2, a3, a4, a5, a6, a7, n0, n1, n2, n3, n4, n5, n6, n7, k0, k1, k2, k3, k4, k5, k6, k7, hxs⟩ : ∃ (a0 a1 a2 a3 a4 a5 a6 a7 : Option Addr) (n0 n1 n2 n3 n4 n5 n6 n7 : Nat) (k0 k1 k2 k3 k4 k5 k6 k7 : Nat), (sl8 ad cs fun c => rowsTo l c l.length) = #[.slice a0 n0 k0, .slice a1 n1 k1, .slice a2 n2 k2, .slice a3 n3 k3, .slice a4 n4 k4, .slice a5 n5 k5, .slice a6 n6 k6, .slice a7 n7 k7] := ⟨_, _, _, _, _, _, _, _, _, _, _, _, _, _, _, _, _, _, _, _, _, _, _, _, rfl⟩
      have HXS := Lib.hid hxs
      rw [hxs] at h1
      clear hxs
      obtain ⟨c0, c1, c2, c3, c4, c5, c6, c7⟩ := eight_any19 h1
      have hz := fun j => frozen_of_row wr w.heap.size j _ _ h2
      obtain ⟨d0, d1, d2, d3, d4, d5, d6, d7⟩ := eight_any19 h2
      have f0 := hz 0
      have f1 := hz 1
      have f2 := hz 2
      have f3 := hz 3
      have f4 := hz 4
      have f5 := hz 5
      have f6 := hz 6
      have f7 := hz 7
      have H2 := Lib.hid h2
      clear h1 h2 hz
      go_wp2
      refine bodyPost_ret (results_one18 rfl _ _ w.heap.size _ rfl (run_loadVar_row (P := Try.prog) _ w.heap.size _ 61 _ _ _ (stored19 H2.out) Try.underlying61 rfl (by kernel_rfl))) rfl ?_
      refine ⟨ad, cs, by rw [HXS.out], ?_, below19 HB.out (Nat.le_refl _) _ _ _ _ _ _ _ _⟩
      exact HD.out _ (fun b hb => heap_eight19 wr (show b ≠ w.heap.size by omega) _ _ _ _ _ _ _ _) (by simp [World.setCell])
end Go.Proofs.Ytifihejogbcbgaa
