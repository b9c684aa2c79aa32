/- The document's own add of a pair in its order, for every list of pairs and in every world. (Written by gen_refc14.py.) -/
import Derived.Test.YtnbmccfaomhppaaMRefA14
import Derived.Deep.RegionHeld3
namespace Go.Proofs.Ytnbmccfaomhppaa
open Go.RowKit

abbrev PrT : TypeId := 53
/-- A world in which the boxed pair lies, and all that was there before. -/
abbrev St14 (w v : World) (p : Pr) : Prop := Below w.heap.size w v ∧ v.cell? ⟨w.heap.size, 0, none⟩ = some (.string (tx p.1)) ∧ v.cell? ⟨w.heap.size, 1, none⟩ = some (.int .i64 p.2)
theorem St14.size {w v : World} {p : Pr} (h : St14 w v p) : w.heap.size < v.heap.size := World.block_lt_of_cell? v _ h.2.1
theorem St14.alloc {w v : World} {p : Pr} (h : St14 w v p) (o : Obj) : St14 w (v.alloc o) p :=
  ⟨h.1.alloc h.1.size o, (World.grownBy_alloc v o none).cell h.2.1 (by simp), (World.grownBy_alloc v o none).cell h.2.2 (by simp)⟩
theorem St14.drewer {w v : World} {p : Pr} (h : St14 w v p) : St14 w v.drew p := ⟨h.1.drew, h.2.1, h.2.2⟩
theorem St14.grown {w v v' : World} {p : Pr} {row : Option Nat} (h : St14 w v p) (hg : v.grownBy v' row) (hr : ∀ r, row = some r → w.heap.size + 1 ≤ r) : St14 w v' p :=
  ⟨h.1.grown hg h.1.size fun r e => by have := hr r e; omega, hg.cell h.2.1 (fun e => by have := hr _ e.symm; simp at this; omega), hg.cell h.2.2 (fun e => by have := hr _ e.symm; simp at this; omega)⟩
theorem lit_pr (V : World) (p : Pr) (g : Nat) (hg : g = V.heap.size) : Rw 0 (g + 1) (V.alloc (.cells #[.string (tx p.1), .int .i64 p.2] PrT)) (some ⟨g, 0, none⟩) (prCells [p]) := by
  subst hg
  refine Or.inr ⟨V.heap.size, 0, rfl, Nat.zero_le _, by omega, fun j u hj => lit_cell V _ _ j u ?_⟩
  rw [← hj, List.getElem?_toArray]
  rfl
theorem rw_other {A B : Nat} {w w' : World} {b : Nat} {cs : List Value} {row : Option Nat} (hg : w.grownBy w' row) (h : Rw A B w (some ⟨b, 0, none⟩) cs) (hne : some b ≠ row) : Rw A B w' (some ⟨b, 0, none⟩) cs := by
  rcases h with h | ⟨b', off, ha, h1, h2, hc⟩
  · exact Or.inl h
  · injection ha with e
    injection e with e1 e2 _
    subst e1 e2
    exact Or.inr ⟨b, 0, rfl, h1, h2, fun j u hj => hg.cell (hc j u hj) hne⟩
theorem rw_alloc {A B : Nat} {w : World} {a : Option Addr} {cs : List Value} (h : Rw A B w a cs) (hB : B ≤ w.heap.size) (o : Obj) : Rw A B (w.alloc o) a cs := h.below ((Below.refl B w).alloc hB o)
theorem step_pr {ops : Array Oper} {o : Oper} {a : Act} {K : Act → World → Prop} {Q : Exit → Act → World → Prop} {w V : World} {E : Prop} {p : Pr} (hgd : o.guard = none) (s x : Operand)
    (ho : o.op = .call { callee := .builtin .append, args := #[s, x], argTypes := #[28, 28] })
    (n : Nat) (v : Value) (l m : List Pr) (hs : a.eval s = v) (hown : V.ownsRow (w.heap.size + 1) PrT 2 v n (prCells l)) (ao : Option Addr) (k c A' B' : Nat) (hx : a.eval x = .slice ao k c) (hm : m.length = k) (hd : Rw A' B' V ao (prCells m))
    (hn : n + k ≤ 1000000) (hst : St14 w V p)
    (h : ∀ v' w', w'.ownsRow (w.heap.size + 1) PrT 2 v' (n + k) (prCells (l ++ m)) → St14 w w' p → V.grownBy w' v.ownBlock → K (a.put o.dst v') w') :
    if Region.wanted o (yielded ops a.tmps) = true then Oper.wp Try.prog o a V K Q else E := by
  refine step_append_rk hgd s x (by decide : 0 < 2) Try.underlying28 infoPr rfl ho (w.heap.size + 1) n v (prCells l) (prCells m) hs hown ao k c A' B' hx (by rw [prCells_len, hm]) hd (prCells_one m) hn (by decide) hst.size ?_
  intro v' w' h1 h2
  rw [← prCells_append] at h1
  exact h v' w' h1 (hst.grown h2 fun r hr => (hown.lt r hr).1) h2
theorem made14 (w U : World) (p : Pr) (g : Nat) (hg : g = U.heap.size) (h : St14 w U p) : (U.alloc (.cells #[] PrT)).ownsRow (w.heap.size + 1) PrT 2 (.slice (some ⟨g, 0, none⟩) 0 0) 0 (prCells []) := by
  subst hg
  exact World.ownsRow_made U #[] 0 h.size (by unfold maxLen; omega) rfl
theorem ins_cut {l : List Pr} {p : Pr} {k : Nat} (hk : k ≤ l.length) (h1 : ∀ j, j < k → prLt (prAt l j) p = true) (h2 : k < l.length → ¬ prLt (prAt l k) p = true) : l.take k ++ [p] ++ l.drop k = insP l p := by
  rw [insP_cut l p k hk (fun j hj hjk => ?_) (fun hlt => ?_), List.append_assoc]
  · rfl
  · have := prAt_get l j hj
    rw [List.getElem?_eq_getElem hj] at this
    rw [Option.some.inj this]
    exact h1 j hjk
  · have := prAt_get l k hlt
    rw [List.getElem?_eq_getElem hlt] at this
    rw [Option.some.inj this]
    exact h2 hlt
theorem prLt_none {p q : Pr} (h : prLt p q = false) : Op.bytesLess p.1 q.1 = false ∧ ((p.1 == q.1) = false ∨ ((p.1 == q.1) = true ∧ decide (p.2 < q.2) = false)) := by
  unfold prLt at h
  rw [Bool.or_eq_false_iff, Bool.and_eq_false_iff] at h
  refine ⟨h.1, ?_⟩
  cases hq : (p.1 == q.1) with
  | false => exact Or.inl rfl
  | true =>
    rcases h.2 with h | h
    · rw [hq] at h; cases h
    · exact Or.inr ⟨rfl, h⟩
theorem prLt_some {p q : Pr} (h : prLt p q = true) : Op.bytesLess p.1 q.1 = true ∨ (Op.bytesLess p.1 q.1 = false ∧ (p.1 == q.1) = true ∧ decide (p.2 < q.2) = true) := by
  unfold prLt at h
  rw [Bool.or_eq_true, Bool.and_eq_true] at h
  cases hq : Op.bytesLess p.1 q.1 with
  | true => exact Or.inl rfl
  | false =>
    rcases h with h | h
    · rw [hq] at h; cases h
    · exact Or.inr ⟨rfl, h.1, h.2⟩
theorem tx_less (a b : List UInt8) : Op.bytesLess (tx a).toList (tx b).toList = Op.bytesLess a b := by rw [ByteArray.toList_eq, ByteArray.toList_eq, tx_list, tx_list]
set_option maxRecDepth 100000 in
set_option maxHeartbeats 8000000 in
theorem radd14_any (a : Option Addr) (cap : Nat) (l : List Pr) (p : Pr) (A : Nat) (w : World) (hcap : l.length ≤ cap) (hx : Prs A w.heap.size w a l) (hn : l.length ≤ 900000) :
    Calls Try.prog 35 #[.slice a l.length cap, .agg #[.string (tx p.1), .int .i64 p.2]] w fun e w' => ∃ a' c', e = .returned (.slice a' (insP l p).length c') ∧ (insP l p).length ≤ c' ∧ Prs 0 w'.heap.size w' a' (insP l p) ∧ Below w.heap.size w w' := by
  have HX := Lib.hid hx
  have HC := Lib.hid hcap
  clear hx hcap
  go_enter Try.func35, Try.ntmps35
  go_wp2
  go_loopw [5] (fun s5 wr => ∃ (k : Nat), s5 = .int .i64 k ∧ k ≤ l.length ∧ Hid (St14 w wr p) ∧ Hid (∀ j, j < k → prLt (prAt l j) p = true)) (fun i _ => l.length + 1 - (intOf i).toNat)
  case atStart => exact ⟨0, rfl, by omega, Lib.hid (box_start w p), Lib.hid fun j hj => absurd hj (by omega)⟩
  case round =>
    obtain ⟨k, rfl, hk, ST0, HJ⟩ := hrel
    by_cases hlt : k < l.length
    · have i1 : (k : Int) < (l.length : Int) := by omega
      have i1' : decide ((k : Int) < (l.length : Int)) = true := decide_eq_true i1
      have i3 : (0 : Int) ≤ (k : Int) := by omega
      obtain ⟨b, off, ea, hb, c0, c1⟩ := Prs.at (HX.out.below ST0.out.1) hlt
      obtain ⟨_, q0, q1⟩ := ST0.out
      have hql := tx_less (prAt l k).1 p.1
      have hqe := tx_beq (prAt l k).1 p.1
      cases hp : prLt (prAt l k) p with
      | true =>
        have HJ2 : Hid (∀ j, j < k + 1 → prLt (prAt l j) p = true) := Lib.hid fun j hj => by
          rcases (by omega : j < k ∨ j = k) with h | h
          · exact HJ.out j h
          · rw [h]; exact hp
        subst ea
        rcases prLt_some hp with h1 | ⟨h1, h2, h3⟩
        · rw [h1] at hql
          clear hp hqe h1
          go_upto_region 2 with fail
          go_quiet (fail)
          go_wp2
          go_roundw
          case rel => exact ⟨k + 1, by first | rfl | go_num, by omega, Lib.hid (⟨drawn_below ST0.out.1 _, ST0.out.2.1, ST0.out.2.2⟩ : St14 w (World.drewN _ _) p), HJ2⟩
          case measure => first | (simp [intOf]; omega) | simp [intOf]
        · rw [h1] at hql
          rw [h2] at hqe
          clear hp h1 h2
          go_upto_region 2 with fail
          go_quiet (fail)
          go_wp2
          go_roundw
          case rel => exact ⟨k + 1, by first | rfl | go_num, by omega, Lib.hid (⟨drawn_below ST0.out.1 _, ST0.out.2.1, ST0.out.2.2⟩ : St14 w (World.drewN _ _) p), HJ2⟩
          case measure => first | (simp [intOf]; omega) | simp [intOf]
      | false =>
        have HI := Lib.hid (ins_cut hk HJ.out fun _ => by rw [hp]; simp)
        obtain ⟨h1, h2 | ⟨h2, h3⟩⟩ := prLt_none hp
        · rw [h1] at hql
          rw [h2] at hqe
          clear hp h1 h2
          go_upto_region 2 with fail
          cases ea
          go_quiet (fail)
          have ST := Lib.hid (⟨drawn_below ST0.out.1 nq, ST0.out.2.1, ST0.out.2.2⟩ : St14 w (wr.drewN nq) p)
          clear c0 c1 q0 q1 hql hqe
          generalize wr.drewN nq = V at *
          obtain ⟨a', hs2, hd2⟩ := rowk_from sl_pr sz_pr (some ⟨b, off, none⟩) l.length cap k hk HC.out
          have hs1 := fun W => rowk_to sl_pr sz_pr (some ⟨b, off, none⟩) l.length cap k hk HC.out W
          have XT : Hid (∀ v, St14 w v p → Rw A w.heap.size v (some ⟨b, off, none⟩) (prCells (l.take k))) := Lib.hid fun v hv => by rw [prCells_take]; exact (HX.out.below hv.1).take _
          have XD : Hid (∀ v, St14 w v p → Rw A w.heap.size v a' (prCells (l.drop k))) := Lib.hid fun v hv => by rw [prCells_drop]; exact hd2 _ _ _ _ (prCells_len l) (HX.out.below hv.1)
          have L1 : Hid ((l.take k).length = k) := Lib.hid (by rw [List.length_take]; omega)
          have L2 : Hid ((l.drop k).length = l.length - k) := Lib.hid (by rw [List.length_drop])
          have MD : Hid (∀ U g, g = U.heap.size → St14 w U p → (U.alloc (.cells #[] PrT)).ownsRow (w.heap.size + 1) PrT 2 (.slice (some ⟨g, 0, none⟩) 0 0) 0 (prCells [])) := Lib.hid fun U g hg hU => made14 w U p g hg hU
          clear hd2
          go_upto_region 4 with fail
          have S0 := Lib.hid (St14.drewer ST.out)
          obtain ⟨_, q0, q1⟩ := S0.out
          go_region_held3 (fun v => Below w.heap.size w v ∧ v.cell? ⟨w.heap.size, 0, none⟩ = some (.string (tx p.1)) ∧ v.cell? ⟨w.heap.size, 1, none⟩ = some (.int .i64 p.2)) (first | assumption | exact St14.alloc (by assumption) _ | exact S0.out | go_keep) (first
            | (refine step_pr (w := w) (p := p) rfl _ _ rfl 0 (.slice (some ⟨_, 0, none⟩) 0 0) [] (l.take k) rfl (by first | exact MD.out V _ rfl ST.out | exact World.ownsRow.alloc (MD.out V _ rfl ST.out) _ | exact MD.out (V.alloc (.cells #[.string (tx p.1), .int .i64 p.2] PrT)) _ (by simp) (St14.alloc ST.out _)) (some ⟨b, off, none⟩) k cap A w.heap.size rfl L1.out (XT.out _ (by assumption)) (by omega) (by assumption) ?_; intro v46 w46 ho46 st46 hg46)
            | (refine step_pr (w := w) (p := p) rfl _ _ rfl (0 + k) v46 ([] ++ l.take k) [p] rfl (by first | exact ho46 | exact World.ownsRow.alloc ho46 _) (some ⟨_, 0, none⟩) 1 1 0 _ rfl rfl (by first | exact lit_pr w46 p _ rfl | exact rw_other hg46 (lit_pr (V.alloc (.cells #[] PrT)) p _ (by simp)) (by simp [Value.ownBlock]) | exact rw_other hg46 (rw_alloc (lit_pr V p _ rfl) (by simp) _) (by simp [Value.ownBlock])) (by omega) (by first | assumption | exact st46 | exact St14.alloc st46 _) ?_; intro v49 w49 ho49 st49 hg49)
            | (refine step_pr (w := w) (p := p) rfl _ _ rfl (0 + k + 1) v49 ([] ++ l.take k ++ [p]) (l.drop k) rfl ho49 a' (l.length - k) (cap - k) A w.heap.size rfl L2.out (XD.out _ st49) (by omega) st49 ?_; intro v53 w53 ho53 st53 hg53))
          all_goals (
            rw [List.nil_append, HI.out, show 0 + k + 1 + (l.length - k) = (insP l p).length by rw [len_insP]; omega] at ho53
            obtain ⟨a9, c9, rfl, hc9, _, hr9⟩ := rk_own ho53
            have HR := Lib.hid hr9
            go_wp2
            go_ret
            exact ⟨a9, c9, rfl, hc9, HR.out.wide (Nat.zero_le _) (Nat.le_refl _), st53.1⟩)
        · rw [h1] at hql
          rw [h2] at hqe
          clear hp h1 h2
          go_upto_region 2 with fail
          cases ea
          go_quiet (fail)
          have ST := Lib.hid (⟨drawn_below ST0.out.1 nq, ST0.out.2.1, ST0.out.2.2⟩ : St14 w (wr.drewN nq) p)
          clear c0 c1 q0 q1 hql hqe h3
          generalize wr.drewN nq = V at *
          obtain ⟨a', hs2, hd2⟩ := rowk_from sl_pr sz_pr (some ⟨b, off, none⟩) l.length cap k hk HC.out
          have hs1 := fun W => rowk_to sl_pr sz_pr (some ⟨b, off, none⟩) l.length cap k hk HC.out W
          have XT : Hid (∀ v, St14 w v p → Rw A w.heap.size v (some ⟨b, off, none⟩) (prCells (l.take k))) := Lib.hid fun v hv => by rw [prCells_take]; exact (HX.out.below hv.1).take _
          have XD : Hid (∀ v, St14 w v p → Rw A w.heap.size v a' (prCells (l.drop k))) := Lib.hid fun v hv => by rw [prCells_drop]; exact hd2 _ _ _ _ (prCells_len l) (HX.out.below hv.1)
          have L1 : Hid ((l.take k).length = k) := Lib.hid (by rw [List.length_take]; omega)
          have L2 : Hid ((l.drop k).length = l.length - k) := Lib.hid (by rw [List.length_drop])
          have MD : Hid (∀ U g, g = U.heap.size → St14 w U p → (U.alloc (.cells #[] PrT)).ownsRow (w.heap.size + 1) PrT 2 (.slice (some ⟨g, 0, none⟩) 0 0) 0 (prCells [])) := Lib.hid fun U g hg hU => made14 w U p g hg hU
          clear hd2
          go_upto_region 4 with fail
          have S0 := Lib.hid (St14.drewer ST.out)
          obtain ⟨_, q0, q1⟩ := S0.out
          go_region_held3 (fun v => Below w.heap.size w v ∧ v.cell? ⟨w.heap.size, 0, none⟩ = some (.string (tx p.1)) ∧ v.cell? ⟨w.heap.size, 1, none⟩ = some (.int .i64 p.2)) (first | assumption | exact St14.alloc (by assumption) _ | exact S0.out | go_keep) (first
            | (refine step_pr (w := w) (p := p) rfl _ _ rfl 0 (.slice (some ⟨_, 0, none⟩) 0 0) [] (l.take k) rfl (by first | exact MD.out V _ rfl ST.out | exact World.ownsRow.alloc (MD.out V _ rfl ST.out) _ | exact MD.out (V.alloc (.cells #[.string (tx p.1), .int .i64 p.2] PrT)) _ (by simp) (St14.alloc ST.out _)) (some ⟨b, off, none⟩) k cap A w.heap.size rfl L1.out (XT.out _ (by assumption)) (by omega) (by assumption) ?_; intro v46 w46 ho46 st46 hg46)
            | (refine step_pr (w := w) (p := p) rfl _ _ rfl (0 + k) v46 ([] ++ l.take k) [p] rfl (by first | exact ho46 | exact World.ownsRow.alloc ho46 _) (some ⟨_, 0, none⟩) 1 1 0 _ rfl rfl (by first | exact lit_pr w46 p _ rfl | exact rw_other hg46 (lit_pr (V.alloc (.cells #[] PrT)) p _ (by simp)) (by simp [Value.ownBlock]) | exact rw_other hg46 (rw_alloc (lit_pr V p _ rfl) (by simp) _) (by simp [Value.ownBlock])) (by omega) (by first | assumption | exact st46 | exact St14.alloc st46 _) ?_; intro v49 w49 ho49 st49 hg49)
            | (refine step_pr (w := w) (p := p) rfl _ _ rfl (0 + k + 1) v49 ([] ++ l.take k ++ [p]) (l.drop k) rfl ho49 a' (l.length - k) (cap - k) A w.heap.size rfl L2.out (XD.out _ st49) (by omega) st49 ?_; intro v53 w53 ho53 st53 hg53))
          all_goals (
            rw [List.nil_append, HI.out, show 0 + k + 1 + (l.length - k) = (insP l p).length by rw [len_insP]; omega] at ho53
            obtain ⟨a9, c9, rfl, hc9, _, hr9⟩ := rk_own ho53
            have HR := Lib.hid hr9
            go_wp2
            go_ret
            exact ⟨a9, c9, rfl, hc9, HR.out.wide (Nat.zero_le _) (Nat.le_refl _), st53.1⟩)
    · have i1' : decide ((k : Int) < (l.length : Int)) = false := decide_eq_false (by omega)
      have i1'' : decide (k < l.length) = false := decide_eq_false hlt
      have HI := Lib.hid (ins_cut hk HJ.out fun h => absurd h hlt)
      clear hlt
      go_upto_region 2 with fail
      go_quiet (fail)
      have ST := Lib.hid (⟨drawn_below ST0.out.1 nq, ST0.out.2.1, ST0.out.2.2⟩ : St14 w (wr.drewN nq) p)
      generalize wr.drewN nq = V at *
      obtain ⟨a', hs2, hd2⟩ := rowk_from sl_pr sz_pr a l.length cap k hk HC.out
      have hs1 := fun W => rowk_to sl_pr sz_pr a l.length cap k hk HC.out W
      have XT : Hid (∀ v, St14 w v p → Rw A w.heap.size v a (prCells (l.take k))) := Lib.hid fun v hv => by rw [prCells_take]; exact (HX.out.below hv.1).take _
      have XD : Hid (∀ v, St14 w v p → Rw A w.heap.size v a' (prCells (l.drop k))) := Lib.hid fun v hv => by rw [prCells_drop]; exact hd2 _ _ _ _ (prCells_len l) (HX.out.below hv.1)
      have L1 : Hid ((l.take k).length = k) := Lib.hid (by rw [List.length_take]; omega)
      have L2 : Hid ((l.drop k).length = l.length - k) := Lib.hid (by rw [List.length_drop])
      have MD : Hid (∀ U g, g = U.heap.size → St14 w U p → (U.alloc (.cells #[] PrT)).ownsRow (w.heap.size + 1) PrT 2 (.slice (some ⟨g, 0, none⟩) 0 0) 0 (prCells [])) := Lib.hid fun U g hg hU => made14 w U p g hg hU
      clear hd2
      go_upto_region 4 with fail
      have S0 := Lib.hid (St14.drewer ST.out)
      obtain ⟨_, q0, q1⟩ := S0.out
      go_region_held3 (fun v => Below w.heap.size w v ∧ v.cell? ⟨w.heap.size, 0, none⟩ = some (.string (tx p.1)) ∧ v.cell? ⟨w.heap.size, 1, none⟩ = some (.int .i64 p.2)) (first | assumption | exact St14.alloc (by assumption) _ | exact S0.out | go_keep) (first
        | (refine step_pr (w := w) (p := p) rfl _ _ rfl 0 (.slice (some ⟨_, 0, none⟩) 0 0) [] (l.take k) rfl (by first | exact MD.out V _ rfl ST.out | exact World.ownsRow.alloc (MD.out V _ rfl ST.out) _ | exact MD.out (V.alloc (.cells #[.string (tx p.1), .int .i64 p.2] PrT)) _ (by simp) (St14.alloc ST.out _)) a k cap A w.heap.size rfl L1.out (XT.out _ (by assumption)) (by omega) (by assumption) ?_; intro v46 w46 ho46 st46 hg46)
        | (refine step_pr (w := w) (p := p) rfl _ _ rfl (0 + k) v46 ([] ++ l.take k) [p] rfl (by first | exact ho46 | exact World.ownsRow.alloc ho46 _) (some ⟨_, 0, none⟩) 1 1 0 _ rfl rfl (by first | exact lit_pr w46 p _ rfl | exact rw_other hg46 (lit_pr (V.alloc (.cells #[] PrT)) p _ (by simp)) (by simp [Value.ownBlock]) | exact rw_other hg46 (rw_alloc (lit_pr V p _ rfl) (by simp) _) (by simp [Value.ownBlock])) (by omega) (by first | assumption | exact st46 | exact St14.alloc st46 _) ?_; intro v49 w49 ho49 st49 hg49)
        | (refine step_pr (w := w) (p := p) rfl _ _ rfl (0 + k + 1) v49 ([] ++ l.take k ++ [p]) (l.drop k) rfl ho49 a' (l.length - k) (cap - k) A w.heap.size rfl L2.out (XD.out _ st49) (by omega) st49 ?_; intro v53 w53 ho53 st53 hg53))
      all_goals (
        rw [List.nil_append, HI.out, show 0 + k + 1 + (l.length - k) = (insP l p).length by rw [len_insP]; omega] at ho53
        obtain ⟨a9, c9, rfl, hc9, _, hr9⟩ := rk_own ho53
        have HR := Lib.hid hr9
        go_wp2
        go_ret
        exact ⟨a9, c9, rfl, hc9, HR.out.wide (Nat.zero_le _) (Nat.le_refl _), st53.1⟩)
end Go.Proofs.Ytnbmccfaomhppaa
