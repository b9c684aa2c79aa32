/- What the document's change of a store does, for every store and change and in every world. -/
import Derived.Test.YteccahggahpeeaaDocC15
import Derived.Test.YteccahggahpeeaaMIxarg14
namespace Go.Proofs.Yteccahggahpeeaa
open Go.RowKit

theorem len_doesC (o : Op15) : ∀ (cs : List Cl15) (p : Bool), (doesC o p cs).length ≤ cs.length + (if p then 0 else 1)
  | [], p => by
    rw [doesC_nil]
    split
    · rename_i h; rw [h.2]; simp
    · simp
  | c :: cs, p => by
    have ih := len_doesC o cs (p || (decide (o.k = 1) && pastC o c))
    rw [doesC_cons, List.length_append, List.length_append, List.length_cons]
    have h2 : (if hitC o c then (if o.k = 3 then [] else [(c.1, c.2.1, o.x)]) else [c]).length ≤ 1 := by
      split
      · split
        · simp
        · simp
      · simp
    by_cases h : o.k = 1 ∧ p = false ∧ pastC o c = true
    · rw [if_pos h]
      obtain ⟨h1, rfl, h3⟩ := h
      rw [decide_eq_true h1, h3] at ih ⊢
      simp at ih ⊢
      omega
    · rw [if_neg h]
      have : (if p || (decide (o.k = 1) && pastC o c) then 0 else 1) ≤ (if p then 0 else 1) := by
        cases p with
        | true => simp
        | false => simp; split <;> omega
      simp only [List.length_nil]
      omega
theorem heap_set15 (w : World) (g o k : Nat) (v : Value) (h : k ≠ g) : (w.setCell ⟨g, o, none⟩ v).heap[k]? = w.heap[k]? := by
  simp [World.setCell, Array.getElem?_modify, Ne.symm h]
/-- The boxes of a store and a change, and the place of what is told. -/
structure Ds15 (w : World) (n : Nat) (a : Option Addr) (c : Nat) (cs : List Cl15) (o : Op15) (W : World) : Prop where
  so : SO15 w n a c cs o W
  res : W.heap[w.heap.size + 2]? = some (.cells #[.int .i64 0, .slice none 0 0] 32 (0, 0))
theorem Ds15.size {w : World} {n : Nat} {a : Option Addr} {c : Nat} {cs : List Cl15} {o : Op15} {W : World} (h : Ds15 w n a c cs o W) : w.heap.size + 3 ≤ W.heap.size := obj_lt h.res
theorem Ds15.step {w : World} {n : Nat} {a : Option Addr} {c : Nat} {cs : List Cl15} {o : Op15} {W V : World} (h : Ds15 w n a c cs o W) (hb : Below W.heap.size W V) : Ds15 w n a c cs o V := ⟨h.so.step hb, old_obj hb h.res⟩
theorem Ds15.grown {w : World} {n : Nat} {a : Option Addr} {c : Nat} {cs : List Cl15} {o : Op15} {W V : World} {row : Option Nat} (h : Ds15 w n a c cs o W) (hg : W.grownBy V row) (hr : ∀ r, row = some r → w.heap.size + 3 ≤ r) : Ds15 w n a c cs o V := by
  have hs := h.size
  have keep : ∀ {k : Nat} {x : Obj}, k < w.heap.size + 3 → W.heap[k]? = some x → V.heap[k]? = some x := fun hk hx => by
    rw [hg.block _ (by omega) (fun e => by have := hr _ e.symm; omega)]; exact hx
  exact ⟨⟨h.so.old.grown hg (by omega) (fun k e => by have := hr k e; omega), keep (by omega) h.so.sto, keep (by omega) h.so.opr⟩, keep (by omega) h.res⟩
theorem grownBy_setCell_off (W : World) (g j : Nat) (v : Value) : W.grownBy (W.setCell ⟨g, j, none⟩ v) (some g) := ⟨rfl, rfl, rfl, by simp [World.setCell], fun k _ hk => heap_set15 W g j k v (fun e => hk (by rw [e]))⟩
theorem Ds15.start (w : World) (n : Nat) (a : Option Addr) (c : Nat) (cs : List Cl15) (o : Op15) : Ds15 w n a c cs o (((w.alloc (.cells #[.int .i64 n, .slice a cs.length c] 32)).alloc (.cells #[.int .i64 o.t, .int .i64 o.k, .int .i64 o.id, .string (tx o.x)] 76)).alloc (.cells #[.int .i64 0, .slice none 0 0] 32)) := by
  refine ⟨(SO15.start w n a c cs o).step ((Below.refl _ _).alloc (Nat.le_refl _) _), ?_⟩
  have h := heap_alloc_new ((w.alloc (.cells #[.int .i64 n, .slice a cs.length c] 32)).alloc (.cells #[.int .i64 o.t, .int .i64 o.k, .int .i64 o.id, .string (tx o.x)] 76)) (.cells #[.int .i64 0, .slice none 0 0] 32)
  simp only [World.size_alloc] at h
  exact h
theorem Rw.set15 {A : Nat} {w : World} {a : Option Addr} {cs : List Value} (h : Rw A w.heap.size w a cs) {p : Addr} (hp : p.block < A) (u : Value) : Rw A (w.setCell p u).heap.size (w.setCell p u) a cs := by
  rcases h with h | ⟨b, off, ha, hA, hB, hc⟩
  · exact Or.inl h
  · refine Or.inr ⟨b, off, ha, hA, by rw [World.size_setCell]; exact hB, fun j v hj => ?_⟩
    rw [World.cell?_setCell_other w p ⟨b, off + j, none⟩ u (fun e => by subst e; simp at hp; omega)]
    exact hc j v hj
theorem Ds15.told {w : World} {n : Nat} {a : Option Addr} {c : Nat} {cs : List Cl15} {o : Op15} {W : World} (h : Ds15 w n a c cs o W) {ma : Option Addr} {mc : Nat} {m : List Cl15} (ho : W.ownsRow (w.heap.size + 3) 72 clE.k (.slice ma m.length mc) m.length (clE.cells m)) (x y : Value) :
    m.length ≤ mc ∧ Els clE w.heap.size ((W.setCell ⟨w.heap.size + 2, 0, none⟩ x).setCell ⟨w.heap.size + 2, 1, none⟩ y).heap.size ((W.setCell ⟨w.heap.size + 2, 0, none⟩ x).setCell ⟨w.heap.size + 2, 1, none⟩ y) ma m ∧ Below w.heap.size w ((W.setCell ⟨w.heap.size + 2, 0, none⟩ x).setCell ⟨w.heap.size + 2, 1, none⟩ y) := by
  obtain ⟨a', c', hv, hc, _, hr⟩ := rk_own ho
  injection hv with e1 _ e3
  subst e1 e3
  exact ⟨hc, (((hr.set15 (p := ⟨w.heap.size + 2, 0, none⟩) (by simp) x).set15 (p := ⟨w.heap.size + 2, 1, none⟩) (by simp) y).wide (by omega) (Nat.le_refl _)), two_below14 h.so.old (by omega) _ _⟩
def insC (o : Op15) (p : Bool) (c : Cl15) : Bool := decide (o.k = 1) && (!p && pastC o c)
theorem doesC_step (o : Op15) (p : Bool) (c : Cl15) (cs : List Cl15) : doesC o p (c :: cs) = (if insC o p c = true then [(o.t, o.id, o.x)] else []) ++ (if hitC o c = true then (if o.k = 3 then [] else [(c.1, c.2.1, o.x)]) else [c]) ++ doesC o (p || insC o p c) cs := by
  rw [doesC_cons]
  have e1 : (o.k = 1 ∧ p = false ∧ pastC o c = true) ↔ insC o p c = true := by
    unfold insC
    cases p <;> simp
  have e2 : (p || (decide (o.k = 1) && pastC o c)) = (p || insC o p c) := by
    unfold insC
    cases p <;> simp
  rw [e2]
  by_cases h : insC o p c = true
  · rw [if_pos h, if_pos (e1.2 h)]
  · rw [if_neg h, if_neg fun q => h (e1.1 q)]
theorem drop_cl (cs : List Cl15) (k : Nat) (h : k < cs.length) : cs.drop k = clAt cs k :: cs.drop (k + 1) := by
  have h2 := clAt_get h
  rw [List.getElem?_eq_getElem h] at h2
  rw [List.drop_eq_getElem_cons h, Option.some.inj h2]
set_option maxRecDepth 100000 in
set_option maxHeartbeats 8000000 in
theorem rdoes15_any (n : Nat) (a : Option Addr) (c : Nat) (cs : List Cl15) (o : Op15) (w : World) (h : Els clE 0 w.heap.size w a cs) (hn : cs.length ≤ 100000) :
    Calls Try.prog 32 #[docVal n a c cs, opVal o] w fun e w' => ∃ a' c', e = .returned (docVal n a' c' (doesC o false cs)) ∧ (doesC o false cs).length ≤ c' ∧ Els clE w.heap.size w'.heap.size w' a' (doesC o false cs) ∧ Below w.heap.size w w' := by
  have hd0 := Ds15.start w n a c cs o
  have HD := Lib.hid hd0
  have HX := Lib.hid h
  obtain ⟨c0, c1, o0, o1, o2, o3⟩ := hd0.so.facts
  have hlen := len_doesC o cs false
  obtain ⟨R, hR⟩ : ∃ R, doesC o false cs = R := ⟨_, rfl⟩
  have HRL : Hid (R.length ≤ 200000) := Lib.hid (by rw [← hR]; simp at hlen; omega)
  have HR := Lib.hid hR
  rw [hR]
  obtain ⟨t, k, id, x⟩ := o
  dsimp only at o0 o1 o2 o3
  clear h hd0 hlen hR
  go_enter Try.func32, Try.ntmps32
  go_upto_region 4 with fail
  obtain ⟨W0, hW0⟩ : ∃ W0, ((w.alloc (.cells #[.int .i64 n, .slice a cs.length c] 32)).alloc (.cells #[.int .i64 t, .int .i64 k, .int .i64 id, .string (tx x)] 76)).alloc (.cells #[.int .i64 0, .slice none 0 0] 32) = W0 := ⟨_, rfl⟩
  rw [hW0] at c0 c1 o0 o1 o2 o3 HD ⊢
  clear hW0 c0 c1 o0 o1 o2 o3
  go_loopw [5, 6, 7] (fun s5 s6 s7 wr => ∃ (i : Nat) (p : Bool) (m : List Cl15) (ma : Option Addr) (mc : Nat), s5 = .slice ma m.length mc ∧ s6 = .bool p ∧ s7 = .int .i64 i ∧ i ≤ cs.length ∧ Hid (Ds15 w n a c cs ⟨t, k, id, x⟩ wr) ∧ Hid (wr.ownsRow (w.heap.size + 3) 72 clE.k (.slice ma m.length mc) m.length (clE.cells m)) ∧ Hid (m ++ doesC ⟨t, k, id, x⟩ p (cs.drop i) = R)) (fun _ _ i _ => cs.length + 1 - (intOf i).toNat)
  case atStart => exact ⟨0, false, [], none, 0, rfl, rfl, rfl, by omega, HD, Lib.hid (World.ownsRow_nil _ _ _ _), Lib.hid HR.out⟩
  case round =>
    obtain ⟨i, p, m, ma, mc, rfl, rfl, rfl, hi, HDi, HO, HM⟩ := hrel
    obtain ⟨b0, b1, o0, o1, o2, o3⟩ := HDi.out.so.facts
    dsimp only at o0 o1 o2 o3
    have hml : m.length ≤ 200000 := by have h1 := congrArg List.length HM.out; rw [List.length_append] at h1; have := HRL.out; omega
    by_cases hlt : i < cs.length
    · have i1 : (i : Int) < (cs.length : Int) := by omega
      have i3 : (0 : Int) ≤ (i : Int) := by omega
      obtain ⟨b, off, ea, _, x0, x1, x2⟩ := cls_at (HX.out.step HDi.out.so.old) hlt
      have hst := HM.out
      rw [drop_cl cs i hlt, doesC_step] at hst
      have HST := Lib.hid hst
      obtain ⟨cl, hcl⟩ : ∃ cl, clAt cs i = cl := ⟨_, rfl⟩
      rw [hcl] at x0 x1 x2 HST
      obtain ⟨ct, ci, cx⟩ := cl
      dsimp only at x0 x1 x2
      have HI : Hid (insC ⟨t, k, id, x⟩ p (ct, ci, cx) = (decide (k = 1) && (!p && (decide (t < ct) || (ct == t && decide (id < ci)))))) := Lib.hid rfl
      have HH : Hid (hitC ⟨t, k, id, x⟩ (ct, ci, cx) = (ct == t && ci == id)) := Lib.hid rfl
      obtain ⟨bi, hbi⟩ : ∃ bi, insC ⟨t, k, id, x⟩ p (ct, ci, cx) = bi := ⟨_, rfl⟩
      obtain ⟨bh, hbh⟩ : ∃ bh, hitC ⟨t, k, id, x⟩ (ct, ci, cx) = bh := ⟨_, rfl⟩
      rw [hbi] at HI HST
      rw [hbh] at HH HST
      have HNH : Hid (bi = true → bh = false) := Lib.hid (by
        intro e
        rw [HI.out] at e
        rw [HH.out]
        simp only [Bool.and_eq_true, Bool.or_eq_true, decide_eq_true_eq, beq_iff_eq] at e
        rcases e.2.2 with q | q
        · rw [show (ct == t) = false from beq_eq_false_iff_ne.2 (by omega)]; rfl
        · rw [show (ci == id) = false from beq_eq_false_iff_ne.2 (by omega), Bool.and_false])
      subst ea
      clear hst hcl hbi hbh
      go_upto_region 7 with fail
      obtain ⟨V1, hV1⟩ : ∃ V1, wr.alloc (.cells #[.int .i64 ct, .int .i64 ci, .string (tx cx)] 72) = V1 := ⟨_, rfl⟩
      obtain ⟨g, hg⟩ : ∃ g, wr.heap.size = g := ⟨_, rfl⟩
      have hb1 : Below wr.heap.size wr V1 := by rw [← hV1]; exact (Below.refl _ wr).alloc (Nat.le_refl _) _
      have HD1 := Lib.hid (HDi.out.step hb1)
      have HO1 := Lib.hid (ownk_on HO.out hb1)
      have HC1 : Hid (V1.heap[g]? = some (.cells #[.int .i64 ct, .int .i64 ci, .string (tx cx)] 72 (0, 0))) := Lib.hid (by rw [← hV1, ← hg]; exact heap_alloc_new wr _)
      have HG3 : Hid (w.heap.size + 3 ≤ g) := Lib.hid (by rw [← hg]; exact HDi.out.size)
      have HRB : Hid (∀ r, (Value.slice ma m.length mc).ownBlock = some r → w.heap.size + 3 ≤ r ∧ r < g) := Lib.hid fun r hr => by have := HO.out.lt r hr; rw [← hg]; exact this
      rw [hg]
      rw [hV1]
      clear hV1 hb1 HDi HO x0 x1 x2 b0 b1 o0 o1 o2 o3 hg
      obtain ⟨b0, b1, o0, o1, o2, o3⟩ := HD1.out.so.facts
      dsimp only at o0 o1 o2 o3
      obtain ⟨y0, y1, y2⟩ := (show V1.cell? ⟨g, 0, none⟩ = some (.int .i64 ct) ∧ V1.cell? ⟨g, 1, none⟩ = some (.int .i64 ci) ∧ V1.cell? ⟨g, 2, none⟩ = some (.string (tx cx)) from ⟨cell_of HC1.out rfl, cell_of HC1.out rfl, cell_of HC1.out rfl⟩)
      go_cut [48] (fun s48 wx => s48 = .bool bi ∧ wx = V1)
      case first =>
        by_cases q1 : k = 1
        · have d1 : (k == 1) = true := beq_iff_eq.2 q1
          have d1' : decide (k = 1) = true := decide_eq_true q1
          cases p with
          | true =>
            have HE : Hid (bi = false) := Lib.hid (by rw [HI.out, d1']; rfl)
            clear q1 d1'
            go_wp2
            go_meet
            exact ⟨by rw [HE.out], rfl⟩
          | false =>
            by_cases q2 : t < ct
            · have d2 : decide (t < ct) = true := decide_eq_true q2
              have HE : Hid (bi = true) := Lib.hid (by rw [HI.out, d1', d2]; rfl)
              clear q1 q2 d1'
              go_wp2
              go_meet
              exact ⟨by rw [HE.out], rfl⟩
            · have d2 : decide (t < ct) = false := decide_eq_false q2
              by_cases q3 : ct = t
              · have d3 : (ct == t) = true := beq_iff_eq.2 q3
                have HE : Hid (bi = decide (id < ci)) := Lib.hid (by rw [HI.out, d1', d2, d3]; simp)
                by_cases q4 : id < ci
                · have d4 : decide (id < ci) = true := decide_eq_true q4
                  rw [d4] at HE
                  clear q1 q2 q3 q4 d1'
                  go_wp2
                  go_meet
                  exact ⟨by rw [HE.out], rfl⟩
                · have d4 : decide (id < ci) = false := decide_eq_false q4
                  rw [d4] at HE
                  clear q1 q2 q3 q4 d1'
                  go_wp2
                  go_meet
                  exact ⟨by rw [HE.out], rfl⟩
              · have d3 : (ct == t) = false := beq_eq_false_iff_ne.2 q3
                have HE : Hid (bi = false) := Lib.hid (by rw [HI.out, d1', d2, d3]; rfl)
                clear q1 q2 q3 d1'
                go_wp2
                go_meet
                exact ⟨by rw [HE.out], rfl⟩
        · have d1 : (k == 1) = false := beq_eq_false_iff_ne.2 q1
          have HE : Hid (bi = false) := Lib.hid (by rw [HI.out, decide_eq_false q1]; rfl)
          clear q1
          go_wp2
          go_meet
          exact ⟨by rw [HE.out], rfl⟩
      case rest =>
        obtain ⟨rfl, hV⟩ := hcut
        rw [hV]
        clear hV
        go_upto_if 48 with fail
        go_cut [5, 6] (fun s5 s6 wx => ∃ (V2 : World) (m2 : List Cl15) (a2 : Option Addr) (c2 : Nat), wx = V2 ∧ s5 = .slice a2 m2.length c2 ∧ s6 = .bool (p || bi) ∧ m2.length ≤ 200000 ∧ Hid (bi = true ∨ ∀ r, (Value.slice a2 m2.length c2).ownBlock = some r → r < g) ∧ Hid (Ds15 w n (some ⟨b, off, none⟩) c cs ⟨t, k, id, x⟩ V2) ∧ Hid (V2.ownsRow (w.heap.size + 3) 72 clE.k (.slice a2 m2.length c2) m2.length (clE.cells m2)) ∧ Hid (V2.heap[g]? = some (.cells #[.int .i64 ct, .int .i64 ci, .string (tx cx)] 72 (0, 0))) ∧ Hid (m2 ++ ((if bh = true then (if k = 3 then [] else [(ct, ci, x)]) else [(ct, ci, cx)]) ++ doesC ⟨t, k, id, x⟩ (p || bi) (cs.drop (i + 1))) = R))
        case first =>
          cases bi with
          | false =>
            have HE : Hid (m ++ ((if bh = true then (if k = 3 then [] else [(ct, ci, x)]) else [(ct, ci, cx)]) ++ doesC ⟨t, k, id, x⟩ (p || false) (cs.drop (i + 1))) = R) := Lib.hid (by have := HST.out; simpa using this)
            go_wp2
            go_meet
            exact ⟨_, m, ma, mc, rfl, rfl, by simp, hml, Lib.hid (Or.inr fun r hr => (HRB.out r hr).2), HD1, HO1, HC1, HE⟩
          | true =>
            have hw : w.heap.size + 3 ≤ V1.heap.size := HD1.out.size
            have HE : Hid ((m ++ [(t, id, x)]) ++ ((if bh = true then (if k = 3 then [] else [(ct, ci, x)]) else [(ct, ci, cx)]) ++ doesC ⟨t, k, id, x⟩ (p || true) (cs.drop (i + 1))) = R) := Lib.hid (by have := HST.out; simpa using this)
            go_wp2_with (refine append_e (V := V1) clE Try.underlying30 infoCl rfl (by decide) rfl _ _ rfl (w.heap.size + 3) ma mc m rfl HO1.out hw (t, id, x) rfl _ rfl rfl (by omega) ?_; intro a3 c3 V3 m3 hm3 ho3 hg3; have HD3 := Lib.hid ((HD1.out.step ((Below.refl _ _).alloc (Nat.le_refl _) _)).grown hg3 (fun r hr => (HRB.out r hr).1)); have HO3 := Lib.hid ho3; have HC3 := Lib.hid (((hg3.block g (by have := obj_lt HC1.out; simp; omega) (fun e => by have := (HRB.out g e.symm).2; omega)).trans (Below.heap_alloc V1 _ g (obj_lt HC1.out))).trans HC1.out); clear ho3 hg3)
            go_meet
            exact ⟨_, m3, a3, c3, rfl, rfl, by simp, by rw [hm3.out, List.length_append]; have h1 := congrArg List.length HE.out; rw [List.length_append, List.length_append] at h1; have := HRL.out; omega, Lib.hid (Or.inl (by first | trivial | rfl)), HD3, HO3, HC3, by rw [hm3.out]; exact HE⟩
        case rest =>
          obtain ⟨V2, m2, a2, c2, hV, rfl, rfl, hm2l, HBL, HD2, HO2, HC2, HE2⟩ := hcut
          rw [hV]
          clear hV
          clear HD1 HO1 HC1 HST HI HRB b0 b1 o0 o1 o2 o3 y0 y1 y2
          obtain ⟨b0, b1, o0, o1, o2, o3⟩ := HD2.out.so.facts
          dsimp only at o0 o1 o2 o3
          obtain ⟨y0, y1, y2⟩ := (show _ ∧ _ ∧ _ from ⟨cell_of (j := 0) HC2.out rfl, cell_of (j := 1) HC2.out rfl, cell_of (j := 2) HC2.out rfl⟩)
          have y3 := frozen_of_row _ _ 2 _ _ HC2.out
          go_upto_region 10 with fail
          go_cut [70] (fun s70 wx => s70 = .bool bh ∧ wx = V2)
          case first =>
            by_cases q1 : ct = t
            · have d1 : (ct == t) = true := beq_iff_eq.2 q1
              have HE : Hid (bh = (ci == id)) := Lib.hid (by rw [HH.out, d1]; rfl)
              by_cases q2 : ci = id
              · have d2 : (ci == id) = true := beq_iff_eq.2 q2
                rw [d2] at HE
                clear q1 q2
                go_wp2
                go_meet
                exact ⟨by rw [HE.out], rfl⟩
              · have d2 : (ci == id) = false := beq_eq_false_iff_ne.2 q2
                rw [d2] at HE
                clear q1 q2
                go_wp2
                go_meet
                exact ⟨by rw [HE.out], rfl⟩
            · have d1 : (ct == t) = false := beq_eq_false_iff_ne.2 q1
              have HE : Hid (bh = false) := Lib.hid (by rw [HH.out, d1]; rfl)
              clear q1
              go_wp2
              go_meet
              exact ⟨by rw [HE.out], rfl⟩
          case rest =>
            obtain ⟨rfl, hV⟩ := hcut
            rw [hV]
            clear hV HH
            cases bh with
            | false =>
              have hw : w.heap.size + 3 ≤ V2.heap.size := HD2.out.size
              have HRB2 : Hid (∀ r, (Value.slice a2 m2.length c2).ownBlock = some r → w.heap.size + 3 ≤ r) := Lib.hid fun r hr => (HO2.out.lt r hr).1
              go_wp2_with (refine append_e (V := V2) clE Try.underlying30 infoCl rfl (by decide) rfl _ _ rfl (w.heap.size + 3) a2 c2 m2 rfl HO2.out hw (ct, ci, cx) rfl _ rfl rfl (by omega) ?_; intro a4 c4 V4 m4 hm4 ho4 hg4; have HD4 := Lib.hid ((HD2.out.step ((Below.refl _ _).alloc (Nat.le_refl _) _)).grown hg4 (fun r hr => HRB2.out r hr)); have HO4 := Lib.hid ho4; have HM4 : Hid (m4 ++ doesC ⟨t, k, id, x⟩ (p || bi) (cs.drop (i + 1)) = R) := Lib.hid (by rw [hm4.out, List.append_assoc]; exact (by have := HE2.out; simpa using this)); clear ho4 hg4)
              go_roundw
              case rel => exact ⟨i + 1, p || bi, _, a4, c4, rfl, rfl, by first | rfl | go_num, by omega, HD4, HO4, HM4⟩
              case measure => first | (simp [intOf]; omega) | simp [intOf]
            | true =>
              by_cases q3 : k = 3
              · have d3 : (k == 3) = true := beq_iff_eq.2 q3
                have HM4 : Hid (m2 ++ doesC ⟨t, k, id, x⟩ (p || bi) (cs.drop (i + 1)) = R) := Lib.hid (by have := HE2.out; rw [if_pos rfl, if_pos q3] at this; exact this)
                clear q3
                go_wp2
                go_roundw
                case rel => exact ⟨i + 1, p || bi, m2, a2, c2, rfl, rfl, by first | rfl | go_num, by omega, HD2, HO2, HM4⟩
                case measure => first | (simp [intOf]; omega) | simp [intOf]
              · have d3 : (k == 3) = false := beq_eq_false_iff_ne.2 q3
                have HE3 : Hid (m2 ++ ([(ct, ci, x)] ++ doesC ⟨t, k, id, x⟩ (p || bi) (cs.drop (i + 1))) = R) := Lib.hid (by have := HE2.out; rw [if_pos rfl, if_neg q3] at this; exact this)
                clear q3
                go_upto_region 13 with fail
                obtain ⟨V3, hV3⟩ : ∃ V3, V2.setCell ⟨g, 2, none⟩ (.string (tx x)) = V3 := ⟨_, rfl⟩
                have HC3 : Hid (V3.heap[g]? = some (.cells #[.int .i64 ct, .int .i64 ci, .string (tx x)] 72 (0, 0))) := Lib.hid (by rw [← hV3]; exact heap_setCell_same V2 g 2 _ _ _ HC2.out)
                have HD3 : Hid (Ds15 w n (some ⟨b, off, none⟩) c cs ⟨t, k, id, x⟩ V3) := Lib.hid (by rw [← hV3]; exact HD2.out.grown (row := some g) (grownBy_setCell_off V2 g 2 _) (fun r hr => by cases hr; exact HG3.out))
                have HO3 : Hid (V3.ownsRow (w.heap.size + 3) 72 clE.k (.slice a2 m2.length c2) m2.length (clE.cells m2)) := Lib.hid (by
                  rw [← hV3]
                  have hlt : ∀ r, (Value.slice a2 m2.length c2).ownBlock = some r → r ≠ g := fun r hr => by
                    rcases HBL.out with q | q
                    · have := HNH.out q; cases this
                    · have := q r hr; omega
                  refine ⟨HO2.out.1, ?_⟩
                  rcases HO2.out.2 with q | ⟨g', cap, cur, q1, q2, q3, q4⟩
                  · exact Or.inl q
                  · refine Or.inr ⟨g', cap, cur, q1, q2, ?_, q4⟩
                    rw [heap_set15 V2 g 2 g' _ (hlt g' (by rw [q1]; rfl))]
                    exact q3)
                rw [hV3]
                clear hV3 b0 b1 o0 o1 o2 o3 y0 y1 y2 y3
                obtain ⟨y0, y1, y2⟩ := (show _ ∧ _ ∧ _ from ⟨cell_of (j := 0) HC3.out rfl, cell_of (j := 1) HC3.out rfl, cell_of (j := 2) HC3.out rfl⟩)
                have hw : w.heap.size + 3 ≤ V3.heap.size := HD3.out.size
                have HRB2 : Hid (∀ r, (Value.slice a2 m2.length c2).ownBlock = some r → w.heap.size + 3 ≤ r) := Lib.hid fun r hr => (HO3.out.lt r hr).1
                go_wp2_with (refine append_e (V := V3) clE Try.underlying30 infoCl rfl (by decide) rfl _ _ rfl (w.heap.size + 3) a2 c2 m2 rfl HO3.out hw (ct, ci, x) rfl _ rfl rfl (by omega) ?_; intro a4 c4 V4 m4 hm4 ho4 hg4; have HD4 := Lib.hid ((HD3.out.step ((Below.refl _ _).alloc (Nat.le_refl _) _)).grown hg4 (fun r hr => HRB2.out r hr)); have HO4 := Lib.hid ho4; have HM4 : Hid (m4 ++ doesC ⟨t, k, id, x⟩ (p || bi) (cs.drop (i + 1)) = R) := Lib.hid (by rw [hm4.out, List.append_assoc]; exact HE3.out); clear ho4 hg4)
                go_roundw
                case rel => exact ⟨i + 1, p || bi, _, a4, c4, rfl, rfl, by first | rfl | go_num, by omega, HD4, HO4, HM4⟩
                case measure => first | (simp [intOf]; omega) | simp [intOf]
    · obtain rfl : i = cs.length := by omega
      have hend := HM.out
      rw [List.drop_length, doesC_nil] at hend
      dsimp only at hend
      have HEND := Lib.hid hend
      obtain ⟨r0, r1⟩ := (show _ ∧ _ from ⟨cell_of (j := 0) HDi.out.res rfl, cell_of (j := 1) HDi.out.res rfl⟩)
      have rf0 := frozen_of_row _ _ 0 _ _ HDi.out.res
      have rf1 := frozen_of_row _ _ 1 _ _ HDi.out.res
      clear hend
      by_cases q1 : k = 1 ∧ p = false
      · obtain ⟨rfl, rfl⟩ := q1
        have hw : w.heap.size + 3 ≤ wr.heap.size := HDi.out.size
        have HRB : Hid (∀ r, (Value.slice ma m.length mc).ownBlock = some r → w.heap.size + 3 ≤ r) := Lib.hid fun r hr => (HO.out.lt r hr).1
        have HE : Hid (m ++ [(t, id, x)] = R) := Lib.hid (by have := HEND.out; rw [if_pos ⟨rfl, rfl⟩] at this; exact this)
        clear r0 r1 rf0 rf1
        go_upto_region 16 with (refine append_e (V := wr) clE Try.underlying30 infoCl rfl (by decide) rfl _ _ rfl (w.heap.size + 3) ma mc m rfl HO.out hw (t, id, x) rfl _ rfl rfl (by omega) ?_; intro a4 c4 V4 m4 hm4 ho4 hg4; have HD4 := Lib.hid ((HDi.out.step ((Below.refl _ _).alloc (Nat.le_refl _) _)).grown hg4 (fun r hr => HRB.out r hr)); have HO4 := Lib.hid ho4; have HM4 : Hid (m4 = R) := Lib.hid (by rw [hm4.out]; exact HE.out); clear ho4 hg4)
        clear b0 b1 o0 o1 o2 o3
        obtain ⟨b0, b1, _⟩ := HD4.out.so.facts
        obtain ⟨r0, r1⟩ := (show _ ∧ _ from ⟨cell_of (j := 0) HD4.out.res rfl, cell_of (j := 1) HD4.out.res rfl⟩)
        have rf0 := frozen_of_row _ _ 0 _ _ HD4.out.res
        have rf1 := frozen_of_row _ _ 1 _ _ HD4.out.res
        go_wp2
        refine bodyPost_ret (results_cell_row rfl _ _ (w.heap.size + 2) 32 _ _ _ rfl (two_stored14 HD4.out.res _ _) Try.underlying32 rfl (by kernel_rfl)) rfl ?_
        have e := HM4.out
        subst e
        obtain ⟨z1, z2, z3⟩ := HD4.out.told HO4.out (.int .i64 n) (.slice a4 m4.length c4)
        exact ⟨a4, c4, rfl, z1, z2, z3⟩
      · have HE : Hid (m = R) := Lib.hid (by have := HEND.out; rw [if_neg q1, List.append_nil] at this; exact this)
        have hq : (k == 1) = false ∨ ((k == 1) = true ∧ p = true) := by
          by_cases q2 : k = 1
          · refine Or.inr ⟨beq_iff_eq.2 q2, ?_⟩
            cases p with
            | true => rfl
            | false => exact absurd ⟨q2, rfl⟩ q1
          · exact Or.inl (beq_eq_false_iff_ne.2 q2)
        clear q1
        rcases hq with d1 | ⟨d1, rfl⟩
        · skip
          go_wp2
          refine bodyPost_ret (results_cell_row rfl _ _ (w.heap.size + 2) 32 _ _ _ rfl (two_stored14 HDi.out.res _ _) Try.underlying32 rfl (by kernel_rfl)) rfl ?_
          have e := HE.out
          subst e
          obtain ⟨z1, z2, z3⟩ := HDi.out.told HO.out (.int .i64 n) (.slice ma m.length mc)
          exact ⟨ma, mc, rfl, z1, z2, z3⟩
        · skip
          go_wp2
          refine bodyPost_ret (results_cell_row rfl _ _ (w.heap.size + 2) 32 _ _ _ rfl (two_stored14 HDi.out.res _ _) Try.underlying32 rfl (by kernel_rfl)) rfl ?_
          have e := HE.out
          subst e
          obtain ⟨z1, z2, z3⟩ := HDi.out.told HO.out (.int .i64 n) (.slice ma m.length mc)
          exact ⟨ma, mc, rfl, z1, z2, z3⟩
end Go.Proofs.Yteccahggahpeeaa
