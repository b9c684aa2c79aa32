/- The document's Undo of a batch, for every store and batch and in every world. -/
import Derived.Test.YteccahggahpeeaaDocF15
namespace Go.Proofs.Yteccahggahpeeaa
open Go.RowKit

/-- A list behind one that stands alone: 'append([]T{p}, l...)'. -/
theorem prepend_e {α : Type} (E : Elt α) {ops : Array Oper} {rest : List Oper} {o : Oper} {a : Act} {Q : Exit → Act → World → Prop} {V : World} {t e : TypeId} {z : Value} {bytes : Nat}
    (ht : Try.prog.underlying t = some (.slice e)) (hinfo : (Try.prog.info? e).map (fun i => (i.zero, i.size, i.bytes)) = some (some z, E.k, bytes)) (hzc : z.cells.size = E.k) (hb : bytes ≤ 1000000) (hgd : o.guard = none) (s x : Operand)
    (ho : o.op = .call { callee := .builtin .append, args := #[s, x], argTypes := #[t, t] })
    (a0 : Option Addr) (c0 : Nat) (l : List α) (hx : a.eval x = .slice a0 l.length c0) (hl : Els E 0 V.heap.size V a0 l) (p : α) {arr : Array Value} (harr : arr.toList = E.enc p)
    (g : Nat) (hs : a.eval s = .slice (some ⟨g, 0, none⟩) 1 1) (hg : g = V.heap.size) (hk : l.length ≤ 900000)
    (h : ∀ a' c' V' m, Hid (m = p :: l) → Hid (m.length ≤ c' ∧ Els E V.heap.size V'.heap.size V' a' m ∧ Below V.heap.size V V') → wpList Try.prog ops Q rest (a.put o.dst (.slice a' m.length c')) V') :
    wpList Try.prog ops Q (o :: rest) a (V.alloc (.cells arr e)) := by
  subst hg
  have hlen : arr.size = E.k := by rw [← Array.length_toList, harr, E.len]
  have hown : (V.alloc (.cells arr e)).ownsRow V.heap.size e E.k (.slice (some ⟨V.heap.size, 0, none⟩) 1 1) 1 (E.cells [p]) := by
    refine ⟨by rw [E.cells_len]; rfl, Or.inr ⟨V.heap.size, 1, arr, rfl, Nat.le_refl _, heap_alloc_new V _, Nat.le_refl _, by decide, by rw [hlen, Nat.one_mul], ?_⟩⟩
    rw [Nat.one_mul, E.cells_one, ← harr, List.take_of_length_le (by rw [Array.length_toList]; omega)]
  have hba : Below V.heap.size V (V.alloc (.cells arr e)) := (Below.refl _ V).alloc (Nat.le_refl _) _
  refine append_rk hgd s x E.pos ht hinfo hzc ho V.heap.size 1 _ (E.cells [p]) (E.cells l) hs hown a0 l.length c0 0 (V.alloc (.cells arr e)).heap.size hx (E.cells_len l) (hl.step hba) (E.one_cell l) (by omega) hb (by simp) ?_
  intro v' w' ho' hg'
  rw [← E.cells_append] at ho'
  have e1 : [p] ++ l = p :: l := rfl
  rw [e1] at ho'
  have ho2 : w'.ownsRow V.heap.size e E.k v' (p :: l).length (E.cells (p :: l)) := by rw [List.length_cons, Nat.add_comm]; exact ho'
  obtain ⟨a', c', rfl, hc, _, hr⟩ := rk_own ho2
  refine h a' c' w' _ (Lib.hid rfl) (Lib.hid ⟨hc, hr, hba.trans ?_⟩)
  exact (Below.refl V.heap.size (V.alloc (.cells arr e))).grown hg' (by simp) fun k hk => by
    have : V.heap.size = k := by simpa [Value.ownBlock] using hk
    omega
def unE (n : Nat) (cs : List Cl15) (l : List Op15) : Int := apE n cs l
def unV (n : Nat) (cs : List Cl15) (l : List Op15) : List Op15 := if apE n cs l = 0 then undoC n cs l [] else []
/-- Under way. -/
structure Undoing (n : Nat) (cs0 : List Cl15) (l : List Op15) (i : Nat) (cs : List Cl15) (out : List Op15) : Prop where
  val : undoC n cs0 l [] = undoC n cs (l.drop i) out
  len : cs.length ≤ cs0.length + i
  cnt : out.length = i
theorem Undoing.next {n : Nat} {cs0 cs : List Cl15} {l out : List Op15} {i : Nat} (h : Undoing n cs0 l i cs out) (hi : i < l.length) : Undoing n cs0 l (i + 1) (doesC (opAt l i) false cs) (backC n cs (opAt l i) :: out) := by
  have h1 := h.val
  rw [drop_op l i hi] at h1
  have := len_doesC (opAt l i) cs false
  simp at this
  exact ⟨h1, by have := h.len; omega, by rw [List.length_cons, h.cnt]⟩
theorem Undoing.done {n : Nat} {cs0 cs : List Cl15} {l out : List Op15} (h : Undoing n cs0 l l.length cs out) : undoC n cs0 l [] = out := by
  have h1 := h.val
  rw [List.drop_length] at h1
  exact h1
/-- The store's box. -/
structure Ud15 (w : World) (n : Nat) (a : Option Addr) (c : Nat) (cs : List Cl15) (W : World) : Prop where
  old : Below w.heap.size w W
  sto : W.heap[w.heap.size]? = some (.cells #[.int .i64 n, .slice a cs.length c] 32 (0, 0))
  els : ElsO clE (fun b => b ≠ w.heap.size) W.heap.size W a cs
theorem Ud15.step {w : World} {n : Nat} {a : Option Addr} {c : Nat} {cs : List Cl15} {W V : World} (h : Ud15 w n a c cs W) (hb : Below W.heap.size W V) : Ud15 w n a c cs V :=
  ⟨h.old.trans (hb.mono h.old.size), old_obj hb h.sto, h.els.step hb⟩
theorem Ud15.facts {w : World} {n : Nat} {a : Option Addr} {c : Nat} {cs : List Cl15} {W : World} (h : Ud15 w n a c cs W) : W.cell? ⟨w.heap.size, 0, none⟩ = some (.int .i64 n) ∧ W.cell? ⟨w.heap.size, 1, none⟩ = some (.slice a cs.length c) ∧ W.frozen? ⟨w.heap.size, 0, none⟩ = false ∧ W.frozen? ⟨w.heap.size, 1, none⟩ = false :=
  ⟨cell_of h.sto rfl, cell_of h.sto rfl, frozen_of_row _ _ 0 _ _ h.sto, frozen_of_row _ _ 1 _ _ h.sto⟩
theorem Ud15.put {w : World} {n : Nat} {a : Option Addr} {c : Nat} {cs : List Cl15} {V : World} (h : Ud15 w n a c cs V) {a' : Option Addr} {c' : Nat} {cs' : List Cl15} {A : Nat} (he : Els clE A V.heap.size V a' cs') (hA : w.heap.size + 1 ≤ A) : Ud15 w n a' c' cs' ((V.setCell ⟨w.heap.size, 0, none⟩ (.int .i64 n)).setCell ⟨w.heap.size, 1, none⟩ (.slice a' cs'.length c')) :=
  ⟨two_below14 h.old (Nat.le_refl _) _ _, two_stored14 h.sto _ _, ((he.o (fun b hb _ => by omega)).set (by simp) _).set (by simp) _⟩
theorem four_cells15 {w : World} {g : Nat} {x y z u : Value} {t : TypeId} (h : w.heap[g]? = some (.cells #[x, y, z, u] t (0, 0))) : w.cell? ⟨g, 0, none⟩ = some x ∧ w.cell? ⟨g, 1, none⟩ = some y ∧ w.cell? ⟨g, 2, none⟩ = some z ∧ w.cell? ⟨g, 3, none⟩ = some u ∧ w.frozen? ⟨g, 0, none⟩ = false ∧ w.frozen? ⟨g, 1, none⟩ = false ∧ w.frozen? ⟨g, 2, none⟩ = false ∧ w.frozen? ⟨g, 3, none⟩ = false :=
  ⟨cell_of h rfl, cell_of h rfl, cell_of h rfl, cell_of h rfl, frozen_of_row _ _ 0 _ _ h, frozen_of_row _ _ 1 _ _ h, frozen_of_row _ _ 2 _ _ h, frozen_of_row _ _ 3 _ _ h⟩
theorem four_stored15 {w : World} {g : Nat} {x y z u : Value} {t : TypeId} (h : w.heap[g]? = some (.cells #[x, y, z, u] t (0, 0))) (x' y' z' u' : Value) :
    ((((w.setCell ⟨g, 0, none⟩ x').setCell ⟨g, 1, none⟩ y').setCell ⟨g, 2, none⟩ z').setCell ⟨g, 3, none⟩ u').heap[g]? = some (.cells #[x', y', z', u'] t (0, 0)) :=
  heap_setCell_same _ g 3 _ t u' (heap_setCell_same _ g 2 _ t z' (heap_setCell_same _ g 1 _ t y' (heap_setCell_same w g 0 _ t x' h)))
theorem four_grown (w : World) (g : Nat) (x y z u : Value) : w.grownBy ((((w.setCell ⟨g, 0, none⟩ x).setCell ⟨g, 1, none⟩ y).setCell ⟨g, 2, none⟩ z).setCell ⟨g, 3, none⟩ u) (some g) :=
  ⟨rfl, rfl, rfl, by simp [World.setCell], fun k _ hk => by
    have : k ≠ g := fun e => hk (by rw [e])
    rw [heap_set15 _ _ _ _ _ this, heap_set15 _ _ _ _ _ this, heap_set15 _ _ _ _ _ this, heap_set15 _ _ _ _ _ this]⟩
theorem Ud15.grown {w : World} {n : Nat} {a : Option Addr} {c : Nat} {cs : List Cl15} {W0 W V : World} {g : Nat} (h : Ud15 w n a c cs W0) (hb : Below W0.heap.size W0 W) (hg : W.grownBy V (some g)) (h0 : W0.heap.size ≤ g) : Ud15 w n a c cs V := by
  have hb2 : Below W0.heap.size W0 V := hb.grown hg hb.size (fun k e => by cases e; exact h0)
  exact h.step hb2
/-- The boxes of a change and of its contrary. -/
structure Bk15 (wr : World) (g1 g2 : Nat) (o bk : Op15) (V : World) : Prop where
  ob : V.heap[g1]? = some (.cells #[.int .i64 o.t, .int .i64 o.k, .int .i64 o.id, .string (tx o.x)] 76 (0, 0))
  bb : V.heap[g2]? = some (.cells #[.int .i64 bk.t, .int .i64 bk.k, .int .i64 bk.id, .string (tx bk.x)] 76 (0, 0))
  bel : Below wr.heap.size wr V
theorem Bk15.put {wr : World} {g1 g2 : Nat} {o bk : Op15} {V : World} (h : Bk15 wr g1 g2 o bk V) (h1 : g1 ≠ g2) (h2 : wr.heap.size ≤ g2) (b : Op15) : Bk15 wr g1 g2 o b ((((V.setCell ⟨g2, 0, none⟩ (.int .i64 b.t)).setCell ⟨g2, 1, none⟩ (.int .i64 b.k)).setCell ⟨g2, 2, none⟩ (.int .i64 b.id)).setCell ⟨g2, 3, none⟩ (.string (tx b.x))) := by
  refine ⟨?_, four_stored15 h.bb _ _ _ _, h.bel.grown (four_grown V g2 _ _ _ _) h.bel.size (fun k e => by cases e; exact h2)⟩
  rw [(four_grown V g2 _ _ _ _).block g1 (obj_lt h.ob) (fun e => by injection e with e; exact h1 e)]
  exact h.ob
set_option maxRecDepth 100000 in
set_option maxHeartbeats 8000000 in
theorem rundo15_any (n : Nat) (a : Option Addr) (c : Nat) (cs : List Cl15) (la : Option Addr) (lc : Nat) (l : List Op15) (w : World) (h : Els clE 0 w.heap.size w a cs) (hc : cs.length ≤ c) (hl : Els opE 0 w.heap.size w la l) (hcn : n ≤ 100000) (hn : cs.length ≤ 50000) (hll : l.length ≤ 1000) :
    Calls Try.prog 16 #[docVal n a c cs, .slice la l.length lc] w fun e w' => ∃ a' c', e = .returned (.tuple #[.slice a' (unV n cs l).length c', .int .i64 (unE n cs l)]) ∧ Els opE 0 w'.heap.size w' a' (unV n cs l) ∧ Below w.heap.size w w' := by
  have hb0 := boxD_start w n a c cs
  have hu0 : Ud15 w n a c cs (w.alloc (.cells #[.int .i64 n, .slice a cs.length c] 32)) := ⟨hb0.1, heap_alloc_new w _, (h.o (fun b _ hb => by omega)).step hb0.1⟩
  have hap := rapply15_any n a c cs la lc l _ hu0.els.els hc (hl.step hb0.1) hcn hn hll
  obtain ⟨_, c0, c1⟩ := hb0
  have HU := Lib.hid hu0
  have HL := Lib.hid hl
  have HE : Hid (unE n cs l = apE n cs l) := Lib.hid rfl
  have HV : Hid (unV n cs l = if apE n cs l = 0 then undoC n cs l [] else []) := Lib.hid rfl
  clear h hu0 hl hc
  obtain ⟨E, hE⟩ : ∃ E, apE n cs l = E := ⟨_, rfl⟩
  rw [hE] at hap HE HV
  by_cases hz : ¬ E = 0
  · have d1 : (E != 0) = true := by rw [bne_iff_ne]; exact hz
    have HV2 : Hid (unV n cs l = []) := Lib.hid (by rw [HV.out, if_neg hz])
    clear hz hE
    go_enter Try.func16, Try.ntmps16
    go_wp2_with (go_at_call 13; refine hap.mono ?_; rintro e w2 ⟨a2, c2, rfl, _, _, hb⟩; have HB := Lib.hid ((HU.out.step hb).old); clear hb)
    go_ret2
    rw [HV2.out, HE.out]
    exact ⟨none, 0, rfl, Or.inl rfl, by first | exact HB.out | exact HB.out.alloc HB.out.size _⟩
  have hz := Decidable.not_not.1 hz
  have d1 : (E != 0) = false := by rw [hz]; rfl
  have HV2 : Hid (unV n cs l = undoC n cs l [] ∧ unE n cs l = 0) := Lib.hid ⟨by rw [HV.out, if_pos hz], by rw [HE.out]; exact hz⟩
  clear hz hE HV HE
  go_enter Try.func16, Try.ntmps16
  go_upto_region 6 with (go_at_call 13; refine hap.mono ?_; rintro e w2 ⟨a2, c2, rfl, _, _, hb⟩; have U2 := Lib.hid ((HU.out.step hb).step ((Below.refl _ _).alloc (Nat.le_refl _) (.cells #[.int .i64 (apT n cs l), .slice a2 (apV n cs l).length c2] 32))); clear hb hap)
  clear c0 c1
  go_loopw [9, 10] (fun s9 s10 wr => ∃ (i : Nat) (a' : Option Addr) (c' : Nat) (cs' : List Cl15) (oa : Option Addr) (oc : Nat) (out : List Op15), s9 = .slice oa out.length oc ∧ s10 = .int .i64 i ∧ i ≤ l.length ∧ Hid (Ud15 w n a' c' cs' wr) ∧ Hid (ElsO opE (fun b => b ≠ w.heap.size) wr.heap.size wr oa out) ∧ Hid (Undoing n cs l i cs' out)) (fun _ i _ => l.length + 1 - (intOf i).toNat)
  case atStart => exact ⟨0, a, c, cs, none, 0, [], rfl, rfl, by omega, U2, Lib.hid (Or.inl rfl), Lib.hid ⟨rfl, by omega, rfl⟩⟩
  case round =>
    clear U2
    obtain ⟨i, a', c', cs', oa, oc, out, rfl, rfl, hi, HA, HO, HG⟩ := hrel
    by_cases hlt : i < l.length
    · have i1 : (i : Int) < (l.length : Int) := by omega
      have i3 : (0 : Int) ≤ (i : Int) := by omega
      obtain ⟨b, off, eb, hbb, o0, o1, o2, o3⟩ := ops_at (HL.out.step HA.out.old) hlt
      have hlen := HG.out.len
      have HOL : Hid (out.length ≤ 1000) := Lib.hid (by rw [HG.out.cnt]; omega)
      have HGT : Hid (∀ W, Ud15 w n a' c' cs' W → Calls Try.prog 18 #[docVal n a' c' cs', .int .i64 (opAt l i).t, .int .i64 (opAt l i).id] W fun e w' => e = .returned (.tuple #[.string (tx (getVC n cs' (opAt l i).t (opAt l i).id)), .bool (getBC n cs' (opAt l i).t (opAt l i).id)]) ∧ Below W.heap.size W w') := Lib.hid fun W hW => rget15_any n a' c' cs' _ _ W hW.els.els hcn (by omega)
      have HDO : Hid (∀ W, Ud15 w n a' c' cs' W → Calls Try.prog 32 #[docVal n a' c' cs', opVal (opAt l i)] W fun e w' => ∃ a2 c2, e = .returned (docVal n a2 c2 (doesC (opAt l i) false cs')) ∧ (doesC (opAt l i) false cs').length ≤ c2 ∧ Els clE W.heap.size w'.heap.size w' a2 (doesC (opAt l i) false cs') ∧ Below W.heap.size W w') := Lib.hid fun W hW => rdoes15_any n a' c' cs' (opAt l i) W hW.els.els (by omega)
      have HNX := Lib.hid (HG.out.next hlt)
      have HBK : Hid (backC n cs' (opAt l i) = if (opAt l i).k = 3 then ⟨(opAt l i).t, 1, (opAt l i).id, getVC n cs' (opAt l i).t (opAt l i).id⟩ else if (opAt l i).k = 2 then ⟨(opAt l i).t, 2, (opAt l i).id, getVC n cs' (opAt l i).t (opAt l i).id⟩ else ⟨(opAt l i).t, 3, (opAt l i).id, []⟩) := Lib.hid rfl
      subst eb
      clear hbb hlen HG
      generalize opAt l i = o at *
      obtain ⟨bk, hbk⟩ : ∃ bk, backC n cs' o = bk := ⟨_, rfl⟩
      obtain ⟨ds, hds⟩ : ∃ ds, doesC o false cs' = ds := ⟨_, rfl⟩
      obtain ⟨x, hx⟩ : ∃ x, getVC n cs' o.t o.id = x := ⟨_, rfl⟩
      rw [hbk] at HNX HBK
      rw [hds] at HDO HNX
      rw [hx] at HGT HBK
      clear hbk hds hx
      go_upto_region 9 with fail
      obtain ⟨V1, hV1⟩ : ∃ V1, wr.alloc (.cells #[.int .i64 o.t, .int .i64 o.k, .int .i64 o.id, .string (tx o.x)] 76) = V1 := ⟨_, rfl⟩
      obtain ⟨g1, hg1⟩ : ∃ g1, wr.heap.size = g1 := ⟨_, rfl⟩
      have HB1 : Hid (Below wr.heap.size wr V1) := Lib.hid (by rw [← hV1]; exact (Below.refl _ wr).alloc (Nat.le_refl _) _)
      have HC1 : Hid (V1.heap[g1]? = some (.cells #[.int .i64 o.t, .int .i64 o.k, .int .i64 o.id, .string (tx o.x)] 76 (0, 0))) := Lib.hid (by rw [← hV1, ← hg1]; exact heap_alloc_new wr _)
      have HG1 := Lib.hid hg1
      rw [hg1]
      rw [hV1]
      clear hV1 hg1 o0 o1 o2 o3
      have HU1 := Lib.hid (HA.out.step HB1.out)
      obtain ⟨b0, b1, _, _⟩ := HU1.out.facts
      obtain ⟨o0, o1, o2, o3, _⟩ := four_cells15 HC1.out
      go_upto_region 10 with (go_at_call 18; refine (HGT.out _ HU1.out).mono ?_; rintro e w3 ⟨rfl, hb⟩; have HB3 := Lib.hid (HB1.out.trans (hb.mono HB1.out.size)); have HC3 := Lib.hid (old_obj hb HC1.out); obtain ⟨p0, p1, p2, p3, _⟩ := four_cells15 HC3.out; clear hb)
      go_upto_region 11 with fail
      have hg2 : g1 < w3.heap.size := obj_lt HC3.out
      have hg1w : wr.heap.size = g1 := HG1.out
      obtain ⟨V4, hV4⟩ : ∃ V4, w3.alloc (.cells #[.int .i64 o.t, .int .i64 3, .int .i64 o.id, .string ⟨#[]⟩] 76) = V4 := ⟨_, rfl⟩
      obtain ⟨g2, hgg⟩ : ∃ g2, w3.heap.size = g2 := ⟨_, rfl⟩
      have HK : Hid (Bk15 wr g1 g2 o ⟨o.t, 3, o.id, []⟩ V4) := Lib.hid (by
        rw [← hV4, ← hgg]
        exact ⟨old_obj ((Below.refl _ _).alloc (Nat.le_refl _) _) HC3.out, heap_alloc_new w3 _, HB3.out.alloc HB3.out.size _⟩)
      have HG2 : Hid (g1 ≠ g2 ∧ wr.heap.size ≤ g2 ∧ w.heap.size < wr.heap.size) := Lib.hid ⟨by omega, by omega, obj_lt HA.out.sto⟩
      rw [hgg]
      rw [hV4]
      clear hV4 hgg hg2 hg1w p0 p1 p2 p3 b0 b1 o0 o1 o2 o3 HC3 HB3 HC1 HU1 HG1
      obtain ⟨o0, o1, o2, o3, _⟩ := four_cells15 HK.out.ob
      obtain ⟨k0, k1, k2, k3, f0, f1, f2, f3⟩ := four_cells15 HK.out.bb
      go_upto_if 51 with fail
      go_cut [] (fun wx => ∃ V : World, wx = V ∧ Hid (Bk15 wr g1 g2 o (if o.k = 2 then ⟨o.t, 2, o.id, x⟩ else ⟨o.t, 3, o.id, []⟩) V))
      case first =>
        by_cases q : o.k = 2
        · have d2 : (o.k == 2) = true := beq_iff_eq.2 q
          have HP : Hid (Bk15 wr g1 g2 o (if o.k = 2 then ⟨o.t, 2, o.id, x⟩ else ⟨o.t, 3, o.id, []⟩) _) := Lib.hid (by rw [if_pos q]; exact HK.out.put HG2.out.1 HG2.out.2.1 ⟨o.t, 2, o.id, x⟩)
          clear q
          go_wp2
          go_meet
          exact ⟨_, rfl, HP⟩
        · have d2 : (o.k == 2) = false := beq_eq_false_iff_ne.2 q
          have HP : Hid (Bk15 wr g1 g2 o (if o.k = 2 then ⟨o.t, 2, o.id, x⟩ else ⟨o.t, 3, o.id, []⟩) V4) := Lib.hid (by rw [if_neg q]; exact HK.out)
          clear q
          go_wp2
          go_meet
          exact ⟨_, rfl, HP⟩
      case rest =>
        obtain ⟨V5, hV, HK5⟩ := hcut
        rw [hV]
        clear hV HK o0 o1 o2 o3 k0 k1 k2 k3 f0 f1 f2 f3
        obtain ⟨o0, o1, o2, o3, _⟩ := four_cells15 HK5.out.ob
        obtain ⟨k0, k1, k2, k3, f0, f1, f2, f3⟩ := four_cells15 HK5.out.bb
        go_upto_if 60 with fail
        go_cut [] (fun wx => ∃ V : World, wx = V ∧ Hid (Bk15 wr g1 g2 o bk V))
        case first =>
          by_cases q : o.k = 3
          · have d2 : (o.k == 3) = true := beq_iff_eq.2 q
            have HP : Hid (Bk15 wr g1 g2 o bk _) := Lib.hid (by rw [HBK.out, if_pos q]; exact HK5.out.put HG2.out.1 HG2.out.2.1 ⟨o.t, 1, o.id, x⟩)
            clear q
            go_wp2
            go_meet
            exact ⟨_, rfl, HP⟩
          · have d2 : (o.k == 3) = false := beq_eq_false_iff_ne.2 q
            have HP : Hid (Bk15 wr g1 g2 o bk V5) := Lib.hid (by rw [HBK.out, if_neg q]; exact HK5.out)
            clear q
            go_wp2
            go_meet
            exact ⟨_, rfl, HP⟩
        case rest =>
          obtain ⟨V6, hV, HK6⟩ := hcut
          rw [hV]
          clear hV HK5 o0 o1 o2 o3 k0 k1 k2 k3 f0 f1 f2 f3
          have HU6 := Lib.hid (HA.out.step HK6.out.bel)
          have HO6 := Lib.hid (HO.out.step HK6.out.bel)
          have HSZ : Hid (w.heap.size < V6.heap.size) := Lib.hid (obj_lt HU6.out.sto)
          obtain ⟨k0, k1, k2, k3, _⟩ := four_cells15 HK6.out.bb
          go_upto_region 16 with (refine prepend_e (V := V6) opE Try.underlying39 infoOpR rfl (by decide) rfl _ _ rfl oa oc out rfl HO6.out.els bk rfl _ rfl rfl (by have := HOL.out; omega) ?_; intro a7 c7 V7 m7 hm7 h7; have HU7 := Lib.hid (HU6.out.step h7.out.2.2); have HC7 := Lib.hid (old_obj h7.out.2.2 HK6.out.ob); have HO7 : Hid (ElsO opE (fun b => b ≠ w.heap.size) V7.heap.size V7 a7 m7) := Lib.hid (h7.out.2.1.o (fun b hb _ => by have := HSZ.out; omega)); clear h7)
          clear k0 k1 k2 k3
          obtain ⟨b0, b1, _, _⟩ := HU7.out.facts
          obtain ⟨o0, o1, o2, o3, _⟩ := four_cells15 HC7.out
          have hd := HDO.out _ HU7.out
          go_wp2_with (go_at_call 32; refine hd.mono ?_; rintro e v8 ⟨a8, c8, rfl, hc8, he8, hb⟩; have HU8 := Lib.hid (HU7.out.step hb); have HE8 := Lib.hid he8; have HO8 := Lib.hid (HO7.out.step hb); obtain ⟨t0, t1, f0, f1⟩ := HU8.out.facts; clear hc8 he8 hb)
          go_roundw
          case rel => exact ⟨i + 1, a8, c8, ds, a7, c7, m7, rfl, by first | rfl | go_num, by omega, Lib.hid (HU8.out.put HE8.out (obj_lt HU7.out.sto)), Lib.hid ((HO8.out.set (by simp) _).set (by simp) _), Lib.hid (by rw [hm7.out]; exact HNX.out)⟩
          case measure => first | (simp [intOf]; omega) | simp [intOf]
    · obtain rfl : i = l.length := by omega
      have HR : Hid (unV n cs l = out) := Lib.hid (by rw [HV2.out.1]; exact HG.out.done)
      go_wp2
      go_ret2
      rw [HR.out, HV2.out.2]
      exact ⟨oa, oc, rfl, HO.out.els, HA.out.old⟩
end Go.Proofs.Yteccahggahpeeaa
