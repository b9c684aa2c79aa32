/- The program's change of a store of its own: one that may be done. (Written by gen_chi15.py.) -/
import Derived.Test.YteccahggahpeeaaMChg15
namespace Go.Proofs.Yteccahggahpeeaa
open Go.RowKit

abbrev revO (i : Nat) (k id : Int) (x : ByteArray) : Obj := .cells #[.int .i64 i, .int .i64 k, .int .i64 id, .string x] 69
abbrev rowO (id : Int) (x : List UInt8) : Obj := .cells #[.int .i64 id, .string (tx x)] 67
/-- The variables reverse and row, beside the boxes and the place of the result. -/
structure Rv15 (w : World) (g c i : Nat) (S : St15) (k id : Int) (x : List UInt8) (V : World) (p q : Nat) (rk : Int) (rx : ByteArray) (W : World) : Prop where
  bx : Bx15 w (some ⟨g, 0, none⟩) c S ⟨(i : Int), k, id, x⟩ W
  res : W.heap[w.heap.size + 2]? = some zeroOp
  gt : w.heap.size + 3 ≤ V.heap.size
  old : V.heap.size ≤ W.heap.size
  lt : g < w.heap.size
  new1 : V.heap.size ≤ p
  new2 : V.heap.size ≤ q
  ne : p ≠ q
  rev : W.heap[p]? = some (revO i rk id rx)
  row : W.heap[q]? = some (rowO id x)
theorem Rv15.step {w : World} {g c i : Nat} {S : St15} {k id : Int} {x : List UInt8} {V : World} {p q : Nat} {rk : Int} {rx : ByteArray} {W W' : World} (h : Rv15 w g c i S k id x V p q rk rx W) (hb : Below W.heap.size W W') : Rv15 w g c i S k id x V p q rk rx W' := ⟨h.bx.step hb, old_obj hb h.res, h.gt, Nat.le_trans h.old hb.size, h.lt, h.new1, h.new2, h.ne, old_obj hb h.rev, old_obj hb h.row⟩
theorem Rv15.drew {w : World} {g c i : Nat} {S : St15} {k id : Int} {x : List UInt8} {V : World} {p q : Nat} {rk : Int} {rx : ByteArray} {W : World} (h : Rv15 w g c i S k id x V p q rk rx W) : Rv15 w g c i S k id x V p q rk rx W.drew := h.step (Below.refl _ W).drew
theorem Rv15.facts {w : World} {g c i : Nat} {S : St15} {k id : Int} {x : List UInt8} {V : World} {p q : Nat} {rk : Int} {rx : ByteArray} {W : World} (h : Rv15 w g c i S k id x V p q rk rx W) : (W.cell? ⟨p, 0, none⟩ = some (.int .i64 i) ∧ W.cell? ⟨p, 1, none⟩ = some (.int .i64 rk) ∧ W.cell? ⟨p, 2, none⟩ = some (.int .i64 id) ∧ W.cell? ⟨p, 3, none⟩ = some (.string rx)) ∧ (W.cell? ⟨q, 0, none⟩ = some (.int .i64 id) ∧ W.cell? ⟨q, 1, none⟩ = some (.string (tx x))) ∧ W.frozen? ⟨p, 1, none⟩ = false ∧ W.frozen? ⟨p, 3, none⟩ = false :=
  ⟨⟨cell_of h.rev rfl, cell_of h.rev rfl, cell_of h.rev rfl, cell_of h.rev rfl⟩, ⟨cell_of h.row rfl, cell_of h.row rfl⟩, frozen_of_row _ _ 1 _ _ h.rev, frozen_of_row _ _ 3 _ _ h.rev⟩
theorem Rv15.boxes {w : World} {g c i : Nat} {S : St15} {k id : Int} {x : List UInt8} {V : World} {p q : Nat} {rk : Int} {rx : ByteArray} {W : World} (h : Rv15 w g c i S k id x V p q rk rx W) : W.cell? ⟨w.heap.size, 0, none⟩ = some (.slice (some ⟨g, 0, none⟩) S.length c) ∧ W.cell? ⟨w.heap.size + 1, 0, none⟩ = some (.int .i64 i) ∧ W.cell? ⟨w.heap.size + 1, 1, none⟩ = some (.int .i64 k) :=
  ⟨cell_of h.bx.st rfl, cell_of h.bx.op rfl, cell_of h.bx.op rfl⟩
theorem Rv15.resf {w : World} {g c i : Nat} {S : St15} {k id : Int} {x : List UInt8} {V : World} {p q : Nat} {rk : Int} {rx : ByteArray} {W : World} (h : Rv15 w g c i S k id x V p q rk rx W) : (W.cell? ⟨w.heap.size + 2, 0, none⟩ = some (.int .i64 0) ∧ W.cell? ⟨w.heap.size + 2, 1, none⟩ = some (.int .i64 0) ∧ W.cell? ⟨w.heap.size + 2, 2, none⟩ = some (.int .i64 0) ∧ W.cell? ⟨w.heap.size + 2, 3, none⟩ = some (.string ⟨#[]⟩)) ∧ W.frozen? ⟨w.heap.size + 2, 0, none⟩ = false ∧ W.frozen? ⟨w.heap.size + 2, 1, none⟩ = false ∧ W.frozen? ⟨w.heap.size + 2, 2, none⟩ = false ∧ W.frozen? ⟨w.heap.size + 2, 3, none⟩ = false :=
  ⟨⟨cell_of h.res rfl, cell_of h.res rfl, cell_of h.res rfl, cell_of h.res rfl⟩, frozen_of_row _ _ 0 _ _ h.res, frozen_of_row _ _ 1 _ _ h.res, frozen_of_row _ _ 2 _ _ h.res, frozen_of_row _ _ 3 _ _ h.res⟩
theorem Rv15.setp {w : World} {g c i : Nat} {S : St15} {k id : Int} {x : List UInt8} {V : World} {p q : Nat} {rk rk' : Int} {rx rx' : ByteArray} {W W' : World} (h : Rv15 w g c i S k id x V p q rk rx W) (hb : Below V.heap.size W W') (hq : W'.heap[q]? = W.heap[q]?) (hp : W'.heap[p]? = some (revO i rk' id rx')) : Rv15 w g c i S k id x V p q rk' rx' W' := by
  have hg := h.gt
  refine ⟨⟨h.bx.old.trans (hb.mono (by omega)), ?_, ?_⟩, ?_, h.gt, Nat.le_trans h.old hb.size, h.lt, h.new1, h.new2, h.ne, hp, by rw [hq]; exact h.row⟩
  · rw [hb.block _ (by omega)]; exact h.bx.st
  · rw [hb.block _ (by omega)]; exact h.bx.op
  · rw [hb.block _ (by omega)]; exact h.res
theorem Rv15.setk {w : World} {g c i : Nat} {S : St15} {k id : Int} {x : List UInt8} {V : World} {p q : Nat} {rk : Int} {rx : ByteArray} {W : World} (h : Rv15 w g c i S k id x V p q rk rx W) (rk' : Int) : Rv15 w g c i S k id x V p q rk' rx (W.setCell ⟨p, 1, none⟩ (.int .i64 rk')) :=
  h.setp ((Below.refl V.heap.size W).setCell (p := ⟨p, 1, none⟩) h.new1 _) (heap_set15 _ _ _ _ _ (fun e => h.ne e.symm)) (heap_setCell_same W p 1 _ _ _ h.rev)
theorem Rv15.setx {w : World} {g c i : Nat} {S : St15} {k id : Int} {x : List UInt8} {V : World} {p q : Nat} {rk : Int} {rx : ByteArray} {W : World} (h : Rv15 w g c i S k id x V p q rk rx W) (rx' : ByteArray) : Rv15 w g c i S k id x V p q rk rx' (W.setCell ⟨p, 3, none⟩ (.string rx')) :=
  h.setp ((Below.refl V.heap.size W).setCell (p := ⟨p, 3, none⟩) h.new1 _) (heap_set15 _ _ _ _ _ (fun e => h.ne e.symm)) (heap_setCell_same W p 3 _ _ _ h.rev)
/-- The table is stored. -/
theorem Rv15.setg {w : World} {g c i : Nat} {S : St15} {k id : Int} {x : List UInt8} {V : World} {p q : Nat} {rk : Int} {rx : ByteArray} {W : World} (h : Rv15 w g c i S k id x V p q rk rx W) (v : Value) :
    (W.setCell ⟨g, i, none⟩ v).heap[w.heap.size + 2]? = some zeroOp ∧ (W.setCell ⟨g, i, none⟩ v).heap[p]? = some (revO i rk id rx) := by
  have h1 := h.lt
  have h2 := h.gt
  have h3 := h.new1
  exact ⟨by rw [heap_set15 _ _ _ _ _ (by omega)]; exact h.res, by rw [heap_set15 _ _ _ _ _ (by omega)]; exact h.rev⟩
abbrev told15 (W : World) (r : Nat) (i : Nat) (rk id : Int) (rx : ByteArray) : World := (((W.setCell ⟨r, 0, none⟩ (.int .i64 i)).setCell ⟨r, 1, none⟩ (.int .i64 rk)).setCell ⟨r, 2, none⟩ (.int .i64 id)).setCell ⟨r, 3, none⟩ (.string rx)
theorem Rv15.done {w : World} {g c i : Nat} {S : St15} {k id : Int} {x : List UInt8} {V : World} {p q : Nat} {rk : Int} {rx : ByteArray} {W W5 : World} (H : Rv15 w g c i S k id x V p q rk rx W) (h : StO g S w) (hi : i < S.length) (hA : V.heap.size ≤ W5.heap.size) {aj : Option Addr} {cj : Nat} {T : Tb15} (hc : T.length ≤ cj) (hT : Els recE W5.heap.size W.heap.size W aj T) (hty : Ty15 aj W) :
    StO g (S.set i T) (told15 (W.setCell ⟨g, i, none⟩ (.slice aj T.length cj)) (w.heap.size + 2) i rk id rx) ∧ w.grownBy (told15 (W.setCell ⟨g, i, none⟩ (.slice aj T.length cj)) (w.heap.size + 2) i rk id rx) (some g) := by
  have h1 := H.lt
  have h2 := H.gt
  have hg : w.grownBy (told15 (W.setCell ⟨g, i, none⟩ (.slice aj T.length cj)) (w.heap.size + 2) i rk id rx) (some g) :=
    grown_more15 (grown_more15 (grown_more15 (grown_more15 (grown_set15 H.bx.old g i _) (by omega) 0 _) (by omega) 1 _) (by omega) 2 _) (by omega) 3 _
  refine ⟨h.after hg hi (aj := aj) (cj := cj) (fun arr ha => ?_) hc ?_ (((((hty.set g i _).set (w.heap.size + 2) 0 _).set (w.heap.size + 2) 1 _).set (w.heap.size + 2) 2 _).set (w.heap.size + 2) 3 _), hg⟩
  · unfold told15
    rw [heap_set15 _ _ _ _ _ (by omega), heap_set15 _ _ _ _ _ (by omega), heap_set15 _ _ _ _ _ (by omega), heap_set15 _ _ _ _ _ (by omega)]
    exact heap_setCell_same W g i _ _ _ ((H.bx.old.block g h1).trans ha)
  · have : Els recE W5.heap.size W.heap.size (told15 (W.setCell ⟨g, i, none⟩ (.slice aj T.length cj)) (w.heap.size + 2) i rk id rx) aj T :=
      ((((hT.set15 (p := ⟨g, i, none⟩) (by show g < _; omega) _).set15 (p := ⟨w.heap.size + 2, 0, none⟩) (by show w.heap.size + 2 < _; omega) _).set15 (p := ⟨w.heap.size + 2, 1, none⟩) (by show w.heap.size + 2 < _; omega) _).set15 (p := ⟨w.heap.size + 2, 2, none⟩) (by show w.heap.size + 2 < _; omega) _).set15 (p := ⟨w.heap.size + 2, 3, none⟩) (by show w.heap.size + 2 < _; omega) _
    exact this.wide (by omega) (by simp [World.size_setCell])
theorem rv_first {w : World} {g c i : Nat} {S : St15} {k id : Int} {x : List UInt8} {V : World} (h : Cg15 w g c S ⟨(i : Int), k, id, x⟩ V) (hl : g < w.heap.size) : Rv15 w g c i S k id x V V.heap.size (V.heap.size + 1) 0 ⟨#[]⟩ ((V.alloc (revO i 0 id ⟨#[]⟩)).alloc (rowO id x)).drew := by
  have hb := ((Below.refl _ V).alloc (Nat.le_refl _) (revO i 0 id ⟨#[]⟩)).alloc (by simp) (rowO id x)
  have h2 := (h.step hb)
  have h3 := obj_lt h.res
  exact (⟨h2.bx, h2.res, by omega, hb.size, hl, Nat.le_refl _, by omega, by omega, heap_alloc2_old V _ _, heap_alloc2_new V _ _⟩ : Rv15 w g c i S k id x V V.heap.size (V.heap.size + 1) 0 ⟨#[]⟩ ((V.alloc (revO i 0 id ⟨#[]⟩)).alloc (rowO id x))).drew
theorem rv_second {w : World} {g c i : Nat} {S : St15} {k id : Int} {x : List UInt8} {V : World} (h : Cg15 w g c S ⟨(i : Int), k, id, x⟩ V) (hl : g < w.heap.size) : Rv15 w g c i S k id x V (V.heap.size + 1) V.heap.size 0 ⟨#[]⟩ ((V.alloc (rowO id x)).alloc (revO i 0 id ⟨#[]⟩)).drew := by
  have hb := ((Below.refl _ V).alloc (Nat.le_refl _) (rowO id x)).alloc (by simp) (revO i 0 id ⟨#[]⟩)
  have h2 := (h.step hb)
  have h3 := obj_lt h.res
  exact (⟨h2.bx, h2.res, by omega, hb.size, hl, by omega, Nat.le_refl _, by omega, heap_alloc2_new V _ _, heap_alloc2_old V _ _⟩ : Rv15 w g c i S k id x V (V.heap.size + 1) V.heap.size 0 ⟨#[]⟩ ((V.alloc (rowO id x)).alloc (revO i 0 id ⟨#[]⟩))).drew
set_option maxRecDepth 100000 in
set_option maxHeartbeats 16000000 in
theorem pchange_new (g c i : Nat) (S : St15) (id : Int) (x : List UInt8) (w : World) (h : StO g S w) (hok : OkS S) (hE : preE S ⟨(i : Int), 1, id, x⟩ = 0) (hw : wrongT (tab S (i : Int)) ⟨(i : Int), 1, id, x⟩ = 0) :
    Calls Try.prog 59 #[stVal (some ⟨g, 0, none⟩) c S, .agg #[.int .i64 i, .int .i64 1, .int .i64 id, .string (tx x)]] w fun e w' => e = .returned (.tuple #[.agg #[.int .i64 i, .int .i64 3, .int .i64 id, .string ⟨#[]⟩], .int .i64 0]) ∧ StO g (S.set i ((tab S (i : Int)).take (atN (tab S (i : Int)) id) ++ [(id, x)] ++ (tab S (i : Int)).drop (atN (tab S (i : Int)) id))) w' ∧ w.grownBy w' (some g) := by
  have h0 : Cg15 w g c S ⟨(i : Int), 1, id, x⟩ (((w.alloc (.cells #[.slice (some ⟨g, 0, none⟩) S.length c] 24)).alloc (.cells #[.int .i64 i, .int .i64 1, .int .i64 id, .string (tx x)] 69)).alloc zeroOp) := Cg15.start c _ h
  have H0 := Lib.hid h0
  have HST := Lib.hid h
  obtain ⟨_, ⟨_, hti⟩, _⟩ := pre_ok hE
  have hti : (i : Int) < (S.length : Int) := hti
  have hlt : i < S.length := by omega
  have HLT := Lib.hid hlt
  have hokT : OkT (tab S (i : Int)) := hok.tab _ (by rw [tab_at hlt]; exact List.getElem_mem hlt)
  have hl60 := hokT.len
  obtain ⟨aj, cj, hcell, hcap, hels, hfz⟩ := h.at hlt
  have HLD : Hid (∀ W, Cg15 w g c S ⟨(i : Int), 1, id, x⟩ W → W.cell? ⟨w.heap.size, 0, none⟩ = some (.slice (some ⟨g, 0, none⟩) S.length c) ∧ W.cell? ⟨w.heap.size + 1, 0, none⟩ = some (.int .i64 i) ∧ W.cell? ⟨w.heap.size + 1, 1, none⟩ = some (.int .i64 1) ∧ W.cell? ⟨w.heap.size + 1, 2, none⟩ = some (.int .i64 id) ∧ W.cell? ⟨w.heap.size + 1, 3, none⟩ = some (.string (tx x)) ∧ W.cell? ⟨g, i, none⟩ = some (.slice aj (tab S (i : Int)).length cj)) := Lib.hid fun W hW => hW.loads hlt hcell
  have HCE : Hid (∀ W, Below w.heap.size w W → W.cell? ⟨g, i, none⟩ = some (.slice aj (tab S (i : Int)).length cj) ∧ W.frozen? ⟨g, i, none⟩ = false) := Lib.hid fun W hW => by
    obtain ⟨arr, ha, _, _⟩ := h
    exact ⟨(hW.cell (p := ⟨g, i, none⟩) (obj_lt ha)).trans hcell, frozen_of_row _ _ i _ _ ((hW.block g (obj_lt ha)).trans ha)⟩
  have HC : Hid (∀ W, Calls Try.prog 82 #[stVal (some ⟨g, 0, none⟩) c S, .agg #[.int .i64 i, .int .i64 1, .int .i64 id, .string (tx x)]] W fun e w' => e = .returned (.int .i64 0) ∧ Below W.heap.size W w') := Lib.hid fun W => by
    have := pchk15_any (some ⟨g, 0, none⟩) c S ⟨(i : Int), 1, id, x⟩ W
    rw [hE] at this
    exact this
  have HF : Hid (∀ W, Cg15 w g c S ⟨(i : Int), 1, id, x⟩ W → Calls Try.prog 35 #[.slice aj (tab S (i : Int)).length cj, .int .i64 id] W fun e w' => e = .returned (.tuple #[.int .i64 (atN (tab S (i : Int)) id : Nat), .bool (hasT (tab S (i : Int)) id)]) ∧ Below W.heap.size W w') := Lib.hid fun W hW => pfind15_any aj cj (tab S (i : Int)) id (g + 1) W (hels.step hW.bx.old) (by omega)
  obtain ⟨b0, b1, b2, b3, b4, b5⟩ := HLD.out _ h0
  have i3 : (0 : Int) ≤ (i : Int) := by omega
  have hq : hasT (tab S (i : Int)) id = false := by
    cases z : hasT (tab S (i : Int)) id with
    | false => rfl
    | true => exfalso; unfold wrongT at hw; rw [if_pos ⟨rfl, z⟩] at hw; omega
  have hl : (tab S (i : Int)).length ≠ 60 := fun z => by
    unfold wrongT at hw
    rw [if_neg (fun e => by have := e.2; rw [hq] at this; cases this), if_pos ⟨rfl, by omega⟩] at hw
    omega
  have j1 : (((tab S (i : Int)).length : Int) == 60) = false := beq_eq_false_iff_ne.2 (by omega)
  have j2 : ((tab S (i : Int)).length == 60) = false := beq_eq_false_iff_ne.2 hl
  have j3 : ¬ ((tab S (i : Int)).length : Int) = 60 := by omega
  have HFN : Hid (∀ W, Below w.heap.size w W → Calls Try.prog 83 #[.slice aj (tab S (i : Int)).length cj, .int .i64 (atN (tab S (i : Int)) id : Nat), recVal (id, x)] W fun e w' => TabOut W e w' ((tab S (i : Int)).take (atN (tab S (i : Int)) id) ++ [(id, x)] ++ (tab S (i : Int)).drop (atN (tab S (i : Int)) id))) := Lib.hid fun W hW => pwith_rec aj cj (atN (tab S (i : Int)) id) (id, x) (tab S (i : Int)) (g + 1) W hcap (at_le _ _) (by omega) (hels.step hW)
  rw [hq] at HF
  clear h0 h hE hels hcap hcell hokT hok hlt hw hq hfz hl60 hl
  obtain ⟨T2, hT2⟩ : ∃ T2, ((tab S (i : Int)).take (atN (tab S (i : Int)) id) ++ [(id, x)] ++ (tab S (i : Int)).drop (atN (tab S (i : Int)) id)) = T2 := ⟨_, rfl⟩
  rw [hT2] at HFN ⊢
  clear hT2
  generalize atN (tab S (i : Int)) id = q at *
  generalize tab S (i : Int) = T at *
  go_enter Try.func59, Try.ntmps59
  go_upto_region 12 with (first
    | (go_at_call 82; refine (HC.out _).mono ?_; rintro e w2 ⟨rfl, hb⟩; have H2 := Lib.hid (H0.out.step hb); obtain ⟨d0, d1, d2, d3, d4, d5⟩ := HLD.out _ H2.out; clear hb b0 b1 b2 b3 b4 b5)
    | (go_at_call 35; refine (HF.out _ H2.out).mono ?_; rintro e w3 ⟨rfl, hb⟩; have H3 := Lib.hid (H2.out.step hb); obtain ⟨e0, e1, e2, e3, e4, e5⟩ := HLD.out _ H3.out; clear hb d0 d1 d2 d3 d4 d5))
  have hlt1 := World.block_lt_of_cell? w3 _ e1
  have m1 : ¬ (w.heap.size + 1 = w3.heap.size) := by simp at hlt1; omega
  have m2 : ¬ (w3.heap.size = w.heap.size + 1) := fun e => m1 e.symm
  have m3 : ¬ (w.heap.size + 1 = w3.heap.size + 1) := by simp at hlt1; omega
  have m4 : ¬ (w3.heap.size + 1 = w.heap.size + 1) := fun e => m3 e.symm
  clear hlt1
  go_cut [10, 11] (fun s10 s11 wx => ∃ (p r : Nat), s10 = .pointer (some ⟨p, 0, none⟩) ∧ s11 = .pointer (some ⟨r, 0, none⟩) ∧ Hid (Rv15 w g c i S 1 id x w3 p r 0 ⟨#[]⟩ wx))
  case first =>
    go_region_held3 (fun v => v.cell? ⟨w.heap.size + 1, 0, none⟩ = some (.int .i64 i) ∧ v.cell? ⟨w.heap.size + 1, 2, none⟩ = some (.int .i64 id) ∧ v.cell? ⟨w.heap.size + 1, 3, none⟩ = some (.string (tx x))) (first | go_keep) (fail)
    · go_wp2_with fail
      go_meet
      exact ⟨_, _, rfl, rfl, Lib.hid (rv_first H3.out HST.out.lt)⟩
    · go_wp2_with fail
      go_meet
      exact ⟨_, _, rfl, rfl, Lib.hid (rv_second H3.out HST.out.lt)⟩
  case rest =>
    obtain ⟨p, r, rfl, rfl, H4⟩ := hcut
    clear e0 e1 e2 e3 e4 e5 m1 m2 m3 m4 H2 H0
    obtain ⟨⟨p0, p1, p2, p3⟩, ⟨r0, r1⟩, f1, f3⟩ := H4.out.facts
    obtain ⟨x0, x1, x2⟩ := H4.out.boxes
    go_upto_region 16 with fail
    have H5 := Lib.hid (H4.out.setk 3)
    generalize wc.setCell ⟨p, 1, none⟩ (.int .i64 3) = W5 at *
    clear p0 p1 p2 p3 r0 r1 f1 f3 x0 x1 x2
    obtain ⟨_, ⟨r0, r1⟩, _, _⟩ := H5.out.facts
    go_upto_region 23 with (go_at_call 83; refine (HFN.out _ H5.out.bx.old).mono ?_; rintro e w6 ⟨a6, c6, rfl, hc6, he6, hb, hty⟩; have H6 := Lib.hid (H5.out.step hb); have N6 := Lib.hid (And.intro hc6 (And.intro he6 hty)); clear hb hc6 he6 hty)
    obtain ⟨x3, x4, x5⟩ := H6.out.boxes
    obtain ⟨g0, g1⟩ := HCE.out _ H6.out.bx.old
    go_upto_region 24 with fail
    have G7 := Lib.hid (H6.out.setg (.slice a6 T2.length c6))
    have HD := Lib.hid (H6.out.done HST.out HLT.out H5.out.old N6.out.1 N6.out.2.1 N6.out.2.2)
    clear x3 x4 x5 g0 g1
    generalize w6.setCell ⟨g, i, none⟩ (.slice a6 T2.length c6) = W7 at *
    have s0 := cell_of G7.out.2 (j := 0) rfl
    have s1 := cell_of G7.out.2 (j := 1) rfl
    have s2 := cell_of G7.out.2 (j := 2) rfl
    have s3 := cell_of G7.out.2 (j := 3) rfl
    have z0 := cell_of G7.out.1 (j := 0) rfl
    have z1 := cell_of G7.out.1 (j := 1) rfl
    have z2 := cell_of G7.out.1 (j := 2) rfl
    have z3 := cell_of G7.out.1 (j := 3) rfl
    have y0 := frozen_of_row _ _ 0 _ _ G7.out.1
    have y1 := frozen_of_row _ _ 1 _ _ G7.out.1
    have y2 := frozen_of_row _ _ 2 _ _ G7.out.1
    have y3 := frozen_of_row _ _ 3 _ _ G7.out.1
    go_wp2
    refine bodyPost_ret (results_row_slot rfl _ _ (w.heap.size + 2) _ rfl (opl_load (four_put15 G7.out.1 _ _ _ _))) rfl ?_
    exact ⟨rfl, HD.out.1, HD.out.2⟩
set_option maxRecDepth 100000 in
set_option maxHeartbeats 16000000 in
theorem pchange_set (g c i : Nat) (S : St15) (id : Int) (x : List UInt8) (w : World) (h : StO g S w) (hok : OkS S) (hE : preE S ⟨(i : Int), 2, id, x⟩ = 0) (hw : wrongT (tab S (i : Int)) ⟨(i : Int), 2, id, x⟩ = 0) :
    Calls Try.prog 59 #[stVal (some ⟨g, 0, none⟩) c S, .agg #[.int .i64 i, .int .i64 2, .int .i64 id, .string (tx x)]] w fun e w' => e = .returned (.tuple #[.agg #[.int .i64 i, .int .i64 2, .int .i64 id, .string (tx (recAt (tab S (i : Int)) (atN (tab S (i : Int)) id)).2)], .int .i64 0]) ∧ StO g (S.set i ((tab S (i : Int)).take (atN (tab S (i : Int)) id) ++ [(id, x)] ++ (tab S (i : Int)).drop ((atN (tab S (i : Int)) id) + 1))) w' ∧ w.grownBy w' (some g) := by
  have h0 : Cg15 w g c S ⟨(i : Int), 2, id, x⟩ (((w.alloc (.cells #[.slice (some ⟨g, 0, none⟩) S.length c] 24)).alloc (.cells #[.int .i64 i, .int .i64 2, .int .i64 id, .string (tx x)] 69)).alloc zeroOp) := Cg15.start c _ h
  have H0 := Lib.hid h0
  have HST := Lib.hid h
  obtain ⟨_, ⟨_, hti⟩, _⟩ := pre_ok hE
  have hti : (i : Int) < (S.length : Int) := hti
  have hlt : i < S.length := by omega
  have HLT := Lib.hid hlt
  have hokT : OkT (tab S (i : Int)) := hok.tab _ (by rw [tab_at hlt]; exact List.getElem_mem hlt)
  have hl60 := hokT.len
  obtain ⟨aj, cj, hcell, hcap, hels, hfz⟩ := h.at hlt
  have HLD : Hid (∀ W, Cg15 w g c S ⟨(i : Int), 2, id, x⟩ W → W.cell? ⟨w.heap.size, 0, none⟩ = some (.slice (some ⟨g, 0, none⟩) S.length c) ∧ W.cell? ⟨w.heap.size + 1, 0, none⟩ = some (.int .i64 i) ∧ W.cell? ⟨w.heap.size + 1, 1, none⟩ = some (.int .i64 2) ∧ W.cell? ⟨w.heap.size + 1, 2, none⟩ = some (.int .i64 id) ∧ W.cell? ⟨w.heap.size + 1, 3, none⟩ = some (.string (tx x)) ∧ W.cell? ⟨g, i, none⟩ = some (.slice aj (tab S (i : Int)).length cj)) := Lib.hid fun W hW => hW.loads hlt hcell
  have HCE : Hid (∀ W, Below w.heap.size w W → W.cell? ⟨g, i, none⟩ = some (.slice aj (tab S (i : Int)).length cj) ∧ W.frozen? ⟨g, i, none⟩ = false) := Lib.hid fun W hW => by
    obtain ⟨arr, ha, _, _⟩ := h
    exact ⟨(hW.cell (p := ⟨g, i, none⟩) (obj_lt ha)).trans hcell, frozen_of_row _ _ i _ _ ((hW.block g (obj_lt ha)).trans ha)⟩
  have HC : Hid (∀ W, Calls Try.prog 82 #[stVal (some ⟨g, 0, none⟩) c S, .agg #[.int .i64 i, .int .i64 2, .int .i64 id, .string (tx x)]] W fun e w' => e = .returned (.int .i64 0) ∧ Below W.heap.size W w') := Lib.hid fun W => by
    have := pchk15_any (some ⟨g, 0, none⟩) c S ⟨(i : Int), 2, id, x⟩ W
    rw [hE] at this
    exact this
  have HF : Hid (∀ W, Cg15 w g c S ⟨(i : Int), 2, id, x⟩ W → Calls Try.prog 35 #[.slice aj (tab S (i : Int)).length cj, .int .i64 id] W fun e w' => e = .returned (.tuple #[.int .i64 (atN (tab S (i : Int)) id : Nat), .bool (hasT (tab S (i : Int)) id)]) ∧ Below W.heap.size W w') := Lib.hid fun W hW => pfind15_any aj cj (tab S (i : Int)) id (g + 1) W (hels.step hW.bx.old) (by omega)
  obtain ⟨b0, b1, b2, b3, b4, b5⟩ := HLD.out _ h0
  have i3 : (0 : Int) ≤ (i : Int) := by omega
  have hq : hasT (tab S (i : Int)) id = true := by
    cases z : hasT (tab S (i : Int)) id with
    | true => rfl
    | false => exfalso; unfold wrongT at hw; rw [if_neg (fun e => absurd (show (2 : Int) = 1 from e.1) (by decide)), if_neg (fun e => absurd (show (2 : Int) = 1 from e.1) (by decide)), if_pos ⟨show (1 : Int) < 2 by decide, z⟩] at hw; omega
  have hat := (at_has hq).1
  have k1 : ((atN (tab S (i : Int)) id : Nat) : Int) < ((tab S (i : Int)).length : Int) := by omega
  have k3 : (0 : Int) ≤ ((atN (tab S (i : Int)) id : Nat) : Int) := by omega
  obtain ⟨tb, toff, taj, htb, _, t0⟩ := recs_at hels hat
  have HTX : Hid (∀ W, Below w.heap.size w W → W.cell? ⟨tb, toff + atN (tab S (i : Int)) id * 2 + 1, none⟩ = some (.string (tx (recAt (tab S (i : Int)) (atN (tab S (i : Int)) id)).2))) := Lib.hid fun W hW => (hW.cell (p := ⟨tb, toff + atN (tab S (i : Int)) id * 2 + 1, none⟩) htb).trans t0
  have HTB := Lib.hid htb
  clear t0 htb
  subst taj
  have HFN : Hid (∀ W, Below w.heap.size w W → Calls Try.prog 84 #[.slice (some ⟨tb, toff, none⟩) (tab S (i : Int)).length cj, .int .i64 (atN (tab S (i : Int)) id : Nat), recVal (id, x)] W fun e w' => TabOut W e w' ((tab S (i : Int)).take (atN (tab S (i : Int)) id) ++ [(id, x)] ++ (tab S (i : Int)).drop ((atN (tab S (i : Int)) id) + 1))) := Lib.hid fun W hW => pset_rec (some ⟨tb, toff, none⟩) cj (atN (tab S (i : Int)) id) (id, x) (tab S (i : Int)) (g + 1) W hcap hat (by omega) (hels.step hW)
  rw [hq] at HF
  clear h0 h hE hels hcap hcell hokT hok hlt hw hq hfz hl60 hat
  obtain ⟨T2, hT2⟩ : ∃ T2, ((tab S (i : Int)).take (atN (tab S (i : Int)) id) ++ [(id, x)] ++ (tab S (i : Int)).drop ((atN (tab S (i : Int)) id) + 1)) = T2 := ⟨_, rfl⟩
  rw [hT2] at HFN ⊢
  clear hT2
  obtain ⟨X, hX⟩ : ∃ X, tx (recAt (tab S (i : Int)) (atN (tab S (i : Int)) id)).2 = X := ⟨_, rfl⟩
  rw [hX] at HTX ⊢
  clear hX
  generalize atN (tab S (i : Int)) id = q at *
  generalize tab S (i : Int) = T at *
  go_enter Try.func59, Try.ntmps59
  go_upto_region 12 with (first
    | (go_at_call 82; refine (HC.out _).mono ?_; rintro e w2 ⟨rfl, hb⟩; have H2 := Lib.hid (H0.out.step hb); obtain ⟨d0, d1, d2, d3, d4, d5⟩ := HLD.out _ H2.out; clear hb b0 b1 b2 b3 b4 b5)
    | (go_at_call 35; refine (HF.out _ H2.out).mono ?_; rintro e w3 ⟨rfl, hb⟩; have H3 := Lib.hid (H2.out.step hb); obtain ⟨e0, e1, e2, e3, e4, e5⟩ := HLD.out _ H3.out; clear hb d0 d1 d2 d3 d4 d5))
  have hlt1 := World.block_lt_of_cell? w3 _ e1
  have m1 : ¬ (w.heap.size + 1 = w3.heap.size) := by simp at hlt1; omega
  have m2 : ¬ (w3.heap.size = w.heap.size + 1) := fun e => m1 e.symm
  have m3 : ¬ (w.heap.size + 1 = w3.heap.size + 1) := by simp at hlt1; omega
  have m4 : ¬ (w3.heap.size + 1 = w.heap.size + 1) := fun e => m3 e.symm
  clear hlt1
  go_cut [10, 11] (fun s10 s11 wx => ∃ (p r : Nat), s10 = .pointer (some ⟨p, 0, none⟩) ∧ s11 = .pointer (some ⟨r, 0, none⟩) ∧ Hid (Rv15 w g c i S 2 id x w3 p r 0 ⟨#[]⟩ wx))
  case first =>
    go_region_held3 (fun v => v.cell? ⟨w.heap.size + 1, 0, none⟩ = some (.int .i64 i) ∧ v.cell? ⟨w.heap.size + 1, 2, none⟩ = some (.int .i64 id) ∧ v.cell? ⟨w.heap.size + 1, 3, none⟩ = some (.string (tx x))) (first | go_keep) (fail)
    · go_wp2_with fail
      go_meet
      exact ⟨_, _, rfl, rfl, Lib.hid (rv_first H3.out HST.out.lt)⟩
    · go_wp2_with fail
      go_meet
      exact ⟨_, _, rfl, rfl, Lib.hid (rv_second H3.out HST.out.lt)⟩
  case rest =>
    obtain ⟨p, r, rfl, rfl, H4⟩ := hcut
    clear e0 e1 e2 e3 e4 e5 m1 m2 m3 m4 H2 H0
    obtain ⟨⟨p0, p1, p2, p3⟩, ⟨r0, r1⟩, f1, f3⟩ := H4.out.facts
    obtain ⟨x0, x1, x2⟩ := H4.out.boxes
    go_upto_region 18 with fail
    have tx0 := HTX.out _ H4.out.bx.old
    have n1 : ¬ (tb = p) := by have := HTB.out; have := H4.out.gt; have := H4.out.new1; omega
    have n2 : ¬ (p = tb) := fun e => n1 e.symm
    go_cut [7] (fun s7 wx => s7 = .slice (some ⟨tb, toff, none⟩) T.length cj ∧ Hid (Rv15 w g c i S 2 id x w3 p r 2 X wx))
    case first =>
      go_region_held3 (fun v => v.cell? ⟨tb, toff + q * 2 + 1, none⟩ = some (.string X)) (first | go_keep) (fail)
      all_goals
        go_wp2_with fail
        go_meet
        exact ⟨rfl, Lib.hid ((H4.out.setk 2).setx X).drew⟩
    case rest =>
    obtain ⟨rfl, H5⟩ := hcut
    clear p0 p1 p2 p3 r0 r1 f1 f3 x0 x1 x2 tx0 n1 n2 H4
    obtain ⟨_, ⟨r0, r1⟩, _, _⟩ := H5.out.facts
    obtain ⟨x0, x1, x2⟩ := H5.out.boxes
    go_upto_region 23 with (go_at_call 84; refine (HFN.out _ H5.out.bx.old).mono ?_; rintro e w6 ⟨a6, c6, rfl, hc6, he6, hb, hty⟩; have H6 := Lib.hid (H5.out.step hb); have N6 := Lib.hid (And.intro hc6 (And.intro he6 hty)); clear hb hc6 he6 hty)
    obtain ⟨x3, x4, x5⟩ := H6.out.boxes
    obtain ⟨g0, g1⟩ := HCE.out _ H6.out.bx.old
    go_upto_region 24 with fail
    have G7 := Lib.hid (H6.out.setg (.slice a6 T2.length c6))
    have HD := Lib.hid (H6.out.done HST.out HLT.out H5.out.old N6.out.1 N6.out.2.1 N6.out.2.2)
    clear x3 x4 x5 g0 g1
    generalize w6.setCell ⟨g, i, none⟩ (.slice a6 T2.length c6) = W7 at *
    have s0 := cell_of G7.out.2 (j := 0) rfl
    have s1 := cell_of G7.out.2 (j := 1) rfl
    have s2 := cell_of G7.out.2 (j := 2) rfl
    have s3 := cell_of G7.out.2 (j := 3) rfl
    have z0 := cell_of G7.out.1 (j := 0) rfl
    have z1 := cell_of G7.out.1 (j := 1) rfl
    have z2 := cell_of G7.out.1 (j := 2) rfl
    have z3 := cell_of G7.out.1 (j := 3) rfl
    have y0 := frozen_of_row _ _ 0 _ _ G7.out.1
    have y1 := frozen_of_row _ _ 1 _ _ G7.out.1
    have y2 := frozen_of_row _ _ 2 _ _ G7.out.1
    have y3 := frozen_of_row _ _ 3 _ _ G7.out.1
    go_wp2
    refine bodyPost_ret (results_row_slot rfl _ _ (w.heap.size + 2) _ rfl (opl_load (four_put15 G7.out.1 _ _ _ _))) rfl ?_
    exact ⟨rfl, HD.out.1, HD.out.2⟩
set_option maxRecDepth 100000 in
set_option maxHeartbeats 16000000 in
theorem pchange_drop (g c i : Nat) (S : St15) (id : Int) (x : List UInt8) (w : World) (h : StO g S w) (hok : OkS S) (hE : preE S ⟨(i : Int), 3, id, x⟩ = 0) (hw : wrongT (tab S (i : Int)) ⟨(i : Int), 3, id, x⟩ = 0) :
    Calls Try.prog 59 #[stVal (some ⟨g, 0, none⟩) c S, .agg #[.int .i64 i, .int .i64 3, .int .i64 id, .string (tx x)]] w fun e w' => e = .returned (.tuple #[.agg #[.int .i64 i, .int .i64 1, .int .i64 id, .string (tx (recAt (tab S (i : Int)) (atN (tab S (i : Int)) id)).2)], .int .i64 0]) ∧ StO g (S.set i ((tab S (i : Int)).take (atN (tab S (i : Int)) id) ++ (tab S (i : Int)).drop ((atN (tab S (i : Int)) id) + 1))) w' ∧ w.grownBy w' (some g) := by
  have h0 : Cg15 w g c S ⟨(i : Int), 3, id, x⟩ (((w.alloc (.cells #[.slice (some ⟨g, 0, none⟩) S.length c] 24)).alloc (.cells #[.int .i64 i, .int .i64 3, .int .i64 id, .string (tx x)] 69)).alloc zeroOp) := Cg15.start c _ h
  have H0 := Lib.hid h0
  have HST := Lib.hid h
  obtain ⟨_, ⟨_, hti⟩, _⟩ := pre_ok hE
  have hti : (i : Int) < (S.length : Int) := hti
  have hlt : i < S.length := by omega
  have HLT := Lib.hid hlt
  have hokT : OkT (tab S (i : Int)) := hok.tab _ (by rw [tab_at hlt]; exact List.getElem_mem hlt)
  have hl60 := hokT.len
  obtain ⟨aj, cj, hcell, hcap, hels, hfz⟩ := h.at hlt
  have HLD : Hid (∀ W, Cg15 w g c S ⟨(i : Int), 3, id, x⟩ W → W.cell? ⟨w.heap.size, 0, none⟩ = some (.slice (some ⟨g, 0, none⟩) S.length c) ∧ W.cell? ⟨w.heap.size + 1, 0, none⟩ = some (.int .i64 i) ∧ W.cell? ⟨w.heap.size + 1, 1, none⟩ = some (.int .i64 3) ∧ W.cell? ⟨w.heap.size + 1, 2, none⟩ = some (.int .i64 id) ∧ W.cell? ⟨w.heap.size + 1, 3, none⟩ = some (.string (tx x)) ∧ W.cell? ⟨g, i, none⟩ = some (.slice aj (tab S (i : Int)).length cj)) := Lib.hid fun W hW => hW.loads hlt hcell
  have HCE : Hid (∀ W, Below w.heap.size w W → W.cell? ⟨g, i, none⟩ = some (.slice aj (tab S (i : Int)).length cj) ∧ W.frozen? ⟨g, i, none⟩ = false) := Lib.hid fun W hW => by
    obtain ⟨arr, ha, _, _⟩ := h
    exact ⟨(hW.cell (p := ⟨g, i, none⟩) (obj_lt ha)).trans hcell, frozen_of_row _ _ i _ _ ((hW.block g (obj_lt ha)).trans ha)⟩
  have HC : Hid (∀ W, Calls Try.prog 82 #[stVal (some ⟨g, 0, none⟩) c S, .agg #[.int .i64 i, .int .i64 3, .int .i64 id, .string (tx x)]] W fun e w' => e = .returned (.int .i64 0) ∧ Below W.heap.size W w') := Lib.hid fun W => by
    have := pchk15_any (some ⟨g, 0, none⟩) c S ⟨(i : Int), 3, id, x⟩ W
    rw [hE] at this
    exact this
  have HF : Hid (∀ W, Cg15 w g c S ⟨(i : Int), 3, id, x⟩ W → Calls Try.prog 35 #[.slice aj (tab S (i : Int)).length cj, .int .i64 id] W fun e w' => e = .returned (.tuple #[.int .i64 (atN (tab S (i : Int)) id : Nat), .bool (hasT (tab S (i : Int)) id)]) ∧ Below W.heap.size W w') := Lib.hid fun W hW => pfind15_any aj cj (tab S (i : Int)) id (g + 1) W (hels.step hW.bx.old) (by omega)
  obtain ⟨b0, b1, b2, b3, b4, b5⟩ := HLD.out _ h0
  have i3 : (0 : Int) ≤ (i : Int) := by omega
  have hq : hasT (tab S (i : Int)) id = true := by
    cases z : hasT (tab S (i : Int)) id with
    | true => rfl
    | false => exfalso; unfold wrongT at hw; rw [if_neg (fun e => absurd (show (3 : Int) = 1 from e.1) (by decide)), if_neg (fun e => absurd (show (3 : Int) = 1 from e.1) (by decide)), if_pos ⟨show (1 : Int) < 3 by decide, z⟩] at hw; omega
  have hat := (at_has hq).1
  have k1 : ((atN (tab S (i : Int)) id : Nat) : Int) < ((tab S (i : Int)).length : Int) := by omega
  have k3 : (0 : Int) ≤ ((atN (tab S (i : Int)) id : Nat) : Int) := by omega
  obtain ⟨tb, toff, taj, htb, _, t0⟩ := recs_at hels hat
  have HTX : Hid (∀ W, Below w.heap.size w W → W.cell? ⟨tb, toff + atN (tab S (i : Int)) id * 2 + 1, none⟩ = some (.string (tx (recAt (tab S (i : Int)) (atN (tab S (i : Int)) id)).2))) := Lib.hid fun W hW => (hW.cell (p := ⟨tb, toff + atN (tab S (i : Int)) id * 2 + 1, none⟩) htb).trans t0
  have HTB := Lib.hid htb
  clear t0 htb
  subst taj
  have HFN : Hid (∀ W, Below w.heap.size w W → Calls Try.prog 85 #[.slice (some ⟨tb, toff, none⟩) (tab S (i : Int)).length cj, .int .i64 (atN (tab S (i : Int)) id : Nat)] W fun e w' => TabOut W e w' ((tab S (i : Int)).take (atN (tab S (i : Int)) id) ++ (tab S (i : Int)).drop ((atN (tab S (i : Int)) id) + 1))) := Lib.hid fun W hW => pless_rec (some ⟨tb, toff, none⟩) cj (atN (tab S (i : Int)) id) (tab S (i : Int)) (g + 1) W hcap hat (by omega) (hels.step hW)
  rw [hq] at HF
  clear h0 h hE hels hcap hcell hokT hok hlt hw hq hfz hl60 hat
  obtain ⟨T2, hT2⟩ : ∃ T2, ((tab S (i : Int)).take (atN (tab S (i : Int)) id) ++ (tab S (i : Int)).drop ((atN (tab S (i : Int)) id) + 1)) = T2 := ⟨_, rfl⟩
  rw [hT2] at HFN ⊢
  clear hT2
  obtain ⟨X, hX⟩ : ∃ X, tx (recAt (tab S (i : Int)) (atN (tab S (i : Int)) id)).2 = X := ⟨_, rfl⟩
  rw [hX] at HTX ⊢
  clear hX
  generalize atN (tab S (i : Int)) id = q at *
  generalize tab S (i : Int) = T at *
  go_enter Try.func59, Try.ntmps59
  go_upto_region 12 with (first
    | (go_at_call 82; refine (HC.out _).mono ?_; rintro e w2 ⟨rfl, hb⟩; have H2 := Lib.hid (H0.out.step hb); obtain ⟨d0, d1, d2, d3, d4, d5⟩ := HLD.out _ H2.out; clear hb b0 b1 b2 b3 b4 b5)
    | (go_at_call 35; refine (HF.out _ H2.out).mono ?_; rintro e w3 ⟨rfl, hb⟩; have H3 := Lib.hid (H2.out.step hb); obtain ⟨e0, e1, e2, e3, e4, e5⟩ := HLD.out _ H3.out; clear hb d0 d1 d2 d3 d4 d5))
  have hlt1 := World.block_lt_of_cell? w3 _ e1
  have m1 : ¬ (w.heap.size + 1 = w3.heap.size) := by simp at hlt1; omega
  have m2 : ¬ (w3.heap.size = w.heap.size + 1) := fun e => m1 e.symm
  have m3 : ¬ (w.heap.size + 1 = w3.heap.size + 1) := by simp at hlt1; omega
  have m4 : ¬ (w3.heap.size + 1 = w.heap.size + 1) := fun e => m3 e.symm
  clear hlt1
  go_cut [10, 11] (fun s10 s11 wx => ∃ (p r : Nat), s10 = .pointer (some ⟨p, 0, none⟩) ∧ s11 = .pointer (some ⟨r, 0, none⟩) ∧ Hid (Rv15 w g c i S 3 id x w3 p r 0 ⟨#[]⟩ wx))
  case first =>
    go_region_held3 (fun v => v.cell? ⟨w.heap.size + 1, 0, none⟩ = some (.int .i64 i) ∧ v.cell? ⟨w.heap.size + 1, 2, none⟩ = some (.int .i64 id) ∧ v.cell? ⟨w.heap.size + 1, 3, none⟩ = some (.string (tx x))) (first | go_keep) (fail)
    · go_wp2_with fail
      go_meet
      exact ⟨_, _, rfl, rfl, Lib.hid (rv_first H3.out HST.out.lt)⟩
    · go_wp2_with fail
      go_meet
      exact ⟨_, _, rfl, rfl, Lib.hid (rv_second H3.out HST.out.lt)⟩
  case rest =>
    obtain ⟨p, r, rfl, rfl, H4⟩ := hcut
    clear e0 e1 e2 e3 e4 e5 m1 m2 m3 m4 H2 H0
    obtain ⟨⟨p0, p1, p2, p3⟩, ⟨r0, r1⟩, f1, f3⟩ := H4.out.facts
    obtain ⟨x0, x1, x2⟩ := H4.out.boxes
    go_upto_region 21 with fail
    have tx0 := HTX.out _ H4.out.bx.old
    have n1 : ¬ (tb = p) := by have := HTB.out; have := H4.out.gt; have := H4.out.new1; omega
    have n2 : ¬ (p = tb) := fun e => n1 e.symm
    go_cut [7] (fun s7 wx => s7 = .slice (some ⟨tb, toff, none⟩) T.length cj ∧ Hid (Rv15 w g c i S 3 id x w3 p r 1 X wx))
    case first =>
      go_region_held3 (fun v => v.cell? ⟨tb, toff + q * 2 + 1, none⟩ = some (.string X)) (first | go_keep) (fail)
      all_goals
        go_wp2_with fail
        go_meet
        exact ⟨rfl, Lib.hid ((H4.out.setk 1).setx X).drew⟩
    case rest =>
    obtain ⟨rfl, H5⟩ := hcut
    clear p0 p1 p2 p3 r0 r1 f1 f3 x0 x1 x2 tx0 n1 n2 H4
    obtain ⟨_, ⟨r0, r1⟩, _, _⟩ := H5.out.facts
    obtain ⟨x0, x1, x2⟩ := H5.out.boxes
    go_upto_region 23 with (go_at_call 85; refine (HFN.out _ H5.out.bx.old).mono ?_; rintro e w6 ⟨a6, c6, rfl, hc6, he6, hb, hty⟩; have H6 := Lib.hid (H5.out.step hb); have N6 := Lib.hid (And.intro hc6 (And.intro he6 hty)); clear hb hc6 he6 hty)
    obtain ⟨x3, x4, x5⟩ := H6.out.boxes
    obtain ⟨g0, g1⟩ := HCE.out _ H6.out.bx.old
    go_upto_region 24 with fail
    have G7 := Lib.hid (H6.out.setg (.slice a6 T2.length c6))
    have HD := Lib.hid (H6.out.done HST.out HLT.out H5.out.old N6.out.1 N6.out.2.1 N6.out.2.2)
    clear x3 x4 x5 g0 g1
    generalize w6.setCell ⟨g, i, none⟩ (.slice a6 T2.length c6) = W7 at *
    have s0 := cell_of G7.out.2 (j := 0) rfl
    have s1 := cell_of G7.out.2 (j := 1) rfl
    have s2 := cell_of G7.out.2 (j := 2) rfl
    have s3 := cell_of G7.out.2 (j := 3) rfl
    have z0 := cell_of G7.out.1 (j := 0) rfl
    have z1 := cell_of G7.out.1 (j := 1) rfl
    have z2 := cell_of G7.out.1 (j := 2) rfl
    have z3 := cell_of G7.out.1 (j := 3) rfl
    have y0 := frozen_of_row _ _ 0 _ _ G7.out.1
    have y1 := frozen_of_row _ _ 1 _ _ G7.out.1
    have y2 := frozen_of_row _ _ 2 _ _ G7.out.1
    have y3 := frozen_of_row _ _ 3 _ _ G7.out.1
    go_wp2
    refine bodyPost_ret (results_row_slot rfl _ _ (w.heap.size + 2) _ rfl (opl_load (four_put15 G7.out.1 _ _ _ _))) rfl ?_
    exact ⟨rfl, HD.out.1, HD.out.2⟩
end Go.Proofs.Yteccahggahpeeaa
