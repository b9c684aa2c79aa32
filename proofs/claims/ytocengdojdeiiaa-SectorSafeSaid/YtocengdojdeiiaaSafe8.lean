/- The law on what is safe: it comes out true for every two rows of acts and choice. -/
import Derived.Test.YtocengdojdeiiaaQuiet8
import Derived.Deep.RegionHeld3
import Derived.BigQuiet
import Derived.BigRegion
namespace Go.Proofs.Ytocengdojdeiiaa
open Go.RowKit Go.Maps

/-- How things lie: the device, the choice in its box, and what lay ahead. -/
structure SafeI (w : World) (C : Obj) (b g cap m : Nat) (d : Dv) (wr : World) : Prop where
  dev : PDev wr b g cap m d
  ok : d.Ok
  box : wr.heap[w.heap.size]? = some C
  old : Below w.heap.size w wr
  hb : w.heap.size < b
  hg : w.heap.size < g
  hm : w.heap.size < m
theorem SafeI.step {w : World} {C : Obj} {b g cap m : Nat} {d : Dv} {wr w' : World} (h : SafeI w C b g cap m d wr) (hb : Below wr.heap.size wr w') : SafeI w C b g cap m d w' :=
  ⟨h.dev.step hb, h.ok, old_obj hb h.box, h.old.trans (hb.mono h.old.size), h.hb, h.hg, h.hm⟩
theorem SafeI.but {w : World} {C : Obj} {b g cap m : Nat} {d d' : Dv} {wr w' : World} (h : SafeI w C b g cap m d wr) (hp : PDev w' b g cap m d') (hb : But b g m wr w') (hok : d'.Ok) : SafeI w C b g cap m d' w' := by
  have h1 := h.hb
  have h2 := h.hg
  have h3 := h.hm
  refine ⟨hp, hok, ?_, h.old.trans (hb.below (by omega) (by omega) (by omega) h.old.size), h1, h2, h3⟩
  rw [hb.block _ (obj_lt h.box) (by omega) (by omega) (by omega)]
  exact h.box
theorem SafeI.act {w : World} {C : Obj} {b g cap m : Nat} {d : Dv} {wr : World} (h : SafeI w C b g cap m d wr) (ho : d.ops ≤ 100000) (A : AV) (hn : A.num ≤ 100) (h5 : A.kind ≠ 5) (hK : Bools w.heap.size w A.ka A.keep) :
    Calls Try.prog 12 #[.pointer (some ⟨b, 0, none⟩), .agg #[.int .i64 A.kind, .int .i64 A.pos, .int .i64 A.num, .int .u8 A.byte.toNat, .slice A.ka A.keep.length A.kc, .int .i64 A.torn, .int .i64 A.cut]] wr fun e w' => e = .returned (.tuple #[.pointer (some ⟨b, 0, none⟩), .int .i64 (d.doE A)]) ∧ SafeI w C b g cap m (d.doA A) w' ∧ But b g m wr w' := by
  have h1 := h.hb
  have h2 := h.hg
  have h3 := h.hm
  exact (pdo_here h.dev h.ok (by omega) A hn h5 ((hK.below h.old).up h.old.size) (far_of hK (by omega) (by omega) (by omega))).mono fun e w' ⟨he, hp, hb⟩ => ⟨he, h.but hp hb (h.ok.doA A (by omega)), hb⟩
theorem SafeI.flush {w : World} {C : Obj} {b g cap m : Nat} {d : Dv} {wr : World} (h : SafeI w C b g cap m d wr) (ho : d.ops ≤ 100000) (h0 : d.armed = 0) (h1 : d.dead = false) :
    Calls Try.prog 16 #[.pointer (some ⟨b, 0, none⟩)] wr fun e w' => e = .returned (.int .i64 0) ∧ SafeI w C b g cap m d.flush w' := by
  refine (pflush_any h.dev h.ok (by omega)).mono fun e w' ⟨he, hp, hb⟩ => ?_
  rw [(flush_tame h0 h1).1] at he
  exact ⟨he, h.but hp hb h.ok.flush⟩
theorem SafeI.read {w : World} {C : Obj} {b g cap m : Nat} {d : Dv} {wr : World} (h : SafeI w C b g cap m d wr) (h1 : d.dead = false) (hl : d.cells.length = 12) (R : ByteArray) (hR : all12 d = R) :
    Calls Try.prog 14 #[.pointer (some ⟨b, 0, none⟩), .int .i64 0, .int .i64 12] wr fun e w' => e = .returned (.tuple #[.string R, .int .i64 0]) ∧ Below wr.heap.size wr w' := by
  obtain ⟨e1, e2⟩ := read12 h1 hl
  refine (pread_any h.dev h.ok 0 12 (by omega)).mono fun e w' ⟨he, hb⟩ => ?_
  rw [e1, e2, hR] at he
  exact ⟨he, hb⟩
theorem safe_new (w : World) (W : World) (C : Obj) (hW : W.heap[w.heap.size]? = some C) (hB : Below w.heap.size w W) :
    Calls Try.prog 9 #[.int .i64 12] W fun e w' => ∃ b g cap m, e = .returned (.tuple #[.pointer (some ⟨b, 0, none⟩), .int .i64 0]) ∧ SafeI w C b g cap m (Dv.new 12) w' := by
  refine (pnew_any 12 (by omega) (by omega) W).mono fun e w' ⟨b, g, cap, m, he, hp, hb, hg, hm, hbw⟩ => ?_
  have hl := obj_lt hW
  have hok := dv_new_ok 12 (by omega) (by omega)
  exact ⟨b, g, cap, m, he, hp, hok, old_obj hbw hW, hB.trans (hbw.mono hB.size), by omega, by omega, by omega⟩
/-- The same with the twin and the row of what was touched. -/
structure SafeT (w : World) (C : Obj) (b g cap m : Nat) (d : Dv) (bt gt ct mt : Nat) (e : Dv) (tb : Nat) (T : List Bool) (wr : World) : Prop where
  one : SafeI w C b g cap m d wr
  twin : PDev wr bt gt ct mt e
  apart : ∀ x, x = bt ∨ x = gt ∨ x = mt → x ≠ b ∧ x ≠ g ∧ x ≠ m
  tch : wr.heap[tb]? = some (.cells (T.map Value.bool).toArray 51 (0, 0))
  len : T.length = 12
  new : w.heap.size < tb
theorem SafeT.step {w : World} {C : Obj} {b g cap m : Nat} {d : Dv} {bt gt ct mt : Nat} {e : Dv} {tb : Nat} {T : List Bool} {wr w' : World} (h : SafeT w C b g cap m d bt gt ct mt e tb T wr) (hb : Below wr.heap.size wr w') : SafeT w C b g cap m d bt gt ct mt e tb T w' :=
  ⟨h.one.step hb, h.twin.step hb, h.apart, old_obj hb h.tch, h.len, h.new⟩
theorem SafeT.but {w : World} {C : Obj} {b g cap m : Nat} {d d' : Dv} {bt gt ct mt : Nat} {e : Dv} {tb : Nat} {T : List Bool} {wr w' : World} (h : SafeT w C b g cap m d bt gt ct mt e tb T wr) (h' : SafeI w C b g cap m d' w') (hb : But b g m wr w') : SafeT w C b g cap m d' bt gt ct mt e tb T w' := by
  have hn := h.one.dev.other h.tch (by decide) (by decide)
  refine ⟨h', h.twin.aside hb h.apart, h.apart, ?_, h.len, h.new⟩
  rw [hb.block _ (obj_lt h.tch) hn.1 hn.2.1 hn.2.2]
  exact h.tch
theorem SafeT.touch {w : World} {C : Obj} {b g cap m : Nat} {d : Dv} {bt gt ct mt : Nat} {e : Dv} {tb : Nat} {T : List Bool} {wr : World} (h : SafeT w C b g cap m d bt gt ct mt e tb T wr) (k : Nat) (v : Bool) : SafeT w C b g cap m d bt gt ct mt e tb (T.set k v) (wr.setCell ⟨tb, k, none⟩ (.bool v)) := by
  have hn := h.one.dev.other h.tch (by decide) (by decide)
  have hn2 := h.twin.other h.tch (by decide) (by decide)
  have hne := h.new
  have hs := heap_setCell_same wr tb k _ _ (.bool v) h.tch
  have ho : ∀ j, j ≠ tb → (wr.setCell ⟨tb, k, none⟩ (.bool v)).heap[j]? = wr.heap[j]? := fun j hj => cell_else _ _ _ _ _ hj
  refine ⟨⟨h.one.dev.kept (ho _ hn.1.symm) (ho _ hn.2.1.symm) (ho _ hn.2.2.symm), h.one.ok, (ho _ (by omega)).trans h.one.box, h.one.old.setCell (p := ⟨tb, k, none⟩) (by show w.heap.size ≤ tb; omega) _, h.one.hb, h.one.hg, h.one.hm⟩, h.twin.kept (ho _ hn2.1.symm) (ho _ hn2.2.1.symm) (ho _ hn2.2.2.symm), h.apart, ?_, by rw [List.length_set]; exact h.len, h.new⟩
  rw [hs, List.map_set]
  simp
theorem SafeT.cell {w : World} {C : Obj} {b g cap m : Nat} {d : Dv} {bt gt ct mt : Nat} {e : Dv} {tb : Nat} {T : List Bool} {wr : World} (h : SafeT w C b g cap m d bt gt ct mt e tb T wr) {k : Nat} (hk : k < 12) : wr.cell? ⟨tb, k, none⟩ = some (.bool (T.getD k false)) := by
  refine cell_of h.tch ?_
  rw [List.getElem?_toArray, List.getElem?_map, List.getD_eq_getElem?_getD, List.getElem?_eq_getElem (by rw [h.len]; exact hk)]
  rfl
theorem SafeT.off {w : World} {C : Obj} {b g cap m : Nat} {d : Dv} {bt gt ct mt : Nat} {e : Dv} {tb : Nat} {T : List Bool} {wr : World} (h : SafeT w C b g cap m d bt gt ct mt e tb T wr) :
    Calls Try.prog 18 #[.pointer (some ⟨b, 0, none⟩)] wr fun r w' => r = .returned (.int .i64 0) ∧ SafeT w C b g cap m d.off bt gt ct mt e tb T w' :=
  (poff_any h.one.dev h.one.ok).mono fun _ _ ⟨he, hp, hb⟩ => ⟨he, h.but (h.one.but hp hb h.one.ok.off) hb⟩
theorem SafeT.boot {w : World} {C : Obj} {b g cap m : Nat} {d : Dv} {bt gt ct mt : Nat} {e : Dv} {tb : Nat} {T : List Bool} {wr : World} (h : SafeT w C b g cap m d bt gt ct mt e tb T wr) (ka : Option Addr) (kc : Nat) (ks : List Bool) (tn cu : Int) (hK : Bools w.heap.size w ka ks) :
    Calls Try.prog 19 #[.pointer (some ⟨b, 0, none⟩), .agg #[.slice ka ks.length kc, .int .i64 tn, .int .i64 cu]] wr fun r w' => r = .returned (.int .i64 0) ∧ SafeT w C b g cap m (d.boot ks tn cu) bt gt ct mt e tb T w' := by
  have h1 := h.one.hb
  have h2 := h.one.hg
  have h3 := h.one.hm
  exact (pboot_any h.one.dev h.one.ok ka kc ks tn cu ((hK.below h.one.old).up h.one.old.size) (far_of hK (by omega) (by omega) (by omega))).mono fun _ _ ⟨he, hp, hb⟩ => ⟨he, h.but (h.one.but hp hb (h.one.ok.boot ks tn cu)) hb⟩
theorem SafeT.read2 {w : World} {C : Obj} {b g cap m : Nat} {d : Dv} {bt gt ct mt : Nat} {e : Dv} {tb : Nat} {T : List Bool} {wr : World} (h : SafeT w C b g cap m d bt gt ct mt e tb T wr) (hok : e.Ok) (h1 : e.dead = false) (hl : e.cells.length = 12) (R : ByteArray) (hR : all12 e = R) :
    Calls Try.prog 14 #[.pointer (some ⟨bt, 0, none⟩), .int .i64 0, .int .i64 12] wr fun r w' => r = .returned (.tuple #[.string R, .int .i64 0]) ∧ Below wr.heap.size wr w' := by
  obtain ⟨e1, e2⟩ := read12 h1 hl
  refine (pread_any h.twin hok 0 12 (by omega)).mono fun r w' ⟨he, hb⟩ => ?_
  rw [e1, e2, hR] at he
  exact ⟨he, hb⟩
theorem set_at {T : List Bool} {k : Nat} (h : k < T.length) (v : Bool) : (T.set k v).getD k false = v := by
  rw [List.getD_eq_getElem?_getD, List.getElem?_set_self h]; rfl
theorem set_else {T : List Bool} {k j : Nat} (h : k ≠ j) (v : Bool) : (T.set k v).getD j false = T.getD j false := by
  rw [List.getD_eq_getElem?_getD, List.getD_eq_getElem?_getD, List.getElem?_set_ne h]
theorem below_drewN8s {B : Nat} {w w1 : World} (hb : Below B w w1) (n : Nat) : Below B w (w1.drewN n) := ⟨hb.os, hb.tape, hb.output, hb.size, hb.block⟩

set_option maxRecDepth 100000 in
set_option maxHeartbeats 1000000 in
theorem sectorSafe_walk (w : World) (a1 : Option Addr) (cap1 : Nat) (l1 : List AV) (_hm1 : l1.length ≤ maxLen) (hA1 : Acts w.heap.size w a1 l1) (a2 : Option Addr) (cap2 : Nat) (l2 : List AV) (_hm2 : l2.length ≤ maxLen) (hA2 : Acts w.heap.size w a2 l2) (ka : Option Addr) (kc : Nat) (ks : List Bool) (tn ct : Int) (hK : Bools w.heap.size w ka ks) (_hl : ks.length ≤ maxLen) :
    Calls Try.prog 4 #[.slice a1 l1.length cap1, .slice a2 l2.length cap2, .agg #[.slice ka ks.length kc, .int .i64 tn, .int .i64 ct]] w fun e w' => e = .returned (.bool true) ∧ Below w.heap.size w w' := by
  obtain ⟨C, hC⟩ : ∃ C : Obj, C = .cells #[.slice ka ks.length kc, .int .i64 tn, .int .i64 ct] 39 := ⟨_, rfl⟩
  have hB0 : Below w.heap.size w (w.alloc C) := (Below.refl _ w).alloc (Nat.le_refl _) _
  have hN0 := heap_alloc_new w C
  have hf1 : ∀ a cap l, Acts w.heap.size w a l → Calls Try.prog 7 #[.slice a l.length cap] (w.alloc C) fun e w' => e = .returned (.bool (fewB l)) ∧ w.alloc C = w' := fun a cap l hA => few_any a cap l _ (by
    have hs0 : (w.alloc C).heap.size = w.heap.size + 1 := by simp
    rcases hA.below hB0 with q | ⟨b, off, q1, q2, q3⟩
    · exact Or.inl q
    · exact Or.inr ⟨b, off, q1, by omega, fun j hj => ⟨(q3 j hj).1, ⟨(q3 j hj).2.pos, (q3 j hj).2.num, (q3 j hj).2.keep.up (by omega), (q3 j hj).2.few⟩⟩⟩)
  have hfew1 := hf1 a1 cap1 l1 hA1
  have hfew2 := hf1 a2 cap2 l2 hA2
  clear hf1
  go_enter Try.func4, Try.ntmps4
  go_upto_region 1 with fail
  rw [← hC]
  generalize w.alloc C = W at *
  rw [hC] at hN0
  have c0 : W.cell? ⟨w.heap.size, 0, none⟩ = some (.slice ka ks.length kc) := cell_of (j := 0) hN0 rfl
  have HB0 := Lib.hid hB0
  rw [← hC] at hN0
  have HN0 := Lib.hid hN0
  have HA1 := Lib.hid hA1
  have HA2 := Lib.hid hA2
  clear hA1 hA2 hB0 hN0
  cases hq1 : fewB l1 with
  | false =>
    rw [hq1] at hfew1
    clear hfew2 hq1
    go_wp2_with (first
      | (go_at_call 7; refine hfew1.mono ?_; rintro e w1 ⟨rfl, rfl⟩)
      | (go_at_call 8; refine (awake_any _).mono ?_; rintro e w2 ⟨rfl, hb2⟩))
    go_ret
    exact ⟨rfl, HB0.out.trans (hb2.mono HB0.out.size)⟩
  | true =>
  rw [hq1] at hfew1
  cases hq2 : fewB l2 with
  | false =>
    rw [hq2] at hfew2
    clear hq1 hq2
    go_wp2_with (first
      | (have _t := HF1; go_at_call 7; refine hfew2.mono ?_; rintro e w1 ⟨rfl, rfl⟩)
      | (go_at_call 7; refine hfew1.mono ?_; rintro e w1 ⟨rfl, rfl⟩; have HF1 := Lib.hid True.intro)
      | (go_at_call 8; refine (awake_any _).mono ?_; rintro e w2 ⟨rfl, hb2⟩))
    go_ret
    exact ⟨rfl, HB0.out.trans (hb2.mono HB0.out.size)⟩
  | true =>
  rw [hq2] at hfew2
  have HF1l := Lib.hid (few_at hq1)
  have HF2l := Lib.hid (few_at hq2)
  clear hq1 hq2
  by_cases q3 : 3000 < ks.length
  · have e3 : decide (3000 < (ks.length : Int)) = true := decide_eq_true (by omega)
    clear q3
    go_wp2_with (first
      | (have _t := HF1; go_at_call 7; refine hfew2.mono ?_; rintro e w1 ⟨rfl, rfl⟩)
      | (go_at_call 7; refine hfew1.mono ?_; rintro e w1 ⟨rfl, rfl⟩; have HF1 := Lib.hid True.intro)
      | (go_at_call 8; refine (awake_any _).mono ?_; rintro e w2 ⟨rfl, hb2⟩))
    go_ret
    exact ⟨rfl, HB0.out.trans (hb2.mono HB0.out.size)⟩
  have e3 : decide (3000 < (ks.length : Int)) = false := decide_eq_false (by omega)
  clear q3
  have hnw := safe_new w W C HN0.out HB0.out
  obtain ⟨D0, hD0⟩ : ∃ D0, Dv.new 12 = D0 := ⟨_, rfl⟩
  have hD0t : D0.armed = 0 ∧ D0.dead = false ∧ D0.cells.length = 12 ∧ D0.ops ≤ 101 * ((0 : Nat) : Int) := by rw [← hD0]; exact ⟨rfl, rfl, rfl, Int.le_refl _⟩
  rw [hD0] at hnw
  have HD0 := Lib.hid hD0t
  clear hD0 hD0t
  go_upto_region 6 with (first
    | (have _t := HF1; go_at_call 7; refine hfew2.mono ?_; rintro e w1 ⟨rfl, rfl⟩)
    | (go_at_call 7; refine hfew1.mono ?_; rintro e w1 ⟨rfl, rfl⟩; have HF1 := Lib.hid True.intro)
    | (go_at_call 9; refine hnw.mono ?_; rintro e w1 ⟨b, g, cp, m, rfl, h1⟩; have I1 := Lib.hid h1; clear h1))
  obtain ⟨n1, hn1⟩ : ∃ n1, l1.length = n1 := ⟨_, rfl⟩
  obtain ⟨n2, hn2⟩ : ∃ n2, l2.length = n2 := ⟨_, rfl⟩
  have HN1 := Lib.hid hn1
  have HN2 := Lib.hid hn2
  have hn160 : n1 ≤ 60 := by have := HF1l.out.1; omega
  have hn260 : n2 ≤ 60 := by have := HF2l.out.1; omega
  rw [hn1, hn2]
  clear hfew1 hfew2 hnw hn1 hn2 c0 e3
  go_wp2
  go_loopw [9] (fun i' wr => ∃ (i : Nat) (d : Dv), i' = .int .i64 i ∧ i ≤ n1 ∧ Hid (SafeI w C b g cp m d wr) ∧ Hid (d.armed = 0 ∧ d.dead = false ∧ d.cells.length = 12 ∧ d.ops ≤ 101 * (i : Int))) (fun i _ => n1 - (intOf i).toNat)
  case atStart => exact ⟨0, D0, rfl, by omega, I1, HD0⟩
  case round =>
    clear I1 HD0
    obtain ⟨i, d, rfl, hi, I, HD⟩ := hrel
    by_cases hlt : i < n1
    · have i1 : (i : Int) < (n1 : Int) := by omega
      obtain ⟨ba, off, rfl, hba, hc, hG⟩ := (HA1.out.below I.out.old).at (k := i) (by have := HN1.out; omega)
      have hGw := (HA1.out.at (k := i) (by have := HN1.out; omega)).choose_spec.choose_spec.2.2.2
      have hfa := HF1l.out.2 i (by have := HN1.out; omega)
      generalize actAt l1 i = A at *
      obtain ⟨k0, k1, k2, k3, k4, k5, k6⟩ := Act7.of hc
      have HD' := HD.out
      by_cases hk : A.kind = 0 ∨ A.kind = 4
      · have hact := I.out.act (by have := HD.out.2.2.2; omega) A hfa.1 (by omega) hGw.keep
        have htame := do_tame HD'.1 HD'.2.1 A hk
        have hlen := do_len d A
        have hops := do_ops d A hfa.1
        have HD2 : Hid ((d.doA A).armed = 0 ∧ (d.doA A).dead = false ∧ (d.doA A).cells.length = 12 ∧ (d.doA A).ops ≤ 101 * ((i + 1 : Nat) : Int)) := Lib.hid ⟨htame.1, htame.2, by rw [hlen]; exact HD'.2.2.1, by have := HD'.2.2.2; omega⟩
        clear hc hG hGw hfa HD' htame hlen hops
        rcases hk with hk | hk
        · have b1 : (A.kind == 0) = true := beq_iff_eq.2 hk
          clear hk
          go_wp2_with (go_at_call 12; refine hact.mono ?_; rintro e w2 ⟨rfl, h2, _⟩; have I2 := Lib.hid h2; clear h2)
          go_roundw
          case rel => exact ⟨i + 1, d.doA A, by go_num, by omega, I2, HD2⟩
          case measure => simp [intOf]; omega
        · have b1 : (A.kind == 0) = false := beq_eq_false_iff_ne.2 (by omega)
          have b2 : (A.kind == 4) = true := beq_iff_eq.2 hk
          clear hk
          go_wp2_with (go_at_call 12; refine hact.mono ?_; rintro e w2 ⟨rfl, h2, _⟩; have I2 := Lib.hid h2; clear h2)
          go_roundw
          case rel => exact ⟨i + 1, d.doA A, by go_num, by omega, I2, HD2⟩
          case measure => simp [intOf]; omega
      · have b1 : (A.kind == 0) = false := beq_eq_false_iff_ne.2 fun h => hk (Or.inl h)
        have b2 : (A.kind == 4) = false := beq_eq_false_iff_ne.2 fun h => hk (Or.inr h)
        have HD2 : Hid (d.armed = 0 ∧ d.dead = false ∧ d.cells.length = 12 ∧ d.ops ≤ 101 * ((i + 1 : Nat) : Int)) := Lib.hid ⟨HD'.1, HD'.2.1, HD'.2.2.1, by have := HD'.2.2.2; omega⟩
        clear hk hc hG hGw hfa HD'
        go_wp2
        go_roundw
        case rel => exact ⟨i + 1, d, by go_num, by omega, I, HD2⟩
        case measure => simp [intOf]; omega
    · obtain rfl : i = n1 := by omega
      have HD' := HD.out
      have hfl := I.out.flush (by omega) HD'.1 HD'.2.1
      obtain ⟨ft0, ft1, ft2, ft3⟩ := flush_tame HD'.1 HD'.2.1
      have hEq : ∀ k, k < 12 → Quiet d.flush k (d.flush.cells.getD k sec0).now := fun k hk => quiet_flushed HD'.1 HD'.2.1 (by omega)
      have hEl : d.flush.cells.length = 12 := by rw [ft3, flushed_len]; exact HD'.2.2.1
      have hEo : d.flush.ops ≤ 6061 := by rw [ft2]; have := HD'.2.2.2; omega
      generalize d.flush = E at *
      obtain ⟨R, hR⟩ : ∃ R, all12 E = R := ⟨_, rfl⟩
      have HE := Lib.hid (And.intro hEl (And.intro ft1 (And.intro hEo (And.intro hEq hR))))
      clear ft0 ft1 ft2 ft3 hEl hEo hEq hR HD' hlt hi HD I HF1l HN1 hn160 HA1
      go_upto_region 16 with (first
        | (go_at_call 16; refine hfl.mono ?_; rintro e w2 ⟨rfl, h2⟩; have I2 := Lib.hid h2; have HOE := Lib.hid h2.ok; clear h2)
        | (go_at_call 14; refine (I2.out.read HE.out.2.1 HE.out.1 R HE.out.2.2.2.2).mono ?_; rintro e w3 ⟨rfl, hb3⟩; have I3 := Lib.hid (I2.out.step hb3); clear hb3)
        | (go_at_call 17; refine (pcopy_any I3.out.dev I3.out.ok).mono ?_; rintro e w4 ⟨bt, gt, cpt, mt, rfl, hp4, hx1, hx2, hx3, hb4⟩; have P4 := Lib.hid hp4; have B4 := Lib.hid hb4; have X4 := Lib.hid (And.intro hx1 (And.intro hx2 hx3)); clear hp4 hb4 hx1 hx2 hx3))
      have hT0 : Hid (SafeT w C b g cp m E bt gt cpt mt E w4.heap.size (List.replicate 12 false) (w4.alloc (.cells #[.bool false, .bool false, .bool false, .bool false, .bool false, .bool false, .bool false, .bool false, .bool false, .bool false, .bool false, .bool false] 51))) := Lib.hid (by
        have hba : Below w4.heap.size w4 (w4.alloc (.cells #[.bool false, .bool false, .bool false, .bool false, .bool false, .bool false, .bool false, .bool false, .bool false, .bool false, .bool false, .bool false] 51)) := (Below.refl _ w4).alloc (Nat.le_refl _) _
        have h4 := I3.out.step B4.out
        refine ⟨h4.step hba, P4.out.step hba, ?_, heap_alloc_new _ _, rfl, by have := obj_lt h4.box; omega⟩
        have hl := I3.out.dev.lt
        have hx := X4.out
        rintro x (rfl | rfl | rfl) <;> exact ⟨by omega, by omega, by omega⟩)
      generalize w4.heap.size = tb at *
      generalize w4.alloc (.cells #[.bool false, .bool false, .bool false, .bool false, .bool false, .bool false, .bool false, .bool false, .bool false, .bool false, .bool false, .bool false] 51) = W5 at *
      clear I2 I3 P4 B4 X4 hfl
      go_wp2
      go_loopw [14] (fun i' wr => ∃ (i : Nat) (d : Dv) (T : List Bool), i' = .int .i64 i ∧ i ≤ n2 ∧ Hid (SafeT w C b g cp m d bt gt cpt mt E tb T wr) ∧ Hid (d.cells.length = 12 ∧ d.ops ≤ 6061 + 101 * (i : Int) ∧ ∀ j, j < 12 → T.getD j false = false → Quiet d j (E.cells.getD j sec0).now)) (fun i _ => n2 - (intOf i).toNat)
      case atStart => exact ⟨0, E, _, rfl, by omega, hT0, Lib.hid ⟨HE.out.1, by have := HE.out.2.2.1; omega, fun j hj _ => HE.out.2.2.2.1 j hj⟩⟩
      case round =>
        clear hT0
        obtain ⟨i, d, T, rfl, hi, I, HD⟩ := hrel
        by_cases hlt : i < n2
        · have i1 : (i : Int) < (n2 : Int) := by omega
          obtain ⟨ba, off, rfl, hba, hc, hG⟩ := HA2.out.at (k := i) (by have := HN2.out; omega)
          have hfa := HF2l.out.2 i (by have := HN2.out; omega)
          generalize actAt l2 i = A at *
          have HKA := Lib.hid (Act7.of hc)
          obtain ⟨k0, k1, k2, k3, k4, k5, k6⟩ := HKA.out.kept (I.out.one.old.block ba hba)
          have HBA := Lib.hid hba
          have HD' := HD.out
          by_cases hk : A.kind = 5
          · have b1 : (A.kind == 5) = true := beq_iff_eq.2 hk
            have HD2 : Hid (d.cells.length = 12 ∧ d.ops ≤ 6061 + 101 * ((i + 1 : Nat) : Int) ∧ ∀ j, j < 12 → T.getD j false = false → Quiet d j (E.cells.getD j sec0).now) := Lib.hid ⟨HD'.1, by have := HD'.2.1; omega, HD'.2.2⟩
            clear hk hc hG hfa HD' hba
            go_wp2
            go_roundw
            case rel => exact ⟨i + 1, d, T, by go_num, by omega, I, HD2⟩
            case measure => simp [intOf]; omega
          · have b1 : (A.kind == 5) = false := beq_eq_false_iff_ne.2 hk
            have hact := I.out.one.act (by have := HD'.2.1; omega) A hfa.1 hk hG.keep
            have hlen := do_len d A
            have hops := do_ops d A hfa.1
            have hqd : ∀ j, j < 12 → T.getD j false = false → (0 ≤ j → ¬ (A.kind = 0 ∧ 0 ≤ A.pos ∧ A.pos ≤ (j : Int) ∧ (j : Int) - A.pos < A.num)) → Quiet (d.doA A) j (E.cells.getD j sec0).now := fun j hj hT hw => quiet_do I.out.one.ok (by omega) (HD'.2.2 j hj hT) A hfa.1 (hw (Nat.zero_le _))
            have HQ := Lib.hid hqd
            have HDl : Hid ((d.doA A).cells.length = 12 ∧ (d.doA A).ops ≤ 6061 + 101 * ((i + 1 : Nat) : Int)) := Lib.hid ⟨by omega, by have := HD'.2.1; omega⟩
            clear hk hc hfa HD' hlen hops hqd hba
            have HP := Lib.hid hG.pos
            clear hG
            generalize d.doA A = D at *
            go_upto_region 22 with (go_at_call 12; refine hact.mono ?_; rintro e w2 ⟨rfl, h2, hb2⟩; have I2 := Lib.hid (I.out.but h2 hb2); clear h2 hb2)
            clear hact k0 k1 k2 k3 k4 k5 k6 I b1
            go_loopw [15] (fun k' wr => ∃ (k : Nat) (T : List Bool), k' = .int .i64 k ∧ k ≤ 12 ∧ Hid (SafeT w C b g cp m D bt gt cpt mt E tb T wr) ∧ Hid (∀ j, j < 12 → T.getD j false = false → (k ≤ j → ¬ (A.kind = 0 ∧ 0 ≤ A.pos ∧ A.pos ≤ (j : Int) ∧ (j : Int) - A.pos < A.num)) → Quiet D j (E.cells.getD j sec0).now)) (fun k _ => 12 - (intOf k).toNat)
            case atStart => exact ⟨0, T, rfl, by omega, I2, HQ⟩
            case round =>
              clear I2 HQ
              obtain ⟨k, T, rfl, hk, I, HQ⟩ := hrel
              by_cases hk12 : k < 12
              · have j1 : (k : Int) < 12 := by omega
                have j0 : (0 : Int) ≤ (k : Int) := by omega
                obtain ⟨k0, k1, k2, k3, k4, k5, k6⟩ := HKA.out.kept (I.out.one.old.block ba HBA.out)
                have hcell := I.out.cell hk12
                have hfrz := frozen_of_row _ tb k _ _ I.out.tch
                have hnext : ∀ v : Bool, (v = false → T.getD k false = false ∧ ¬ (A.kind = 0 ∧ 0 ≤ A.pos ∧ A.pos ≤ (k : Int) ∧ (k : Int) - A.pos < A.num)) → ∀ j, j < 12 → (T.set k v).getD j false = false → (k + 1 ≤ j → ¬ (A.kind = 0 ∧ 0 ≤ A.pos ∧ A.pos ≤ (j : Int) ∧ (j : Int) - A.pos < A.num)) → Quiet D j (E.cells.getD j sec0).now := by
                  intro v hv j hj ht hw
                  by_cases e : k = j
                  · subst e
                    rw [set_at (by rw [I.out.len]; exact hj)] at ht
                    exact HQ.out k hj (hv ht).1 fun _ => (hv ht).2
                  · rw [set_else e] at ht
                    exact HQ.out j hj ht fun hkj => hw (by omega)
                have HX1 := Lib.hid hnext
                have HI1 : Hid (∀ v, SafeT w C b g cp m D bt gt cpt mt E tb (T.set k v) (wr.setCell ⟨tb, k, none⟩ (.bool v)).drew) := Lib.hid fun v => (I.out.touch k v).step (Below.refl _ _).drew
                clear hnext I HQ k3 k4 k5 k6
                cases htk : T.getD k false with
                | true =>
                  rw [htk] at hcell
                  go_upto_region 24 with fail
                  go_region
                  go_wp2
                  go_roundw
                  case rel => exact ⟨k + 1, T.set k true, by go_num, by omega, Lib.hid (HI1.out true), Lib.hid (HX1.out true fun h => by cases h)⟩
                  case measure => simp [intOf]; omega
                | false =>
                  rw [htk] at hcell
                  have hp := HP.out
                  unfold Num64 at hp
                  by_cases g1 : A.kind = 0
                  · have b1 : (A.kind == 0) = true := beq_iff_eq.2 g1
                    by_cases g2 : 0 ≤ A.pos
                    · have b2 : decide (0 ≤ A.pos) = true := decide_eq_true g2
                      by_cases g3 : A.pos ≤ (k : Int)
                      · have b3 : decide (A.pos ≤ (k : Int)) = true := decide_eq_true g3
                        have b4 : IntKind.i64.wrap ((k : Int) - A.pos) = (k : Int) - A.pos := IntWalk.i64_in _ (by omega)
                        by_cases g5 : (k : Int) - A.pos < A.num
                        · have b5 : decide ((k : Int) - A.pos < A.num) = true := decide_eq_true g5
                          clear g1 g2 g3 g5 hp
                          go_upto_region 24 with fail
                          go_region
                          go_wp2
                          go_roundw
                          case rel => exact ⟨k + 1, T.set k true, by go_num, by omega, Lib.hid (HI1.out true), Lib.hid (HX1.out true fun h => by cases h)⟩
                          case measure => simp [intOf]; omega
                        · have b5 : decide ((k : Int) - A.pos < A.num) = false := decide_eq_false g5
                          have HX2 := Lib.hid (HX1.out false fun _ => ⟨htk, fun h => g5 h.2.2.2⟩)
                          clear g1 g2 g3 g5 hp
                          go_upto_region 24 with fail
                          go_region
                          go_wp2
                          go_roundw
                          case rel => exact ⟨k + 1, T.set k false, by go_num, by omega, Lib.hid (HI1.out false), HX2⟩
                          case measure => simp [intOf]; omega
                      · have b3 : decide (A.pos ≤ (k : Int)) = false := decide_eq_false g3
                        have HX2 := Lib.hid (HX1.out false fun _ => ⟨htk, fun h => g3 h.2.2.1⟩)
                        clear g1 g2 g3 hp
                        go_upto_region 24 with fail
                        go_region
                        go_wp2
                        go_roundw
                        case rel => exact ⟨k + 1, T.set k false, by go_num, by omega, Lib.hid (HI1.out false), HX2⟩
                        case measure => simp [intOf]; omega
                    · have b2 : decide (0 ≤ A.pos) = false := decide_eq_false g2
                      have HX2 := Lib.hid (HX1.out false fun _ => ⟨htk, fun h => g2 h.2.1⟩)
                      clear g1 g2 hp
                      go_upto_region 24 with fail
                      go_region
                      go_wp2
                      go_roundw
                      case rel => exact ⟨k + 1, T.set k false, by go_num, by omega, Lib.hid (HI1.out false), HX2⟩
                      case measure => simp [intOf]; omega
                  · have b1 : (A.kind == 0) = false := beq_eq_false_iff_ne.2 g1
                    have HX2 := Lib.hid (HX1.out false fun _ => ⟨htk, fun h => g1 h.1⟩)
                    clear g1 hp
                    go_upto_region 24 with fail
                    go_region
                    go_wp2
                    go_roundw
                    case rel => exact ⟨k + 1, T.set k false, by go_num, by omega, Lib.hid (HI1.out false), HX2⟩
                    case measure => simp [intOf]; omega
              · obtain rfl : k = 12 := by omega
                have HD2 : Hid (D.cells.length = 12 ∧ D.ops ≤ 6061 + 101 * ((i + 1 : Nat) : Int) ∧ ∀ j, j < 12 → T.getD j false = false → Quiet D j (E.cells.getD j sec0).now) := Lib.hid ⟨HDl.out.1, HDl.out.2, fun j hj ht => HQ.out j hj ht fun h => absurd h (by omega)⟩
                clear HQ
                go_wp2
                go_roundw
                case rel => exact ⟨i + 1, D, T, by go_num, by omega, I, HD2⟩
                case measure => simp [intOf]; omega
        · obtain rfl : i = n2 := by omega
          have HD' := HD.out
          clear hlt hi
          go_upto_region 26 with (go_at_call 18; refine I.out.off.mono ?_; rintro e w5 ⟨rfl, h5⟩; have I5 := Lib.hid h5; clear h5)
          have hbx := I5.out.one.box
          rw [hC] at hbx
          obtain ⟨c0, c1, c2⟩ : w5.cell? ⟨w.heap.size, 0, none⟩ = some (.slice ka ks.length kc) ∧ w5.cell? ⟨w.heap.size, 1, none⟩ = some (.int .i64 tn) ∧ w5.cell? ⟨w.heap.size, 2, none⟩ = some (.int .i64 ct) := ⟨cell_of (j := 0) hbx rfl, cell_of (j := 1) hbx rfl, cell_of (j := 2) hbx rfl⟩
          have hbt := I5.out.boot ka kc ks tn ct hK
          have hFl : (d.off.boot ks tn ct).cells.length = 12 := by
            show (booted d.cells ks tn ct d.cells.length).length = 12
            rw [booted_len]; exact HD'.1
          have hFd : (d.off.boot ks tn ct).dead = false := rfl
          have hFok := I5.out.one.ok.boot ks tn ct
          have hFq : ∀ j, j < 12 → T.getD j false = false → ((d.off.boot ks tn ct).cells.getD j sec0).now = (E.cells.getD j sec0).now := fun j hj ht => (quiet_boot I5.out.one.ok (by show j < d.cells.length; omega) (HD'.2.2 j hj ht) ks tn ct).1
          generalize d.off.boot ks tn ct = F at *
          obtain ⟨N, hN⟩ : ∃ N, all12 F = N := ⟨_, rfl⟩
          have hRs : R.size = 768 := by rw [← HE.out.2.2.2.2]; exact all12_size HOE.out HE.out.1
          have hNs : N.size = 768 := by rw [← hN]; exact all12_size hFok hFl
          have hsec : ∀ j, j < 12 → T.getD j false = false → secOf N j = secOf R j := fun j hj ht => by
            rw [← hN, ← HE.out.2.2.2.2, all12_sec hFok hFl hj, all12_sec HOE.out HE.out.1 hj]; exact hFq j hj ht
          have HS := Lib.hid hsec
          have HF := Lib.hid (And.intro hFd (And.intro hFl hN))
          clear hsec hFq hFok hFl hFd hN HD' HD hbx
          go_upto_region 28 with (go_at_call 19; refine hbt.mono ?_; rintro e w6 ⟨rfl, h6⟩; have I6 := Lib.hid h6; clear h6)
          clear hbt c0 c1 c2 I5 I
          have hr1 := I6.out.one.read HF.out.1 HF.out.2.1 N HF.out.2.2
          go_upto_region 29 with (go_at_call 14; refine hr1.mono ?_; rintro e w7 ⟨rfl, hb7⟩; have I7 := Lib.hid (I6.out.step hb7); clear hb7)
          clear hr1 I6
          have hr2 := I7.out.read2 HOE.out HE.out.2.1 HE.out.1 R HE.out.2.2.2.2
          go_upto_region 30 with (go_at_call 14; refine hr2.mono ?_; rintro e w8 ⟨rfl, hb8⟩; have I8 := Lib.hid (I7.out.step hb8); clear hb8)
          clear hr2 I7
          go_upto_region 32 with fail
          go_wp2
          go_loopw [20] (fun k' wr => ∃ (k : Nat), k' = .int .i64 k ∧ k ≤ 12 ∧ Hid (SafeT w C b g cp m F bt gt cpt mt E tb T wr)) (fun k _ => 12 - (intOf k).toNat)
          case atStart => exact ⟨0, rfl, by omega, I8⟩
          case round =>
            clear I8
            obtain ⟨k, rfl, hk, I⟩ := hrel
            by_cases hk12 : k < 12
            · have j1 : (k : Int) < 12 := by omega
              have j0 : (0 : Int) ≤ (k : Int) := by omega
              have hcell := I.out.cell hk12
              cases htk : T.getD k false with
              | true =>
                rw [htk] at hcell
                go_upto_region 35 with fail
                go_quiet (fail)
                go_wp2
                exact ⟨⟨k + 1, by go_num, by omega, Lib.hid (I.out.step (below_drewN8s (Below.refl _ wr) nq))⟩, by simp [intOf]; omega⟩
              | false =>
                rw [htk] at hcell
                obtain ⟨lo, hlo⟩ : ∃ lo : Nat, 64 * k = lo := ⟨_, rfl⟩
                obtain ⟨hi, hhi⟩ : ∃ hi : Nat, lo + 64 = hi := ⟨_, rfl⟩
                obtain ⟨X, hX⟩ : ∃ X, N.extract lo hi = X := ⟨_, rfl⟩
                have hY : R.extract lo hi = X := by
                  rw [← hX, ← hhi, ← hlo]; exact (HS.out k hk12 htk).symm
                have i2 : IntKind.i64.wrap (64 * (k : Int)) = (lo : Int) := by rw [show (64 : Int) * k = lo by omega]; exact IntWalk.i64_in _ (by omega)
                have i3 : IntKind.i64.wrap ((lo : Int) + 64) = (hi : Int) := by rw [show (lo : Int) + 64 = hi by omega]; exact IntWalk.i64_in _ (by omega)
                have i4 : (0 : Int) ≤ (lo : Int) := by omega
                have i5 : (lo : Int) ≤ (hi : Int) := by omega
                have i6 : (hi : Int) ≤ 768 := by omega
                clear hlo hhi htk
                go_upto_region 35 with fail
                go_quiet (fail)
                go_wp2
                exact ⟨⟨k + 1, by go_num, by omega, Lib.hid (I.out.step (below_drewN8s (Below.refl _ wr) nq))⟩, by simp [intOf]; omega⟩
            · obtain rfl : k = 12 := by omega
              go_wp2_with (go_at_call 8; refine (awake_any _).mono ?_; rintro e w9 ⟨rfl, hb9⟩)
              go_ret
              exact ⟨rfl, I.out.one.old.trans (hb9.mono I.out.one.old.size)⟩
end Go.Proofs.Ytocengdojdeiiaa
