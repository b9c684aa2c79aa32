/- The law that plays acts on a device and on the document's: it comes out true for every number, row of acts and place. -/
import Derived.Test.YtocengdojdeiiaaAwake8
namespace Go.Proofs.Ytocengdojdeiiaa
open Go.RowKit Go.Maps

/-- How things lie in a round: the document's device in its box, the program's, and what lay ahead. -/
structure PlayI (w : World) (rb b g cap m : Nat) (a : Value) (d : Dv) (wr : World) : Prop where
  box : wr.heap[rb]? = some (.cells #[a, .int .i64 d.ops, .int .i64 d.armed, .bool d.dead] 32 (0, 0))
  dev : PDev wr b g cap m d
  ref : RDev w.heap.size wr a d
  old : Below w.heap.size w wr
  hb : w.heap.size ≤ b
  hg : w.heap.size ≤ g
  hm : w.heap.size ≤ m
  hr : w.heap.size ≤ rb
/-- A block of another kind than the device's three. -/
theorem PDev.other {w : World} {b g cap m : Nat} {d : Dv} (h : PDev w b g cap m d) {k : Nat} {cs : Array Value} {t : TypeId} (hk : w.heap[k]? = some (.cells cs t (0, 0))) (h1 : t ≠ 62) (h2 : t ≠ 80) : k ≠ b ∧ k ≠ g ∧ k ≠ m := by
  obtain ⟨cur, q1, _⟩ := h.row
  obtain ⟨D, ⟨es, clock, q2, _⟩, _⟩ := h.map
  have q3 := h.box
  refine ⟨fun e => ?_, fun e => ?_, fun e => ?_⟩
  · subst e; rw [q3] at hk; injection hk with hk; injection hk with _ hk; exact h1 hk.symm
  · subst e; rw [q1] at hk; injection hk with hk; injection hk with _ hk; exact h2 hk.symm
  · subst e; rw [q2] at hk; injection hk with hk; cases hk
theorem PlayI.apart {w : World} {rb b g cap m : Nat} {a : Value} {d : Dv} {wr : World} (h : PlayI w rb b g cap m a d wr) : (rb ≠ b ∧ rb ≠ g ∧ rb ≠ m) ∧ ∀ j, a.ownBlock = some j → j ≠ b ∧ j ≠ g ∧ j ≠ m := by
  refine ⟨h.dev.other h.box (by decide) (by decide), fun j hj => ?_⟩
  rcases h.ref.row.2 with ⟨q, _⟩ | ⟨x, c, cur, q1, q2, q3, _⟩
  · rw [q] at hj; simp [Value.ownBlock] at hj
  · rw [q1] at hj
    simp [Value.ownBlock] at hj
    subst hj
    exact h.dev.other q3 (by decide) (by decide)
theorem PlayI.step {w : World} {rb b g cap m : Nat} {a : Value} {d : Dv} {wr w' : World} (h : PlayI w rb b g cap m a d wr) (hb : Below wr.heap.size wr w') : PlayI w rb b g cap m a d w' :=
  ⟨old_obj hb h.box, h.dev.step hb, h.ref.step hb, h.old.trans (hb.mono h.old.size), h.hb, h.hg, h.hm, h.hr⟩

/-- The cells of an act, from a place on. -/
def Act7 (w : World) (b o : Nat) (A : AV) : Prop := w.cell? ⟨b, o, none⟩ = some (.int .i64 A.kind) ∧ w.cell? ⟨b, o + 1, none⟩ = some (.int .i64 A.pos) ∧ w.cell? ⟨b, o + 2, none⟩ = some (.int .i64 A.num) ∧ w.cell? ⟨b, o + 3, none⟩ = some (.int .u8 A.byte.toNat) ∧ w.cell? ⟨b, o + 4, none⟩ = some (.slice A.ka A.keep.length A.kc) ∧ w.cell? ⟨b, o + 5, none⟩ = some (.int .i64 A.torn) ∧ w.cell? ⟨b, o + 6, none⟩ = some (.int .i64 A.cut)
theorem Act7.of {w : World} {b o : Nat} {A : AV} (h : ∀ i, i < 7 → w.cell? ⟨b, o + i, none⟩ = A.cells[i]?) : Act7 w b o A := ⟨h 0 (by omega), h 1 (by omega), h 2 (by omega), h 3 (by omega), h 4 (by omega), h 5 (by omega), h 6 (by omega)⟩
theorem Act7.kept {w w' : World} {b o : Nat} {A : AV} (h : Act7 w b o A) (hb : w'.heap[b]? = w.heap[b]?) : Act7 w' b o A := by
  obtain ⟨h0, h1, h2, h3, h4, h5, h6⟩ := h
  have e : ∀ j, w'.cell? ⟨b, j, none⟩ = w.cell? ⟨b, j, none⟩ := fun j => World.cell?_of_block (w := w) (w' := w') (a := ⟨b, j, none⟩) hb
  exact ⟨(e _).trans h0, (e _).trans h1, (e _).trans h2, (e _).trans h3, (e _).trans h4, (e _).trans h5, (e _).trans h6⟩

theorem RDev.under {B : Nat} {w w' : World} {b g cap m : Nat} {d d' : Dv} {a : Value} (h : RDev B w a d') (hp : PDev w b g cap m d) (hb : But b g m w w') : RDev B w' a d' := by
  refine ⟨h.row.1, ?_⟩
  rcases h.row.2 with q | ⟨x, c, cur, q1, q2, q3, q4⟩
  · exact Or.inl q
  · obtain ⟨n1, n2, n3⟩ := hp.other q3 (by decide) (by decide)
    exact Or.inr ⟨x, c, cur, q1, q2, hb.obj q3 n1 n2 n3, q4⟩
theorem far_of {B : Nat} {w : World} {a : Option Addr} {xs : List Bool} (h : Bools B w a xs) {b g m : Nat} (h1 : B ≤ b) (h2 : B ≤ g) (h3 : B ≤ m) : Far a xs b g m := by
  rcases h with q | ⟨x, off, q1, q2, _⟩
  · exact Or.inl q
  · refine Or.inr fun y o e => ?_
    rw [q1] at e
    injection e with e
    injection e with e _
    subst e
    exact ⟨by omega, by omega, by omega⟩
/-- A device that a call made lies in a box of its own: made ahead of the call, or behind it. -/
structure Boxed (w wr : World) (tb : Nat) (v : Value) (d : Dv) (wx : World) : Prop where
  box : wx.heap[tb]? = some (.cells #[v, .int .i64 d.ops, .int .i64 d.armed, .bool d.dead] 32 (0, 0))
  ref : RDev w.heap.size wx v d
  old : Below wr.heap.size wr wx
  new : wr.heap.size ≤ tb
theorem boxed_late {w wr w1 : World} {v : Value} {d : Dv} (hr : RDev w.heap.size w1 v d) (hb : Below wr.heap.size wr w1) : Boxed w wr w1.heap.size v d (w1.alloc (.cells #[v, .int .i64 d.ops, .int .i64 d.armed, .bool d.dead] 32)) :=
  ⟨heap_alloc_new _ _, hr.step ((Below.refl _ w1).alloc (Nat.le_refl _) _), hb.alloc hb.size _, hb.size⟩
theorem boxed_early {w wr w1 : World} {v : Value} {d : Dv} {x0 x1 x2 x3 : Value} (hr : RDev w.heap.size w1 v d) (hb : Below (wr.alloc (.cells #[x0, x1, x2, x3] 32)).heap.size (wr.alloc (.cells #[x0, x1, x2, x3] 32)) w1) :
    Boxed w wr wr.heap.size v d ((((w1.setCell ⟨wr.heap.size, 0, none⟩ v).setCell ⟨wr.heap.size, 1, none⟩ (.int .i64 d.ops)).setCell ⟨wr.heap.size, 2, none⟩ (.int .i64 d.armed)).setCell ⟨wr.heap.size, 3, none⟩ (.bool d.dead)) := by
  have h0 : Below wr.heap.size wr w1 := ((Below.refl _ wr).alloc (Nat.le_refl _) _).trans (hb.mono (by simp))
  exact ⟨four_stored8 (old_obj hb (heap_alloc_new _ _)) _ _ _ _, hr.far (heap_alloc_new _ _) hb, four_below8 h0 (Nat.le_refl _) _ _ _ _, Nat.le_refl _⟩

set_option maxRecDepth 100000 in
set_option maxHeartbeats 1000000 in
theorem sectorPlays_walk (w : World) (n : Int) (hn : (Lit.int .i64 n).wf = true) (a : Option Addr) (cap : Nat) (l : List AV) (_hm : l.length ≤ maxLen) (hA : Acts w.heap.size w a l) (x0 x1 : Int) (h0 : Num64 x0) (h1 : Num64 x1) :
    Calls Try.prog 3 #[.int .i64 n, .slice a l.length cap, .agg #[.int .i64 x0, .int .i64 x1]] w fun e w' => e = .returned (.bool true) ∧ Below w.heap.size w w' := by
  have HX := Lib.hid (And.intro h0 h1)
  obtain ⟨C, hC⟩ : ∃ C : Obj, C = .cells #[.int .i64 x0, .int .i64 x1] 23 := ⟨_, rfl⟩
  have hB0 : Below w.heap.size w (w.alloc C) := (Below.refl _ w).alloc (Nat.le_refl _) _
  have hN0 := heap_alloc_new w C
  have hs0 : (w.alloc C).heap.size = w.heap.size + 1 := by simp
  have hA1 : Acts w.heap.size (w.alloc C) a l := hA.below hB0
  have hfew : Calls Try.prog 7 #[.slice a l.length cap] (w.alloc C) fun e w' => e = .returned (.bool (fewB l)) ∧ w.alloc C = w' := few_any a cap l _ (by
    rcases hA1 with q | ⟨b, off, q1, q2, q3⟩
    · exact Or.inl q
    · exact Or.inr ⟨b, off, q1, by omega, fun j hj => ⟨(q3 j hj).1, ⟨(q3 j hj).2.pos, (q3 j hj).2.num, (q3 j hj).2.keep.up (by omega), (q3 j hj).2.few⟩⟩⟩)
  have hn64 := num_of_wf hn
  unfold Num64 at hn64
  by_cases hsmall : fewB l = true ∧ ¬ (60 < n ∧ n ≤ 2000)
  · obtain ⟨hf, hsm⟩ := hsmall
    rw [hf] at hfew
    by_cases hbad : 1 ≤ n ∧ n ≤ 2000
    · have e1 : decide (60 < n) = false := decide_eq_false (by omega)
      have hFA := few_at hf
      have hpn := fun W => pnew_any n hbad.1 hbad.2 W
      have hrn := fun W => rnew_any n hbad.1 hbad.2 W
      have hOK := dv_new_ok n.toNat (by omega) (by omega)
      have hops : (Dv.new n.toNat).ops = 0 := rfl
      have harm : (Dv.new n.toNat).armed = 0 := rfl
      have hded : (Dv.new n.toNat).dead = false := rfl
      have hlen : 0 < (Dv.new n.toNat).cells.length := hOK.some
      obtain ⟨D0, hD0⟩ : ∃ D0, Dv.new n.toNat = D0 := ⟨_, rfl⟩
      have hlen60 : D0.cells.length = n.toNat := by rw [← hD0]; simp [Dv.new]
      rw [hD0] at hops harm hded hOK hlen
      simp only [hD0] at hpn hrn
      have HAw := Lib.hid hA
      have HF := Lib.hid hFA
      have HOPS := Lib.hid (And.intro hops (And.intro harm hded))
      have HOK := Lib.hid hOK
      have HLN := Lib.hid hlen
      have HB0 := Lib.hid hB0
      have HN0 := Lib.hid hN0
      have HS0 := Lib.hid hs0
      clear hf hsm hbad hD0 hFA hops harm hded hlen hOK hA hA1 hn hn64 hlen60
      go_enter Try.func3, Try.ntmps3
      go_upto_region 1 with fail
      rw [← hC]
      generalize w.alloc C = W at *
      go_upto_region 9 with (first
        | (go_at_call 7; refine hfew.mono ?_; rintro e w1 ⟨rfl, rfl⟩)
        | (go_at_call 9; refine (hpn _).mono ?_; rintro e w2 ⟨b, g, cp, m, rfl, hp, hb, hg, hm, hb2⟩; have HP2 := Lib.hid hp; have HB2 := Lib.hid hb2; have HBGM := Lib.hid (And.intro hb (And.intro hg hm)); clear hp hb2 hb hg hm)
        | (go_at_call 10; refine (hrn _).mono ?_; rintro e w3 ⟨a3, rfl, hr3, hb3⟩; obtain ⟨g3, c3, rfl⟩ := Joins.ownsRow_form hr3.row HLN.out; have HR3 := Lib.hid hr3; have HB3 := Lib.hid hb3; clear hr3 hb3))
      have hb2s := HB2.out.size
      have hb3s := HB3.out.size
      have hbgm := HBGM.out
      have hs := HS0.out
      obtain ⟨q0, q1, q2⟩ := HOPS.out
      have hI0 : Hid (PlayI w w3.heap.size b g cp m (.slice (some ⟨g3, 0, none⟩) D0.cells.length c3) D0 (w3.alloc (.cells #[.slice (some ⟨g3, 0, none⟩) D0.cells.length c3, .int .i64 0, .int .i64 0, .bool false] 32))) := Lib.hid (by
        have hba : Below w3.heap.size w3 (w3.alloc (.cells #[.slice (some ⟨g3, 0, none⟩) D0.cells.length c3, .int .i64 0, .int .i64 0, .bool false] 32)) := (Below.refl _ w3).alloc (Nat.le_refl _) _
        have ho3 : Below w.heap.size w w3 := (HB0.out.trans (HB2.out.mono (by omega))).trans (HB3.out.mono (by omega))
        refine ⟨by rw [q0, q1, q2]; exact heap_alloc_new _ _, (HP2.out.step HB3.out).step hba, (HR3.out.mono (by omega)).step hba, ho3.trans (hba.mono (by omega)), by omega, by omega, by omega, by omega⟩)
      have hX0 : Hid (∀ wr, Below w.heap.size w wr → True) := Lib.hid fun _ _ => trivial
      have hXC : Hid ((w3.alloc (.cells #[.slice (some ⟨g3, 0, none⟩) D0.cells.length c3, .int .i64 0, .int .i64 0, .bool false] 32)).heap[w.heap.size]? = some (.cells #[.int .i64 x0, .int .i64 x1] 23 (0, 0))) := Lib.hid (by
        have := HN0.out
        rw [hC] at this
        exact old_obj ((Below.refl _ w3).alloc (Nat.le_refl _) _) (old_obj HB3.out (old_obj HB2.out this)))
      have hs3 : w.heap.size < w3.heap.size := by omega
      generalize w3.heap.size = rb at *
      generalize w3.alloc (.cells #[.slice (some ⟨g3, 0, none⟩) D0.cells.length c3, .int .i64 0, .int .i64 0, .bool false] 32) = W4 at *
      obtain ⟨n0, hn0⟩ : ∃ n0, l.length = n0 := ⟨_, rfl⟩
      have HN := Lib.hid hn0
      have hn60 : n0 ≤ 60 := by have := HF.out.1; omega
      rw [hn0]
      have hOpsI : D0.ops ≤ 101 * ((0 : Nat) : Int) := by omega
      have HOI := Lib.hid hOpsI
      have HS3 := Lib.hid hs3
      have HC := Lib.hid hC
      clear hn0 hOpsI hpn hrn hfew hb2s hb3s hbgm hs q0 q1 q2 hB0 hN0 hs0 hs3 hX0 hC h0 h1
      go_wp2
      go_loopw [7, 11] (fun d' i' wr => ∃ (i b g cp m gA cA : Nat) (d : Dv), d' = .pointer (some ⟨b, 0, none⟩) ∧ i' = .int .i64 i ∧ i ≤ n0 ∧ Hid (PlayI w rb b g cp m (.slice (some ⟨gA, 0, none⟩) d.cells.length cA) d wr) ∧ Hid (d.Ok ∧ d.ops ≤ 101 * (i : Int)) ∧ Hid (wr.heap[w.heap.size]? = some (.cells #[.int .i64 x0, .int .i64 x1] 23 (0, 0)))) (fun _ i _ => n0 - (intOf i).toNat)
      case atStart => exact ⟨0, b, g, cp, m, g3, c3, D0, rfl, rfl, by omega, hI0, Lib.hid ⟨HOK.out, HOI.out⟩, hXC⟩
      case round =>
        clear hI0 hXC HP2 HB2 HBGM HR3 HB3 HOI HOPS HOK HLN HB0 HN0 HS0
        obtain ⟨i, b, g, cp, m, gA, cA, d, rfl, rfl, hi, hI, hD, hx⟩ := hrel
        by_cases hlt : i < n0
        · have i1 : (i : Int) < (n0 : Int) := by omega
          obtain ⟨ba, off, rfl, hba, hc, hG⟩ := (HAw.out.below hI.out.old).at (k := i) (by have := HN.out; omega)
          have hfa := HF.out.2 i (by have := HN.out; omega)
          generalize actAt l i = A at *
          have HK := Lib.hid (Act7.of hc)
          obtain ⟨k0, k1, k2, k3, k4, k5, k6⟩ := HK.out
          have HG := Lib.hid hG
          have HFA := Lib.hid hfa
          have HBA := Lib.hid hba
          obtain ⟨d0, d1, d2, d3, _⟩ := four_cells8 hI.out.box
          have hold := hI.out.old.size
          have hrl := obj_lt hI.out.box
          have hrd : ∀ W', Below wr.heap.size wr W' → Calls Try.prog 11 #[.agg #[.slice (some ⟨gA, 0, none⟩) d.cells.length cA, .int .i64 d.ops, .int .i64 d.armed, .bool d.dead], .agg #[.int .i64 A.kind, .int .i64 A.pos, .int .i64 A.num, .int .u8 A.byte.toNat, .slice A.ka A.keep.length A.kc, .int .i64 A.torn, .int .i64 A.cut]] W' fun e w' => ∃ gB cB, e = .returned (.tuple #[.agg #[.slice (some ⟨gB, 0, none⟩) (d.doA A).cells.length cB, .int .i64 (d.doA A).ops, .int .i64 (d.doA A).armed, .bool (d.doA A).dead], .int .i64 (d.doE A)]) ∧ RDev w.heap.size w' (.slice (some ⟨gB, 0, none⟩) (d.doA A).cells.length cB) (d.doA A) ∧ Below W'.heap.size W' w' := fun W' hb => by
            refine (rdo_any (B := w.heap.size) ⟨hI.out.ref.step hb, by have := hb.size; omega⟩ hD.out.1 (by have := hD.out.2; omega) A hfa.1 hG.pos hfa.2 ((hG.keep.below (hb.mono hold)).up (by have := hb.size; omega))).mono ?_
            rintro e w' ⟨a', rfl, hr, hb'⟩
            obtain ⟨gB, cB, rfl⟩ := Joins.ownsRow_form hr.row (hD.out.1.doA A (by omega)).some
            exact ⟨gB, cB, rfl, hr, hb'⟩
          have HRL := Lib.hid hrl
          clear hc hG hfa hold hrl
          go_upto_region 12 with fail
          have hzb : Below wr.heap.size wr (wr.alloc (.cells #[.slice none 0 0, .int .i64 0, .int .i64 0, .bool false] 32)) := (Below.refl _ wr).alloc (Nat.le_refl _) _
          have hz1 := old_obj hzb hI.out.box
          have hzk := HK.out.kept (hzb.block ba (by have := hI.out.old.size; omega))
          have u1 : ¬ (rb = wr.heap.size) := by have := HRL.out; omega
          have u2 : ¬ (wr.heap.size = rb) := by have := HRL.out; omega
          have u3 : ¬ (ba = wr.heap.size) := by have := hI.out.old.size; omega
          have u4 : ¬ (wr.heap.size = ba) := by have := hI.out.old.size; omega
          have HZB := Lib.hid hzb
          have HZ1 := Lib.hid hz1
          have HZK := Lib.hid hzk
          clear hzb hz1 hzk
          go_cut [12, 13] (fun s12 s13 wx => s13 = .int .i64 (d.doE A) ∧ ∃ (tb gB cB : Nat), s12 = .pointer (some ⟨tb, 0, none⟩) ∧ Hid (Boxed w wr tb (.slice (some ⟨gB, 0, none⟩) (d.doA A).cells.length cB) (d.doA A) wx))
          case first =>
            go_region_held3 (fun w' => w'.cell? ⟨rb, 0, none⟩ = some (.slice (some ⟨gA, 0, none⟩) d.cells.length cA) ∧ w'.cell? ⟨rb, 1, none⟩ = some (.int .i64 d.ops) ∧ w'.cell? ⟨rb, 2, none⟩ = some (.int .i64 d.armed) ∧ w'.cell? ⟨rb, 3, none⟩ = some (.bool d.dead) ∧ w'.cell? ⟨ba, off + i * 7, none⟩ = some (.int .i64 A.kind) ∧ w'.cell? ⟨ba, off + i * 7 + 1, none⟩ = some (.int .i64 A.pos) ∧ w'.cell? ⟨ba, off + i * 7 + 2, none⟩ = some (.int .i64 A.num) ∧ w'.cell? ⟨ba, off + i * 7 + 3, none⟩ = some (.int .u8 A.byte.toNat) ∧ w'.cell? ⟨ba, off + i * 7 + 4, none⟩ = some (.slice A.ka A.keep.length A.kc) ∧ w'.cell? ⟨ba, off + i * 7 + 5, none⟩ = some (.int .i64 A.torn) ∧ w'.cell? ⟨ba, off + i * 7 + 6, none⟩ = some (.int .i64 A.cut)) (go_keep)
            (first
              | (go_at_call 11; refine (hrd wr.drew (Below.refl _ wr).drew).mono ?_; rintro e w1 ⟨gB, cB, rfl, hr1, hb1⟩; have HB1 : Hid (Below wr.heap.size wr w1) := Lib.hid ((Below.refl _ wr).drew.trans hb1); have HR1 := Lib.hid hr1; obtain ⟨d0, d1, d2, d3, _⟩ := four_cells8 (old_obj HB1.out hI.out.box); obtain ⟨k0, k1, k2, k3, k4, k5, k6⟩ := HK.out.kept (HB1.out.block ba (by have := HBA.out; have := hI.out.old.size; omega)); have x1 : ¬ (rb = w1.heap.size) := (by have := HB1.out.size; have := HRL.out; omega); have x2 : ¬ (w1.heap.size = rb) := (by have := HB1.out.size; have := HRL.out; omega); have x3 : ¬ (ba = w1.heap.size) := (by have := HB1.out.size; have := HBA.out; have := hI.out.old.size; omega); have x4 : ¬ (w1.heap.size = ba) := (by have := HB1.out.size; have := HBA.out; have := hI.out.old.size; omega); clear hr1 hb1)
              | (go_at_call 11; refine (hrd (wr.alloc (.cells #[.slice none 0 0, .int .i64 0, .int .i64 0, .bool false] 32)).drew HZB.out.drew).mono ?_; rintro e w1 ⟨gB, cB, rfl, hr1, hb1⟩; have HB1 : Hid (Below (wr.alloc (.cells #[.slice none 0 0, .int .i64 0, .int .i64 0, .bool false] 32)).heap.size (wr.alloc (.cells #[.slice none 0 0, .int .i64 0, .int .i64 0, .bool false] 32)) w1) := Lib.hid ((Below.refl _ (wr.alloc (.cells #[.slice none 0 0, .int .i64 0, .int .i64 0, .bool false] 32))).drew.trans hb1); have HR1 := Lib.hid hr1; obtain ⟨d0, d1, d2, d3, _⟩ := four_cells8 (old_obj HB1.out HZ1.out); obtain ⟨k0, k1, k2, k3, k4, k5, k6⟩ := HZK.out.kept (HB1.out.block ba (by have := HBA.out; have := hI.out.old.size; simp; omega)); obtain ⟨z0, z1, z2, z3, y0, y1, y2, y3⟩ := four_cells8 (old_obj HB1.out (heap_alloc_new _ _)); clear hr1 hb1))
            · go_wp2_with fail
              go_meet
              exact ⟨rfl, w1.heap.size, gB, cB, rfl, Lib.hid (boxed_late HR1.out HB1.out)⟩
            · go_wp2_with fail
              go_meet
              exact ⟨rfl, wr.heap.size, gB, cB, rfl, Lib.hid (boxed_early HR1.out HB1.out)⟩
          case rest =>
            obtain ⟨rfl, tb, gB, cB, rfl, hX⟩ := hcut
            have hP := hI.out.dev.step hX.out.old
            have hfa := HFA.out
            have hol := hI.out.old.size
            have hxs := hX.out.old.size
            have hdo := pdo_any hP hD.out.1 (by have := hD.out.2; omega) A hfa.1 ((HG.out.keep.below (hX.out.old.mono hol)).up (by omega)) (far_of HG.out.keep hI.out.hb hI.out.hg hI.out.hm)
            have hkc := HK.out.kept (hX.out.old.block ba (by have := HBA.out; omega))
            obtain ⟨k0, k1, k2, k3, k4, k5, k6⟩ := hkc
            have htb := hP.other hX.out.box (by decide) (by decide)
            have hrbc := old_obj hX.out.old hI.out.box
            have hrb := hP.other hrbc (by decide) (by decide)
            have hxbc := old_obj hX.out.old hx.out
            have hxb := hP.other hxbc (by decide) (by decide)
            have HP := Lib.hid hP
            have HTB := Lib.hid htb
            have HRB := Lib.hid hrb
            have HXB := Lib.hid hxb
            have HRC := Lib.hid hrbc
            have HXC := Lib.hid hxbc
            unfold AV.val at hdo
            clear hP hfa hol hxs htb hrb hxb hrbc hxbc hrd d0 d1 d2 d3 u1 u2 u3 u4
            go_upto_region 14 with (go_at_call 12; refine hdo.mono ?_; rintro e w2 ⟨b2, g2, cap2, m2, rfl, hp2, ht2, hb2⟩; have HP2 := Lib.hid hp2; have HT2 := Lib.hid ht2; have HB2 := Lib.hid hb2; clear hp2 ht2 hb2)
            have htc := But.obj (k := tb) HB2.out hX.out.box HTB.out.1 HTB.out.2.1 HTB.out.2.2
            have hrc := But.obj (k := rb) HB2.out HRC.out HRB.out.1 HRB.out.2.1 HRB.out.2.2
            obtain ⟨t0, t1, t2, t3, _⟩ := four_cells8 htc
            obtain ⟨d0, d1, d2, d3, f0, f1, f2, f3⟩ := four_cells8 hrc
            have htr : ¬ (tb = rb) := by have := hX.out.new; have := HRL.out; omega
            have htr2 : ¬ (rb = tb) := fun e => htr e.symm
            clear hdo k0 k1 k2 k3 k4 k5 k6
            go_region_held3 (fun w' => w'.cell? ⟨tb, 0, none⟩ = some (.slice (some ⟨gB, 0, none⟩) (d.doA A).cells.length cB) ∧ w'.cell? ⟨tb, 1, none⟩ = some (.int .i64 (d.doA A).ops) ∧ w'.cell? ⟨tb, 2, none⟩ = some (.int .i64 (d.doA A).armed) ∧ w'.cell? ⟨tb, 3, none⟩ = some (.bool (d.doA A).dead)) (go_keep) (fail)
            have hI5 : PlayI w rb b2 g2 cap2 m2 (.slice (some ⟨gB, 0, none⟩) (d.doA A).cells.length cB) (d.doA A) ((((w2.setCell ⟨rb, 0, none⟩ (.slice (some ⟨gB, 0, none⟩) (d.doA A).cells.length cB)).setCell ⟨rb, 1, none⟩ (.int .i64 (d.doA A).ops)).setCell ⟨rb, 2, none⟩ (.int .i64 (d.doA A).armed)).setCell ⟨rb, 3, none⟩ (.bool (d.doA A).dead)).drew := by
              have hn := HP2.out.other hrc (by decide) (by decide)
              have hoth : ∀ k, k ≠ rb → ((((w2.setCell ⟨rb, 0, none⟩ (.slice (some ⟨gB, 0, none⟩) (d.doA A).cells.length cB)).setCell ⟨rb, 1, none⟩ (.int .i64 (d.doA A).ops)).setCell ⟨rb, 2, none⟩ (.int .i64 (d.doA A).armed)).setCell ⟨rb, 3, none⟩ (.bool (d.doA A).dead)).drew.heap[k]? = w2.heap[k]? := fun k hk => by
                show ((((w2.setCell ⟨rb, 0, none⟩ _).setCell ⟨rb, 1, none⟩ _).setCell ⟨rb, 2, none⟩ _).setCell ⟨rb, 3, none⟩ _).heap[k]? = _
                rw [cell_else _ _ _ _ _ hk, cell_else _ _ _ _ _ hk, cell_else _ _ _ _ _ hk, cell_else _ _ _ _ _ hk]
              have hol := hI.out.old.size
              have hxs := hX.out.old.size
              have hw2 : Below w.heap.size w w2 := (hI.out.old.trans (hX.out.old.mono hol)).trans (HB2.out.below hI.out.hb hI.out.hg hI.out.hm (by omega))
              have hbs : w.heap.size ≤ b2 ∧ w.heap.size ≤ g2 ∧ w.heap.size ≤ m2 := by
                rcases HT2.out with ⟨e1, e2, e3⟩ | ⟨e1, e2, e3⟩
                · rw [e1, e2, e3]; exact ⟨hI.out.hb, hI.out.hg, hI.out.hm⟩
                · exact ⟨by omega, by omega, by omega⟩
              refine ⟨four_stored8 hrc _ _ _ _, HP2.out.kept (hoth _ (fun e => hn.1 e.symm)) (hoth _ (fun e => hn.2.1 e.symm)) (hoth _ (fun e => hn.2.2 e.symm)), ?_, (four_below8 hw2 hI.out.hr _ _ _ _).drew, hbs.1, hbs.2.1, hbs.2.2, hI.out.hr⟩
              have := (hX.out.ref.under HP.out HB2.out).far hrc (Below.refl _ _) (x := .slice (some ⟨gB, 0, none⟩) (d.doA A).cells.length cB) (y := .int .i64 (d.doA A).ops) (z := .int .i64 (d.doA A).armed) (u := .bool (d.doA A).dead)
              exact ⟨this.row.drew⟩
            have hx5 : ((((w2.setCell ⟨rb, 0, none⟩ (.slice (some ⟨gB, 0, none⟩) (d.doA A).cells.length cB)).setCell ⟨rb, 1, none⟩ (.int .i64 (d.doA A).ops)).setCell ⟨rb, 2, none⟩ (.int .i64 (d.doA A).armed)).setCell ⟨rb, 3, none⟩ (.bool (d.doA A).dead)).drew.heap[w.heap.size]? = some (.cells #[.int .i64 x0, .int .i64 x1] 23 (0, 0)) := by
              have h2 := But.obj (k := w.heap.size) HB2.out HXC.out HXB.out.1 HXB.out.2.1 HXB.out.2.2
              have hk : w.heap.size ≠ rb := by have := HS3.out; omega
              show ((((w2.setCell ⟨rb, 0, none⟩ _).setCell ⟨rb, 1, none⟩ _).setCell ⟨rb, 2, none⟩ _).setCell ⟨rb, 3, none⟩ _).heap[w.heap.size]? = _
              rw [cell_else _ _ _ _ _ hk, cell_else _ _ _ _ _ hk, cell_else _ _ _ _ _ hk, cell_else _ _ _ _ _ hk]
              exact h2
            have hOK5 := hD.out.1.doA A (by have := HFA.out.1; omega)
            have hop5 := do_ops d A HFA.out.1
            have HD5 : Hid ((d.doA A).Ok ∧ (d.doA A).ops ≤ 101 * ((i + 1 : Nat) : Int)) := Lib.hid ⟨hOK5, by have := hD.out.2; omega⟩
            generalize (((((w2.setCell ⟨rb, 0, none⟩ (.slice (some ⟨gB, 0, none⟩) (d.doA A).cells.length cB)).setCell ⟨rb, 1, none⟩ (.int .i64 (d.doA A).ops)).setCell ⟨rb, 2, none⟩ (.int .i64 (d.doA A).armed)).setCell ⟨rb, 3, none⟩ (.bool (d.doA A).dead)).drew) = W5 at *
            clear t0 t1 t2 t3 d0 d1 d2 d3 f0 f1 f2 f3 htr htr2 htc hrc hop5 HRC HXC HRB HXB HTB HP HB2 HT2 HP2 hX HZB HZ1 HZK HK HG
            generalize hdd : d.doA A = D at *
            generalize d.doE A = E at *
            have hsame := same8_any hI5.dev hI5.ref hOK5
            obtain ⟨d0, d1, d2, d3, _⟩ := four_cells8 hI5.box
            have HI5 := Lib.hid hI5
            have HX5 := Lib.hid hx5
            clear hdd hI5 hx5 hOK5
            go_upto_region 17 with (go_at_call 13; refine hsame.mono ?_; rintro e w6 ⟨rfl, hb6⟩; have HI6 := Lib.hid (HI5.out.step hb6); have HX6 := Lib.hid (old_obj hb6 HX5.out); clear hb6)
            obtain ⟨x0c, x1c⟩ : w6.cell? ⟨w.heap.size, 0, none⟩ = some (.int .i64 x0) ∧ w6.cell? ⟨w.heap.size, 1, none⟩ = some (.int .i64 x1) := ⟨cell_of (j := 0) HX6.out rfl, cell_of (j := 1) HX6.out rfl⟩
            have hrd := pread_any HI6.out.dev HD5.out.1 x0 x1 HX.out.2.2
            have hrr : ∀ W', Below w6.heap.size w6 W' → Calls Try.prog 15 #[.agg #[.slice (some ⟨gB, 0, none⟩) D.cells.length cB, .int .i64 D.ops, .int .i64 D.armed, .bool D.dead], .int .i64 x0, .int .i64 x1] W' fun e w' => e = .returned (.tuple #[.string (D.readT x0 x1), .int .i64 (D.readE x0 x1)]) ∧ Below W'.heap.size W' w' := fun W' hb => rread_any w.heap.size _ D x0 x1 HX.out.1.1 HX.out.1.2 HD5.out.1.fit HD5.out.1.some HD5.out.1.few W' (HI6.out.ref.step hb)
            clear d0 d1 d2 d3 hsame
            generalize D.readT x0 x1 = RT at *
            generalize D.readE x0 x1 = RE at *
            go_upto_region 19 with (first
              | (go_at_call 14; refine hrd.mono ?_; rintro e w7 ⟨rfl, hb7⟩; have HB7 := Lib.hid hb7; obtain ⟨d0, d1, d2, d3, _⟩ := four_cells8 (old_obj hb7 HI6.out.box); obtain ⟨x0c, x1c⟩ : w7.cell? ⟨w.heap.size, 0, none⟩ = some (.int .i64 x0) ∧ w7.cell? ⟨w.heap.size, 1, none⟩ = some (.int .i64 x1) := ⟨cell_of (j := 0) (old_obj hb7 HX6.out) rfl, cell_of (j := 1) (old_obj hb7 HX6.out) rfl⟩; clear hb7)
              | (go_at_call 15; refine (hrr _ HB7.out).mono ?_; rintro e w8 ⟨rfl, hb8⟩; have HB8 : Hid (Below w6.heap.size w6 w8) := Lib.hid (HB7.out.trans (hb8.mono HB7.out.size)); clear hb8))
            clear hrd hrr
            go_wp2
            go_roundw
            case rel => exact ⟨i + 1, b2, g2, cap2, m2, gB, cB, D, rfl, by go_num, by omega, Lib.hid (HI6.out.step HB8.out), HD5, Lib.hid (old_obj HB8.out HX6.out)⟩
            case measure => simp [intOf]; omega
        · obtain rfl : i = n0 := by omega
          go_wp2_with (go_at_call 8; refine (awake_any _).mono ?_; rintro e w2 ⟨rfl, hb2⟩)
          go_ret
          exact ⟨rfl, hI.out.old.trans (hb2.mono hI.out.old.size)⟩
    · have hpn := fun W => pnew_bad n hbad W
      have hrn := fun W => rnew_bad n hbad W
      unfold zeroDev at hrn
      by_cases q : 60 < n
      · have e1 : decide (60 < n) = true := decide_eq_true q
        have e2 : decide (n ≤ 2000) = false := decide_eq_false (by omega)
        clear hf hsm hbad hA hA1 q
        go_enter Try.func3, Try.ntmps3
        go_upto_region 1 with fail
        rw [← hC]
        generalize w.alloc C = W at *
        go_wp2_with (first
          | (go_at_call 7; refine hfew.mono ?_; rintro e w1 ⟨rfl, rfl⟩)
          | (go_at_call 9; refine (hpn _).mono ?_; rintro e w1 ⟨rfl, rfl⟩)
          | (go_at_call 10; refine (hrn _).mono ?_; rintro e w1 ⟨rfl, hb1⟩)
          | (go_at_call 8; refine (awake_any _).mono ?_; rintro e w2 ⟨rfl, hb2⟩))
        go_ret
        exact ⟨rfl, (hB0.trans (hb1.mono hB0.size)).trans (((Below.refl _ w1).alloc (Nat.le_refl _) _).mono (hB0.trans (hb1.mono hB0.size)).size |>.trans (hb2.mono (by simp; have := hB0.size; have := hb1.size; omega)))⟩
      · have e1 : decide (60 < n) = false := decide_eq_false q
        clear hf hsm hbad hA hA1 q
        go_enter Try.func3, Try.ntmps3
        go_upto_region 1 with fail
        rw [← hC]
        generalize w.alloc C = W at *
        go_wp2_with (first
          | (go_at_call 7; refine hfew.mono ?_; rintro e w1 ⟨rfl, rfl⟩)
          | (go_at_call 9; refine (hpn _).mono ?_; rintro e w1 ⟨rfl, rfl⟩)
          | (go_at_call 10; refine (hrn _).mono ?_; rintro e w1 ⟨rfl, hb1⟩)
          | (go_at_call 8; refine (awake_any _).mono ?_; rintro e w2 ⟨rfl, hb2⟩))
        go_ret
        exact ⟨rfl, (hB0.trans (hb1.mono hB0.size)).trans (((Below.refl _ w1).alloc (Nat.le_refl _) _).mono (hB0.trans (hb1.mono hB0.size)).size |>.trans (hb2.mono (by simp; have := hB0.size; have := hb1.size; omega)))⟩
  · cases hf : fewB l with
    | false =>
      rw [hf] at hfew
      clear hsmall hf hA hA1
      go_enter Try.func3, Try.ntmps3
      go_upto_region 1 with fail
      rw [← hC]
      generalize w.alloc C = W at *
      go_wp2_with (first
        | (go_at_call 7; refine hfew.mono ?_; rintro e w1 ⟨rfl, rfl⟩)
        | (go_at_call 8; refine (awake_any _).mono ?_; rintro e w2 ⟨rfl, hb2⟩))
      go_ret
      exact ⟨rfl, hB0.trans (hb2.mono hB0.size)⟩
    | true =>
      have hbig : 60 < n ∧ n ≤ 2000 := by
        by_cases q : 60 < n ∧ n ≤ 2000
        · exact q
        · exact absurd ⟨hf, q⟩ hsmall
      have e1 : decide (60 < n) = true := decide_eq_true hbig.1
      have e2 : decide (n ≤ 2000) = true := decide_eq_true hbig.2
      rw [hf] at hfew
      clear hsmall hf hA hA1 hbig
      go_enter Try.func3, Try.ntmps3
      go_upto_region 1 with fail
      rw [← hC]
      generalize w.alloc C = W at *
      go_wp2_with (first
        | (go_at_call 7; refine hfew.mono ?_; rintro e w1 ⟨rfl, rfl⟩)
        | (go_at_call 8; refine (awake_any _).mono ?_; rintro e w2 ⟨rfl, hb2⟩))
      go_ret
      exact ⟨rfl, hB0.trans (hb2.mono hB0.size)⟩
end Go.Proofs.Ytocengdojdeiiaa
