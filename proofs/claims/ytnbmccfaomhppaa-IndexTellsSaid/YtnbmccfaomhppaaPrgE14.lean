/- The program's put: a copy of an index in which a key stands under other numbers, for every index and in every world. (Written by gen_prge14.py.) -/
import Derived.Test.YtnbmccfaomhppaaFind
import Derived.Test.YtnbmccfaomhppaaPrgD14
namespace Go.Proofs.Ytnbmccfaomhppaa
open Go.RowKit

/-- Blocks other than g, h and the next ones. -/
def Av (g h b : Nat) : Prop := Off g b ∧ Off h b
theorem av_no {g h : Nat} : ¬ Av g h h ∧ ¬ Av g h (h + 1) := by unfold Av Off; omega
/-- An index whose rows lie from a block on, its slices of numbers neither in block g nor in the next one. -/
structure Ix2 (g A : Nat) (w : World) (ka : Option Addr) (kc : Nat) (ia : Option Addr) (ic : Nat) (K : List (List UInt8)) (I : List (List Int)) (cs : List Value) : Prop where
  keys : Txs A w.heap.size w ka K
  row : Rw A w.heap.size w ia cs
  ls : LsC (Off g) w.heap.size w cs I
  kcap : K.length ≤ kc
  icap : I.length ≤ ic
theorem Ix2.ixv {g A : Nat} {w : World} {ka : Option Addr} {kc : Nat} {ia : Option Addr} {ic : Nat} {K : List (List UInt8)} {I : List (List Int)} {cs : List Value} (h : Ix2 g A w ka kc ia ic K I cs) : IxV w ka kc ia ic K I ∧ Lists A w.heap.size w ia I :=
  ⟨⟨h.keys.wide (Nat.zero_le _) (Nat.le_refl _), (cells_lists h.row h.ls).wide (Nat.zero_le _) (Nat.le_refl _), h.kcap, h.icap⟩, cells_lists h.row h.ls⟩
/-- Under way: the index in its box, the place of what is told, and how the index's rows lie. -/
structure Pt14 (g : Nat) (w : World) (ka : Option Addr) (kc : Nat) (ia : Option Addr) (ic : Nat) (K : List (List UInt8)) (I : List (List Int)) (cs : List Value) (W : World) : Prop where
  old : Below w.heap.size w W
  src : W.heap[w.heap.size]? = some (.cells #[.slice ka K.length kc, .slice ia I.length ic] 25 (0, 0))
  res : W.heap[w.heap.size + 1]? = some (.cells #[.slice none 0 0, .slice none 0 0] 25 (0, 0))
  keys : Txs (w.heap.size + 2) W.heap.size W ka K
  row : Rw (w.heap.size + 2) W.heap.size W ia cs
  ls : LsC (Av g w.heap.size) W.heap.size W cs I
  kcap : K.length ≤ kc
  icap : I.length ≤ ic
theorem Rw.set14 {A : Nat} {w : World} {a : Option Addr} {cs : List Value} (h : Rw A w.heap.size w a cs) {p : Addr} (hp : p.block < A) (u : Value) : Rw A (w.setCell p u).heap.size (w.setCell p u) a cs := by
  rcases h with h | ⟨b, off, ha, hA, hB, hc⟩
  · exact Or.inl h
  · refine Or.inr ⟨b, off, ha, hA, by rw [World.size_setCell]; exact hB, fun j v hj => ?_⟩
    rw [World.cell?_setCell_other w p ⟨b, off + j, none⟩ u (fun e => by subst e; simp at hp; omega)]
    exact hc j v hj
theorem Pt14.step {g : Nat} {w : World} {ka : Option Addr} {kc : Nat} {ia : Option Addr} {ic : Nat} {K : List (List UInt8)} {I : List (List Int)} {cs : List Value} {W V : World} (h : Pt14 g w ka kc ia ic K I cs W) (hb : Below W.heap.size W V) : Pt14 g w ka kc ia ic K I cs V :=
  ⟨h.old.trans (hb.mono h.old.size), old_obj hb h.src, old_obj hb h.res, h.keys.step hb, Rw.step h.row hb, h.ls.step hb, h.kcap, h.icap⟩
theorem Pt14.facts {g : Nat} {w : World} {ka : Option Addr} {kc : Nat} {ia : Option Addr} {ic : Nat} {K : List (List UInt8)} {I : List (List Int)} {cs : List Value} {W : World} (h : Pt14 g w ka kc ia ic K I cs W) :
    W.cell? ⟨w.heap.size, 0, none⟩ = some (.slice ka K.length kc) ∧ W.cell? ⟨w.heap.size, 1, none⟩ = some (.slice ia I.length ic) ∧ W.frozen? ⟨w.heap.size, 0, none⟩ = false ∧ W.frozen? ⟨w.heap.size, 1, none⟩ = false :=
  ⟨cell_of h.src rfl, cell_of h.src rfl, frozen_of_row _ _ 0 _ _ h.src, frozen_of_row _ _ 1 _ _ h.src⟩
theorem Pt14.facts2 {g : Nat} {w : World} {ka : Option Addr} {kc : Nat} {ia : Option Addr} {ic : Nat} {K : List (List UInt8)} {I : List (List Int)} {cs : List Value} {W : World} (h : Pt14 g w ka kc ia ic K I cs W) :
    W.cell? ⟨w.heap.size + 1, 0, none⟩ = some (.slice none 0 0) ∧ W.cell? ⟨w.heap.size + 1, 1, none⟩ = some (.slice none 0 0) ∧ W.frozen? ⟨w.heap.size + 1, 0, none⟩ = false ∧ W.frozen? ⟨w.heap.size + 1, 1, none⟩ = false :=
  ⟨cell_of h.res rfl, cell_of h.res rfl, frozen_of_row _ _ 0 _ _ h.res, frozen_of_row _ _ 1 _ _ h.res⟩
theorem Pt14.set0 {g : Nat} {w : World} {ka : Option Addr} {kc : Nat} {ia : Option Addr} {ic : Nat} {K : List (List UInt8)} {I : List (List Int)} {cs : List Value} {W : World} (h : Pt14 g w ka kc ia ic K I cs W) {ka' : Option Addr} {kc' : Nat} {K' : List (List UInt8)} (hk : Txs (w.heap.size + 2) W.heap.size W ka' K') (hc : K'.length ≤ kc') : Pt14 g w ka' kc' ia ic K' I cs (W.setCell ⟨w.heap.size, 0, none⟩ (.slice ka' K'.length kc')) := by
  refine ⟨h.old.setCell (p := ⟨w.heap.size, 0, none⟩) (Nat.le_refl _) _, heap_setCell_same W _ 0 _ _ _ h.src, ?_, hk.set14 (by simp) _, h.row.set14 (by simp) _, h.ls.set av_no.1 _, hc, h.icap⟩
  rw [heap_setCell_other W ⟨w.heap.size, 0, none⟩ _ _ (by simp)]; exact h.res
theorem Pt14.set1 {g : Nat} {w : World} {ka : Option Addr} {kc : Nat} {ia : Option Addr} {ic : Nat} {K : List (List UInt8)} {I : List (List Int)} {cs : List Value} {W : World} (h : Pt14 g w ka kc ia ic K I cs W) {ia' : Option Addr} {ic' : Nat} {I' : List (List Int)} {cs' : List Value} (hr : Rw (w.heap.size + 2) W.heap.size W ia' cs') (hl : LsC (Av g w.heap.size) W.heap.size W cs' I') (hc : I'.length ≤ ic') : Pt14 g w ka kc ia' ic' K I' cs' (W.setCell ⟨w.heap.size, 1, none⟩ (.slice ia' I'.length ic')) := by
  refine ⟨h.old.setCell (p := ⟨w.heap.size, 1, none⟩) (Nat.le_refl _) _, heap_setCell_same W _ 1 _ _ _ h.src, ?_, h.keys.set14 (by simp) _, hr.set14 (by simp) _, hl.set av_no.1 _, h.kcap, hc⟩
  rw [heap_setCell_other W ⟨w.heap.size, 1, none⟩ _ _ (by simp)]; exact h.res
/-- The copy in the box. -/
theorem Pt14.start {g : Nat} {w V : World} {ka : Option Addr} {kc : Nat} {ia : Option Addr} {ic : Nat} {K : List (List UInt8)} {I : List (List Int)} {x y : Value} (hg : g + 2 ≤ w.heap.size) (hb : Below w.heap.size w V) (hs : V.heap[w.heap.size]? = some (.cells #[x, y] 25 (0, 0))) (hr : V.heap[w.heap.size + 1]? = some (.cells #[.slice none 0 0, .slice none 0 0] 25 (0, 0)))
    (hk : Txs (w.heap.size + 2) V.heap.size V ka K) (hi : ListsN (w.heap.size + 2) V.heap.size V ia I) (hkc : K.length ≤ kc) (hic : I.length ≤ ic) : ∃ cs, Pt14 g w ka kc ia ic K I cs ((V.setCell ⟨w.heap.size, 0, none⟩ (.slice ka K.length kc)).setCell ⟨w.heap.size, 1, none⟩ (.slice ia I.length ic)) := by
  obtain ⟨cs, h1, h2⟩ := lists_cells (P := Av g w.heap.size) (fun b hb => by unfold Av Off; omega) hi
  refine ⟨cs, two_below14 hb (Nat.le_refl _) _ _, two_stored14 hs _ _, ?_, (hk.set14 (by simp) _).set14 (by simp) _, (h1.set14 (by simp) _).set14 (by simp) _, (h2.set av_no.1 _).set av_no.1 _, hkc, hic⟩
  rw [heap_setCell_other _ ⟨w.heap.size, 1, none⟩ _ _ (by simp), heap_setCell_other _ ⟨w.heap.size, 0, none⟩ _ _ (by simp)]; exact hr
/-- What is told. -/
theorem Pt14.told {g : Nat} {w : World} {ka : Option Addr} {kc : Nat} {ia : Option Addr} {ic : Nat} {K : List (List UInt8)} {I : List (List Int)} {cs : List Value} {W : World} (h : Pt14 g w ka kc ia ic K I cs W) (x y : Value) :
    Ix2 g w.heap.size ((W.setCell ⟨w.heap.size + 1, 0, none⟩ x).setCell ⟨w.heap.size + 1, 1, none⟩ y) ka kc ia ic K I cs ∧ Below w.heap.size w ((W.setCell ⟨w.heap.size + 1, 0, none⟩ x).setCell ⟨w.heap.size + 1, 1, none⟩ y) := by
  have hl := (h.ls.set (p := ⟨w.heap.size + 1, 0, none⟩) av_no.2 x).set (p := ⟨w.heap.size + 1, 1, none⟩) av_no.2 y
  have hk := (h.keys.set14 (p := ⟨w.heap.size + 1, 0, none⟩) (by simp) x).set14 (p := ⟨w.heap.size + 1, 1, none⟩) (by simp) y
  have hr := (h.row.set14 (p := ⟨w.heap.size + 1, 0, none⟩) (by simp) x).set14 (p := ⟨w.heap.size + 1, 1, none⟩) (by simp) y
  exact ⟨⟨hk.wide (by omega) (Nat.le_refl _), hr.wide (by omega) (Nat.le_refl _), hl.imp fun b _ q => q.1, h.kcap, h.icap⟩, two_below14 h.old (by omega) _ _⟩
set_option maxRecDepth 100000 in
set_option maxHeartbeats 4000000 in
theorem pput_set (ka : Option Addr) (kc : Nat) (ia : Option Addr) (ic : Nat) (K : List (List UInt8)) (I : List (List Int)) (s : List UInt8) (b : Option Addr) (bc : Nat) (l : List Int) (w : World) (hx : IxV w ka kc ia ic K I) (hs : Small14 K I) (hf : fineK K I) (g : Nat) (hg : g + 2 ≤ w.heap.size) (hl : IntsO (Off g) w.heap.size w b l) (hbc : l.length ≤ bc) (hll : l.length ≤ 600000)
    (p : Nat) (hp : p < K.length) (hne : 0 < l.length) (e1 : findI (K.map tx) (tx s) = p) (e2 : findB (K.map tx) (tx s) = true) :
    Calls Try.prog 31 #[ixVal ka kc ia ic K I, .string (tx s), .slice b l.length bc] w fun e w' => ∃ ka' kc' ia' ic' cs', e = .returned (ixVal ka' kc' ia' ic' (with13 (less13 K p) p s) (with13 (less13 I p) p l)) ∧ Ix2 g w.heap.size w' ka' kc' ia' ic' (with13 (less13 K p) p s) (with13 (less13 I p) p l) cs' ∧ Below w.heap.size w w' := by
  have hlen : I.length = K.length := hf.2.1.symm
  obtain ⟨V0, hV0⟩ : ∃ V0, (w.alloc (.cells #[.slice ka K.length kc, .slice ia I.length ic] 25)).alloc (.cells #[.slice none 0 0, .slice none 0 0] 25) = V0 := ⟨_, rfl⟩
  have hb0 : Below w.heap.size w V0 := by rw [← hV0]; exact ((Below.refl _ w).alloc (Nat.le_refl _) _).alloc (by simp) _
  have hsz0 : V0.heap.size = w.heap.size + 2 := by rw [← hV0]; simp
  have hs0 : V0.heap[w.heap.size]? = some (.cells #[.slice ka K.length kc, .slice ia I.length ic] 25 (0, 0)) := by rw [← hV0]; exact heap_alloc2_old w _ _
  have hr0 : V0.heap[w.heap.size + 1]? = some (.cells #[.slice none 0 0, .slice none 0 0] 25 (0, 0)) := by rw [← hV0]; exact heap_alloc2_new w _ _
  have hcl := pclone14_any ka kc ia ic K I V0 (hx.step hb0) hs
  rw [← hV0] at hcl
  have HS := Lib.hid hs
  have HKL : Hid (I.length = K.length) := Lib.hid hlen
  have HL := Lib.hid hl
  have HBC := Lib.hid hbc
  have H0 : Hid (Below w.heap.size w V0 ∧ V0.heap.size = w.heap.size + 2 ∧ V0.heap[w.heap.size]? = some (.cells #[.slice ka K.length kc, .slice ia I.length ic] 25 (0, 0)) ∧ V0.heap[w.heap.size + 1]? = some (.cells #[.slice none 0 0, .slice none 0 0] 25 (0, 0)) ∧ (w.alloc (.cells #[.slice ka K.length kc, .slice ia I.length ic] 25)).alloc (.cells #[.slice none 0 0, .slice none 0 0] 25) = V0) := Lib.hid ⟨hb0, hsz0, hs0, hr0, hV0⟩
  have HE : Hid (findI (K.map tx) (tx s) = p ∧ findB (K.map tx) (tx s) = true) := Lib.hid ⟨e1, e2⟩
  have HP := Lib.hid hp
  have hd : decide (0 < (l.length : Int)) = true := decide_eq_true (by omega)
  have hd' : decide (0 < l.length) = true := decide_eq_true (by omega)
  clear hx hs hf hl hbc hlen hb0 hsz0 hs0 hr0 hV0 e1 e2 hp
  go_enter Try.func31, Try.ntmps31
  go_upto_region 2 with (go_at_call 45; refine hcl.mono ?_; rintro e w2 ⟨k1, kc1, i1, ic1, rfl, hkc1, hic1, hk1, hi1, hb1⟩; rw [H0.out.2.2.2.2] at hk1 hi1 hb1; have H1 := Lib.hid (And.intro hkc1 (And.intro hic1 (And.intro hk1 (And.intro hi1 hb1)))); have g0 := old_obj hb1 H0.out.2.2.1; have c0 := cell_of (j := 0) g0 rfl; have c1 := cell_of (j := 1) g0 rfl; have f0 := frozen_of_row _ _ 0 _ _ g0; have f1 := frozen_of_row _ _ 1 _ _ g0; have G0 := Lib.hid g0; clear hkc1 hic1 hk1 hi1 hb1 g0)
  obtain ⟨cs, hpt⟩ := Pt14.start (g := g) (w := w) (V := w2) (kc := kc1) (ic := ic1) hg (H0.out.1.trans (H1.out.2.2.2.2.mono (by have := H0.out.2.1; omega))) G0.out (old_obj H1.out.2.2.2.2 H0.out.2.2.2.1) (by have := H1.out.2.2.1; rw [H0.out.2.1] at this; exact this) (by have := H1.out.2.2.2.1; rw [H0.out.2.1] at this; exact this) H1.out.1 H1.out.2.1
  obtain ⟨V1, hV1⟩ : ∃ V1, (w2.setCell ⟨w.heap.size, 0, none⟩ (.slice k1 K.length kc1)).setCell ⟨w.heap.size, 1, none⟩ (.slice i1 I.length ic1) = V1 := ⟨_, rfl⟩
  rw [hV1] at hpt ⊢
  have P1 := Lib.hid hpt
  have hfd := find_any k1 kc1 (K.map tx) (tx s) V1 (by rw [List.length_map]; have := HS.out.1; omega) (texts_txs (hpt.keys.wide (Nat.zero_le _) (Nat.le_refl _)))
  rw [List.length_map, HE.out.1, HE.out.2] at hfd
  clear c0 c1 f0 f1 hcl H0 H1 G0 hpt hV1
  obtain ⟨c0, c1, f0, f1⟩ := P1.out.facts
  go_upto_region 4 with (go_at_call 46; refine hfd.mono ?_; rintro e w3 ⟨rfl, hb⟩; have P3 := Lib.hid (P1.out.step hb); clear hb)
  clear c0 c1 f0 f1 P1 hfd
  obtain ⟨c0, c1, f0, f1⟩ := P3.out.facts
  have hok := less_ok (l := K) HP.out
  have hcall := qless_any k1 kc1 K (p : Int) (w.heap.size + 2) w3 P3.out.kcap P3.out.keys (by have := HS.out.1; omega)
  rw [hok.1, hok.2] at hcall
  clear hok
  go_upto_region 5 with (go_at_call 47; refine hcall.mono ?_; rintro e w4 ⟨k4, kc4, rfl, hkc, hk, hb⟩; have hpt := P3.out.step hb; have P4a := Lib.hid hpt; have HK4 := Lib.hid (And.intro hkc (hk.wide (A' := w.heap.size + 2) (by have := obj_lt P3.out.res; omega) (Nat.le_refl _))); obtain ⟨d0, d1, g0, g1⟩ := hpt.facts; clear hpt hkc hk hb)
  obtain ⟨V4, hV⟩ : ∃ V4, w4.setCell ⟨w.heap.size, 0, none⟩ (.slice k4 (less13 K p).length kc4) = V4 := ⟨_, rfl⟩
  have hpt := P4a.out.set0 HK4.out.2 HK4.out.1
  rw [hV] at hpt ⊢
  have P4 := Lib.hid hpt
  clear c0 c1 f0 f1 d0 d1 g0 g1 hV hpt hcall P4a HK4
  obtain ⟨c0, c1, f0, f1⟩ := P4.out.facts
  have hlc := P4.out.ls.1
  have hok := less_ok (l := cs) (p := p) (by rw [hlc]; have := HP.out; have := HKL.out; omega)
  have hcall := pless_ls i1 I.length ic1 (p : Int) cs (w.heap.size + 2) V4 hlc P4.out.icap (by have := HS.out.2.1; omega) P4.out.row P4.out.ls.one
  rw [hlc] at hok
  rw [hok.1, hok.2] at hcall
  have hlc2 : (less13 cs p).length = (less13 I p).length := by have hq : p < I.length := (by have := HP.out; have := HKL.out; omega); rw [less_len cs p (by omega), less_len I p hq, hlc]
  unfold GivesC at hcall
  rw [hlc2] at hcall
  clear hok hlc hlc2
  go_upto_region 6 with (go_at_call 48; refine hcall.mono ?_; rintro e w5 ⟨i5, ic5, rfl, hic, hr, hb⟩; have hpt := P4.out.step hb; have P5a := Lib.hid hpt; have HI5 := Lib.hid (And.intro hic (hr.wide (A' := w.heap.size + 2) (by have := obj_lt P4.out.res; omega) (Nat.le_refl _))); obtain ⟨d0, d1, g0, g1⟩ := hpt.facts; clear hpt hic hr hb)
  obtain ⟨V5, hV⟩ : ∃ V5, w5.setCell ⟨w.heap.size, 1, none⟩ (.slice i5 (less13 I p).length ic5) = V5 := ⟨_, rfl⟩
  have hpt := P5a.out.set1 (cs' := less13 cs p) HI5.out.2 (P5a.out.ls.less (by have := HP.out; have := HKL.out; omega)) HI5.out.1
  rw [hV] at hpt ⊢
  have P5 := Lib.hid hpt
  clear c0 c1 f0 f1 d0 d1 g0 g1 hV hpt hcall P5a HI5
  obtain ⟨c0, c1, f0, f1⟩ := P5.out.facts
  have hok := with_ok (l := less13 K p) (p := p) (by rw [less_len K p HP.out]; have := HP.out; omega) s
  have hcall := qwith_any k4 kc4 (less13 K p) (p : Int) s (w.heap.size + 2) V5 P5.out.kcap P5.out.keys (by rw [less_len K p HP.out]; have := HS.out.1; omega)
  rw [hok.1, hok.2] at hcall
  clear hok
  go_upto_region 8 with (go_at_call 49; refine hcall.mono ?_; rintro e w6 ⟨k6, kc6, rfl, hkc, hk, hb⟩; have hpt := P5.out.step hb; have P6a := Lib.hid hpt; have HK6 := Lib.hid (And.intro hkc (hk.wide (A' := w.heap.size + 2) (by have := obj_lt P5.out.res; omega) (Nat.le_refl _))); obtain ⟨d0, d1, g0, g1⟩ := hpt.facts; clear hpt hkc hk hb)
  obtain ⟨V6, hV⟩ : ∃ V6, w6.setCell ⟨w.heap.size, 0, none⟩ (.slice k6 (with13 (less13 K p) p s).length kc6) = V6 := ⟨_, rfl⟩
  have hpt := P6a.out.set0 HK6.out.2 HK6.out.1
  rw [hV] at hpt ⊢
  have P6 := Lib.hid hpt
  clear c0 c1 f0 f1 d0 d1 g0 g1 hV hpt hcall P6a HK6
  obtain ⟨c0, c1, f0, f1⟩ := P6.out.facts
  have hlc := P6.out.ls.1
  have hok := with_ok (l := less13 cs p) (p := p) (by rw [hlc]; exact (by have hq : p < I.length := (by have := HP.out; have := HKL.out; omega); rw [less_len I p hq]; omega)) (.slice b l.length bc)
  have hcall := pwith_ls i5 (less13 I p).length ic5 (p : Int) (b, l.length, bc) (less13 cs p) (w.heap.size + 2) V6 hlc P6.out.icap (by have hq : p < I.length := (by have := HP.out; have := HKL.out; omega); rw [less_len I p hq]; have := HS.out.2.1; omega) P6.out.row P6.out.ls.one
  rw [hlc] at hok
  rw [hok.1, hok.2] at hcall
  have hlc2 : (with13 (less13 cs p) p (.slice b l.length bc)).length = (with13 (less13 I p) p l).length := by rw [with_len (less13 cs p) p _ (by rw [hlc]; exact (by have hq : p < I.length := (by have := HP.out; have := HKL.out; omega); rw [less_len I p hq]; omega)), with_len (less13 I p) p _ (by have hq : p < I.length := (by have := HP.out; have := HKL.out; omega); rw [less_len I p hq]; omega), hlc]
  unfold GivesC at hcall
  rw [hlc2] at hcall
  clear hok hlc hlc2
  go_upto_region 9 with (go_at_call 50; refine hcall.mono ?_; rintro e w7 ⟨i7, ic7, rfl, hic, hr, hb⟩; have hpt := P6.out.step hb; have P7a := Lib.hid hpt; have HI7 := Lib.hid (And.intro hic (hr.wide (A' := w.heap.size + 2) (by have := obj_lt P6.out.res; omega) (Nat.le_refl _))); obtain ⟨d0, d1, g0, g1⟩ := hpt.facts; clear hpt hic hr hb)
  obtain ⟨V7, hV⟩ : ∃ V7, w7.setCell ⟨w.heap.size, 1, none⟩ (.slice i7 (with13 (less13 I p) p l).length ic7) = V7 := ⟨_, rfl⟩
  have hpt := P7a.out.set1 (cs' := with13 (less13 cs p) p (.slice b l.length bc)) HI7.out.2 (P7a.out.ls.more (by have hq : p < I.length := (by have := HP.out; have := HKL.out; omega); rw [less_len I p hq]; omega) HBC.out ((HL.out.imp fun b hb q => (⟨q, Or.inl hb⟩ : Av g w.heap.size b)).step P7a.out.old)) HI7.out.1
  rw [hV] at hpt ⊢
  have P7 := Lib.hid hpt
  clear c0 c1 f0 f1 d0 d1 g0 g1 hV hpt hcall P7a HI7
  obtain ⟨c0, c1, f0, f1⟩ := P7.out.facts
  obtain ⟨d0, d1, g0, g1⟩ := P7.out.facts2
  go_wp2
  refine bodyPost_ret (results_cell_row rfl _ _ (w.heap.size + 1) 25 _ _ _ rfl (two_stored14 P7.out.res _ _) Try.underlying25 rfl (by kernel_rfl)) rfl ?_
  obtain ⟨t1, t2⟩ := P7.out.told (.slice k6 (with13 (less13 K p) p s).length kc6) (.slice i7 (with13 (less13 I p) p l).length ic7)
  exact ⟨k6, kc6, i7, ic7, _, rfl, t1, t2⟩
set_option maxRecDepth 100000 in
set_option maxHeartbeats 4000000 in
theorem pput_go (ka : Option Addr) (kc : Nat) (ia : Option Addr) (ic : Nat) (K : List (List UInt8)) (I : List (List Int)) (s : List UInt8) (b : Option Addr) (bc : Nat) (l : List Int) (w : World) (hx : IxV w ka kc ia ic K I) (hs : Small14 K I) (hf : fineK K I) (g : Nat) (hg : g + 2 ≤ w.heap.size) (hl : IntsO (Off g) w.heap.size w b l) (hbc : l.length ≤ bc) (hll : l.length ≤ 600000)
    (p : Nat) (hp : p < K.length) (hne : ¬ 0 < l.length) (e1 : findI (K.map tx) (tx s) = p) (e2 : findB (K.map tx) (tx s) = true) :
    Calls Try.prog 31 #[ixVal ka kc ia ic K I, .string (tx s), .slice b l.length bc] w fun e w' => ∃ ka' kc' ia' ic' cs', e = .returned (ixVal ka' kc' ia' ic' (less13 K p) (less13 I p)) ∧ Ix2 g w.heap.size w' ka' kc' ia' ic' (less13 K p) (less13 I p) cs' ∧ Below w.heap.size w w' := by
  have hlen : I.length = K.length := hf.2.1.symm
  obtain ⟨V0, hV0⟩ : ∃ V0, (w.alloc (.cells #[.slice ka K.length kc, .slice ia I.length ic] 25)).alloc (.cells #[.slice none 0 0, .slice none 0 0] 25) = V0 := ⟨_, rfl⟩
  have hb0 : Below w.heap.size w V0 := by rw [← hV0]; exact ((Below.refl _ w).alloc (Nat.le_refl _) _).alloc (by simp) _
  have hsz0 : V0.heap.size = w.heap.size + 2 := by rw [← hV0]; simp
  have hs0 : V0.heap[w.heap.size]? = some (.cells #[.slice ka K.length kc, .slice ia I.length ic] 25 (0, 0)) := by rw [← hV0]; exact heap_alloc2_old w _ _
  have hr0 : V0.heap[w.heap.size + 1]? = some (.cells #[.slice none 0 0, .slice none 0 0] 25 (0, 0)) := by rw [← hV0]; exact heap_alloc2_new w _ _
  have hcl := pclone14_any ka kc ia ic K I V0 (hx.step hb0) hs
  rw [← hV0] at hcl
  have HS := Lib.hid hs
  have HKL : Hid (I.length = K.length) := Lib.hid hlen
  have HL := Lib.hid hl
  have HBC := Lib.hid hbc
  have H0 : Hid (Below w.heap.size w V0 ∧ V0.heap.size = w.heap.size + 2 ∧ V0.heap[w.heap.size]? = some (.cells #[.slice ka K.length kc, .slice ia I.length ic] 25 (0, 0)) ∧ V0.heap[w.heap.size + 1]? = some (.cells #[.slice none 0 0, .slice none 0 0] 25 (0, 0)) ∧ (w.alloc (.cells #[.slice ka K.length kc, .slice ia I.length ic] 25)).alloc (.cells #[.slice none 0 0, .slice none 0 0] 25) = V0) := Lib.hid ⟨hb0, hsz0, hs0, hr0, hV0⟩
  have HE : Hid (findI (K.map tx) (tx s) = p ∧ findB (K.map tx) (tx s) = true) := Lib.hid ⟨e1, e2⟩
  have HP := Lib.hid hp
  have hd : decide (0 < (l.length : Int)) = false := decide_eq_false (by omega)
  have hd' : decide (0 < l.length) = false := decide_eq_false (by omega)
  clear hx hs hf hl hbc hlen hb0 hsz0 hs0 hr0 hV0 e1 e2 hp
  go_enter Try.func31, Try.ntmps31
  go_upto_region 2 with (go_at_call 45; refine hcl.mono ?_; rintro e w2 ⟨k1, kc1, i1, ic1, rfl, hkc1, hic1, hk1, hi1, hb1⟩; rw [H0.out.2.2.2.2] at hk1 hi1 hb1; have H1 := Lib.hid (And.intro hkc1 (And.intro hic1 (And.intro hk1 (And.intro hi1 hb1)))); have g0 := old_obj hb1 H0.out.2.2.1; have c0 := cell_of (j := 0) g0 rfl; have c1 := cell_of (j := 1) g0 rfl; have f0 := frozen_of_row _ _ 0 _ _ g0; have f1 := frozen_of_row _ _ 1 _ _ g0; have G0 := Lib.hid g0; clear hkc1 hic1 hk1 hi1 hb1 g0)
  obtain ⟨cs, hpt⟩ := Pt14.start (g := g) (w := w) (V := w2) (kc := kc1) (ic := ic1) hg (H0.out.1.trans (H1.out.2.2.2.2.mono (by have := H0.out.2.1; omega))) G0.out (old_obj H1.out.2.2.2.2 H0.out.2.2.2.1) (by have := H1.out.2.2.1; rw [H0.out.2.1] at this; exact this) (by have := H1.out.2.2.2.1; rw [H0.out.2.1] at this; exact this) H1.out.1 H1.out.2.1
  obtain ⟨V1, hV1⟩ : ∃ V1, (w2.setCell ⟨w.heap.size, 0, none⟩ (.slice k1 K.length kc1)).setCell ⟨w.heap.size, 1, none⟩ (.slice i1 I.length ic1) = V1 := ⟨_, rfl⟩
  rw [hV1] at hpt ⊢
  have P1 := Lib.hid hpt
  have hfd := find_any k1 kc1 (K.map tx) (tx s) V1 (by rw [List.length_map]; have := HS.out.1; omega) (texts_txs (hpt.keys.wide (Nat.zero_le _) (Nat.le_refl _)))
  rw [List.length_map, HE.out.1, HE.out.2] at hfd
  clear c0 c1 f0 f1 hcl H0 H1 G0 hpt hV1
  obtain ⟨c0, c1, f0, f1⟩ := P1.out.facts
  go_upto_region 4 with (go_at_call 46; refine hfd.mono ?_; rintro e w3 ⟨rfl, hb⟩; have P3 := Lib.hid (P1.out.step hb); clear hb)
  clear c0 c1 f0 f1 P1 hfd
  obtain ⟨c0, c1, f0, f1⟩ := P3.out.facts
  have hok := less_ok (l := K) HP.out
  have hcall := qless_any k1 kc1 K (p : Int) (w.heap.size + 2) w3 P3.out.kcap P3.out.keys (by have := HS.out.1; omega)
  rw [hok.1, hok.2] at hcall
  clear hok
  go_upto_region 5 with (go_at_call 47; refine hcall.mono ?_; rintro e w4 ⟨k4, kc4, rfl, hkc, hk, hb⟩; have hpt := P3.out.step hb; have P4a := Lib.hid hpt; have HK4 := Lib.hid (And.intro hkc (hk.wide (A' := w.heap.size + 2) (by have := obj_lt P3.out.res; omega) (Nat.le_refl _))); obtain ⟨d0, d1, g0, g1⟩ := hpt.facts; clear hpt hkc hk hb)
  obtain ⟨V4, hV⟩ : ∃ V4, w4.setCell ⟨w.heap.size, 0, none⟩ (.slice k4 (less13 K p).length kc4) = V4 := ⟨_, rfl⟩
  have hpt := P4a.out.set0 HK4.out.2 HK4.out.1
  rw [hV] at hpt ⊢
  have P4 := Lib.hid hpt
  clear c0 c1 f0 f1 d0 d1 g0 g1 hV hpt hcall P4a HK4
  obtain ⟨c0, c1, f0, f1⟩ := P4.out.facts
  have hlc := P4.out.ls.1
  have hok := less_ok (l := cs) (p := p) (by rw [hlc]; have := HP.out; have := HKL.out; omega)
  have hcall := pless_ls i1 I.length ic1 (p : Int) cs (w.heap.size + 2) V4 hlc P4.out.icap (by have := HS.out.2.1; omega) P4.out.row P4.out.ls.one
  rw [hlc] at hok
  rw [hok.1, hok.2] at hcall
  have hlc2 : (less13 cs p).length = (less13 I p).length := by have hq : p < I.length := (by have := HP.out; have := HKL.out; omega); rw [less_len cs p (by omega), less_len I p hq, hlc]
  unfold GivesC at hcall
  rw [hlc2] at hcall
  clear hok hlc hlc2
  go_upto_region 6 with (go_at_call 48; refine hcall.mono ?_; rintro e w5 ⟨i5, ic5, rfl, hic, hr, hb⟩; have hpt := P4.out.step hb; have P5a := Lib.hid hpt; have HI5 := Lib.hid (And.intro hic (hr.wide (A' := w.heap.size + 2) (by have := obj_lt P4.out.res; omega) (Nat.le_refl _))); obtain ⟨d0, d1, g0, g1⟩ := hpt.facts; clear hpt hic hr hb)
  obtain ⟨V5, hV⟩ : ∃ V5, w5.setCell ⟨w.heap.size, 1, none⟩ (.slice i5 (less13 I p).length ic5) = V5 := ⟨_, rfl⟩
  have hpt := P5a.out.set1 (cs' := less13 cs p) HI5.out.2 (P5a.out.ls.less (by have := HP.out; have := HKL.out; omega)) HI5.out.1
  rw [hV] at hpt ⊢
  have P5 := Lib.hid hpt
  clear c0 c1 f0 f1 d0 d1 g0 g1 hV hpt hcall P5a HI5
  obtain ⟨c0, c1, f0, f1⟩ := P5.out.facts
  obtain ⟨d0, d1, g0, g1⟩ := P5.out.facts2
  go_wp2
  refine bodyPost_ret (results_cell_row rfl _ _ (w.heap.size + 1) 25 _ _ _ rfl (two_stored14 P5.out.res _ _) Try.underlying25 rfl (by kernel_rfl)) rfl ?_
  obtain ⟨t1, t2⟩ := P5.out.told (.slice k4 (less13 K p).length kc4) (.slice i5 (less13 I p).length ic5)
  exact ⟨k4, kc4, i5, ic5, _, rfl, t1, t2⟩
set_option maxRecDepth 100000 in
set_option maxHeartbeats 4000000 in
theorem pput_new (ka : Option Addr) (kc : Nat) (ia : Option Addr) (ic : Nat) (K : List (List UInt8)) (I : List (List Int)) (s : List UInt8) (b : Option Addr) (bc : Nat) (l : List Int) (w : World) (hx : IxV w ka kc ia ic K I) (hs : Small14 K I) (hf : fineK K I) (g : Nat) (hg : g + 2 ≤ w.heap.size) (hl : IntsO (Off g) w.heap.size w b l) (hbc : l.length ≤ bc) (hll : l.length ≤ 600000)
    (p : Nat) (hp : p ≤ K.length) (hne : 0 < l.length) (e1 : findI (K.map tx) (tx s) = p) (e2 : findB (K.map tx) (tx s) = false) :
    Calls Try.prog 31 #[ixVal ka kc ia ic K I, .string (tx s), .slice b l.length bc] w fun e w' => ∃ ka' kc' ia' ic' cs', e = .returned (ixVal ka' kc' ia' ic' (with13 (K) p s) (with13 (I) p l)) ∧ Ix2 g w.heap.size w' ka' kc' ia' ic' (with13 (K) p s) (with13 (I) p l) cs' ∧ Below w.heap.size w w' := by
  have hlen : I.length = K.length := hf.2.1.symm
  obtain ⟨V0, hV0⟩ : ∃ V0, (w.alloc (.cells #[.slice ka K.length kc, .slice ia I.length ic] 25)).alloc (.cells #[.slice none 0 0, .slice none 0 0] 25) = V0 := ⟨_, rfl⟩
  have hb0 : Below w.heap.size w V0 := by rw [← hV0]; exact ((Below.refl _ w).alloc (Nat.le_refl _) _).alloc (by simp) _
  have hsz0 : V0.heap.size = w.heap.size + 2 := by rw [← hV0]; simp
  have hs0 : V0.heap[w.heap.size]? = some (.cells #[.slice ka K.length kc, .slice ia I.length ic] 25 (0, 0)) := by rw [← hV0]; exact heap_alloc2_old w _ _
  have hr0 : V0.heap[w.heap.size + 1]? = some (.cells #[.slice none 0 0, .slice none 0 0] 25 (0, 0)) := by rw [← hV0]; exact heap_alloc2_new w _ _
  have hcl := pclone14_any ka kc ia ic K I V0 (hx.step hb0) hs
  rw [← hV0] at hcl
  have HS := Lib.hid hs
  have HKL : Hid (I.length = K.length) := Lib.hid hlen
  have HL := Lib.hid hl
  have HBC := Lib.hid hbc
  have H0 : Hid (Below w.heap.size w V0 ∧ V0.heap.size = w.heap.size + 2 ∧ V0.heap[w.heap.size]? = some (.cells #[.slice ka K.length kc, .slice ia I.length ic] 25 (0, 0)) ∧ V0.heap[w.heap.size + 1]? = some (.cells #[.slice none 0 0, .slice none 0 0] 25 (0, 0)) ∧ (w.alloc (.cells #[.slice ka K.length kc, .slice ia I.length ic] 25)).alloc (.cells #[.slice none 0 0, .slice none 0 0] 25) = V0) := Lib.hid ⟨hb0, hsz0, hs0, hr0, hV0⟩
  have HE : Hid (findI (K.map tx) (tx s) = p ∧ findB (K.map tx) (tx s) = false) := Lib.hid ⟨e1, e2⟩
  have HP := Lib.hid hp
  have hd : decide (0 < (l.length : Int)) = true := decide_eq_true (by omega)
  have hd' : decide (0 < l.length) = true := decide_eq_true (by omega)
  clear hx hs hf hl hbc hlen hb0 hsz0 hs0 hr0 hV0 e1 e2 hp
  go_enter Try.func31, Try.ntmps31
  go_upto_region 2 with (go_at_call 45; refine hcl.mono ?_; rintro e w2 ⟨k1, kc1, i1, ic1, rfl, hkc1, hic1, hk1, hi1, hb1⟩; rw [H0.out.2.2.2.2] at hk1 hi1 hb1; have H1 := Lib.hid (And.intro hkc1 (And.intro hic1 (And.intro hk1 (And.intro hi1 hb1)))); have g0 := old_obj hb1 H0.out.2.2.1; have c0 := cell_of (j := 0) g0 rfl; have c1 := cell_of (j := 1) g0 rfl; have f0 := frozen_of_row _ _ 0 _ _ g0; have f1 := frozen_of_row _ _ 1 _ _ g0; have G0 := Lib.hid g0; clear hkc1 hic1 hk1 hi1 hb1 g0)
  obtain ⟨cs, hpt⟩ := Pt14.start (g := g) (w := w) (V := w2) (kc := kc1) (ic := ic1) hg (H0.out.1.trans (H1.out.2.2.2.2.mono (by have := H0.out.2.1; omega))) G0.out (old_obj H1.out.2.2.2.2 H0.out.2.2.2.1) (by have := H1.out.2.2.1; rw [H0.out.2.1] at this; exact this) (by have := H1.out.2.2.2.1; rw [H0.out.2.1] at this; exact this) H1.out.1 H1.out.2.1
  obtain ⟨V1, hV1⟩ : ∃ V1, (w2.setCell ⟨w.heap.size, 0, none⟩ (.slice k1 K.length kc1)).setCell ⟨w.heap.size, 1, none⟩ (.slice i1 I.length ic1) = V1 := ⟨_, rfl⟩
  rw [hV1] at hpt ⊢
  have P1 := Lib.hid hpt
  have hfd := find_any k1 kc1 (K.map tx) (tx s) V1 (by rw [List.length_map]; have := HS.out.1; omega) (texts_txs (hpt.keys.wide (Nat.zero_le _) (Nat.le_refl _)))
  rw [List.length_map, HE.out.1, HE.out.2] at hfd
  clear c0 c1 f0 f1 hcl H0 H1 G0 hpt hV1
  obtain ⟨c0, c1, f0, f1⟩ := P1.out.facts
  go_upto_region 6 with (go_at_call 46; refine hfd.mono ?_; rintro e w3 ⟨rfl, hb⟩; have P3 := Lib.hid (P1.out.step hb); clear hb)
  clear c0 c1 f0 f1 P1 hfd
  obtain ⟨c0, c1, f0, f1⟩ := P3.out.facts
  have hok := with_ok (l := K) (p := p) (HP.out) s
  have hcall := qwith_any k1 kc1 (K) (p : Int) s (w.heap.size + 2) w3 P3.out.kcap P3.out.keys (by have := HS.out.1; omega)
  rw [hok.1, hok.2] at hcall
  clear hok
  go_upto_region 8 with (go_at_call 49; refine hcall.mono ?_; rintro e w6 ⟨k6, kc6, rfl, hkc, hk, hb⟩; have hpt := P3.out.step hb; have P6a := Lib.hid hpt; have HK6 := Lib.hid (And.intro hkc (hk.wide (A' := w.heap.size + 2) (by have := obj_lt P3.out.res; omega) (Nat.le_refl _))); obtain ⟨d0, d1, g0, g1⟩ := hpt.facts; clear hpt hkc hk hb)
  obtain ⟨V6, hV⟩ : ∃ V6, w6.setCell ⟨w.heap.size, 0, none⟩ (.slice k6 (with13 (K) p s).length kc6) = V6 := ⟨_, rfl⟩
  have hpt := P6a.out.set0 HK6.out.2 HK6.out.1
  rw [hV] at hpt ⊢
  have P6 := Lib.hid hpt
  clear c0 c1 f0 f1 d0 d1 g0 g1 hV hpt hcall P6a HK6
  obtain ⟨c0, c1, f0, f1⟩ := P6.out.facts
  have hlc := P6.out.ls.1
  have hok := with_ok (l := cs) (p := p) (by rw [hlc]; exact (by have := HP.out; have := HKL.out; omega)) (.slice b l.length bc)
  have hcall := pwith_ls i1 (I).length ic1 (p : Int) (b, l.length, bc) (cs) (w.heap.size + 2) V6 hlc P6.out.icap (by have := HS.out.2.1; omega) P6.out.row P6.out.ls.one
  rw [hlc] at hok
  rw [hok.1, hok.2] at hcall
  have hlc2 : (with13 (cs) p (.slice b l.length bc)).length = (with13 (I) p l).length := by rw [with_len (cs) p _ (by rw [hlc]; exact (by have := HP.out; have := HKL.out; omega)), with_len (I) p _ (by have := HP.out; have := HKL.out; omega), hlc]
  unfold GivesC at hcall
  rw [hlc2] at hcall
  clear hok hlc hlc2
  go_upto_region 9 with (go_at_call 50; refine hcall.mono ?_; rintro e w7 ⟨i7, ic7, rfl, hic, hr, hb⟩; have hpt := P6.out.step hb; have P7a := Lib.hid hpt; have HI7 := Lib.hid (And.intro hic (hr.wide (A' := w.heap.size + 2) (by have := obj_lt P6.out.res; omega) (Nat.le_refl _))); obtain ⟨d0, d1, g0, g1⟩ := hpt.facts; clear hpt hic hr hb)
  obtain ⟨V7, hV⟩ : ∃ V7, w7.setCell ⟨w.heap.size, 1, none⟩ (.slice i7 (with13 (I) p l).length ic7) = V7 := ⟨_, rfl⟩
  have hpt := P7a.out.set1 (cs' := with13 (cs) p (.slice b l.length bc)) HI7.out.2 (P7a.out.ls.more (by have := HP.out; have := HKL.out; omega) HBC.out ((HL.out.imp fun b hb q => (⟨q, Or.inl hb⟩ : Av g w.heap.size b)).step P7a.out.old)) HI7.out.1
  rw [hV] at hpt ⊢
  have P7 := Lib.hid hpt
  clear c0 c1 f0 f1 d0 d1 g0 g1 hV hpt hcall P7a HI7
  obtain ⟨c0, c1, f0, f1⟩ := P7.out.facts
  obtain ⟨d0, d1, g0, g1⟩ := P7.out.facts2
  go_wp2
  refine bodyPost_ret (results_cell_row rfl _ _ (w.heap.size + 1) 25 _ _ _ rfl (two_stored14 P7.out.res _ _) Try.underlying25 rfl (by kernel_rfl)) rfl ?_
  obtain ⟨t1, t2⟩ := P7.out.told (.slice k6 (with13 (K) p s).length kc6) (.slice i7 (with13 (I) p l).length ic7)
  exact ⟨k6, kc6, i7, ic7, _, rfl, t1, t2⟩
set_option maxRecDepth 100000 in
set_option maxHeartbeats 4000000 in
theorem pput_none (ka : Option Addr) (kc : Nat) (ia : Option Addr) (ic : Nat) (K : List (List UInt8)) (I : List (List Int)) (s : List UInt8) (b : Option Addr) (bc : Nat) (l : List Int) (w : World) (hx : IxV w ka kc ia ic K I) (hs : Small14 K I) (hf : fineK K I) (g : Nat) (hg : g + 2 ≤ w.heap.size) (hl : IntsO (Off g) w.heap.size w b l) (hbc : l.length ≤ bc) (hll : l.length ≤ 600000)
    (p : Nat) (hp : p ≤ K.length) (hne : ¬ 0 < l.length) (e1 : findI (K.map tx) (tx s) = p) (e2 : findB (K.map tx) (tx s) = false) :
    Calls Try.prog 31 #[ixVal ka kc ia ic K I, .string (tx s), .slice b l.length bc] w fun e w' => ∃ ka' kc' ia' ic' cs', e = .returned (ixVal ka' kc' ia' ic' (K) (I)) ∧ Ix2 g w.heap.size w' ka' kc' ia' ic' (K) (I) cs' ∧ Below w.heap.size w w' := by
  have hlen : I.length = K.length := hf.2.1.symm
  obtain ⟨V0, hV0⟩ : ∃ V0, (w.alloc (.cells #[.slice ka K.length kc, .slice ia I.length ic] 25)).alloc (.cells #[.slice none 0 0, .slice none 0 0] 25) = V0 := ⟨_, rfl⟩
  have hb0 : Below w.heap.size w V0 := by rw [← hV0]; exact ((Below.refl _ w).alloc (Nat.le_refl _) _).alloc (by simp) _
  have hsz0 : V0.heap.size = w.heap.size + 2 := by rw [← hV0]; simp
  have hs0 : V0.heap[w.heap.size]? = some (.cells #[.slice ka K.length kc, .slice ia I.length ic] 25 (0, 0)) := by rw [← hV0]; exact heap_alloc2_old w _ _
  have hr0 : V0.heap[w.heap.size + 1]? = some (.cells #[.slice none 0 0, .slice none 0 0] 25 (0, 0)) := by rw [← hV0]; exact heap_alloc2_new w _ _
  have hcl := pclone14_any ka kc ia ic K I V0 (hx.step hb0) hs
  rw [← hV0] at hcl
  have HS := Lib.hid hs
  have HKL : Hid (I.length = K.length) := Lib.hid hlen
  have HL := Lib.hid hl
  have HBC := Lib.hid hbc
  have H0 : Hid (Below w.heap.size w V0 ∧ V0.heap.size = w.heap.size + 2 ∧ V0.heap[w.heap.size]? = some (.cells #[.slice ka K.length kc, .slice ia I.length ic] 25 (0, 0)) ∧ V0.heap[w.heap.size + 1]? = some (.cells #[.slice none 0 0, .slice none 0 0] 25 (0, 0)) ∧ (w.alloc (.cells #[.slice ka K.length kc, .slice ia I.length ic] 25)).alloc (.cells #[.slice none 0 0, .slice none 0 0] 25) = V0) := Lib.hid ⟨hb0, hsz0, hs0, hr0, hV0⟩
  have HE : Hid (findI (K.map tx) (tx s) = p ∧ findB (K.map tx) (tx s) = false) := Lib.hid ⟨e1, e2⟩
  have HP := Lib.hid hp
  have hd : decide (0 < (l.length : Int)) = false := decide_eq_false (by omega)
  have hd' : decide (0 < l.length) = false := decide_eq_false (by omega)
  clear hx hs hf hl hbc hlen hb0 hsz0 hs0 hr0 hV0 e1 e2 hp
  go_enter Try.func31, Try.ntmps31
  go_upto_region 2 with (go_at_call 45; refine hcl.mono ?_; rintro e w2 ⟨k1, kc1, i1, ic1, rfl, hkc1, hic1, hk1, hi1, hb1⟩; rw [H0.out.2.2.2.2] at hk1 hi1 hb1; have H1 := Lib.hid (And.intro hkc1 (And.intro hic1 (And.intro hk1 (And.intro hi1 hb1)))); have g0 := old_obj hb1 H0.out.2.2.1; have c0 := cell_of (j := 0) g0 rfl; have c1 := cell_of (j := 1) g0 rfl; have f0 := frozen_of_row _ _ 0 _ _ g0; have f1 := frozen_of_row _ _ 1 _ _ g0; have G0 := Lib.hid g0; clear hkc1 hic1 hk1 hi1 hb1 g0)
  obtain ⟨cs, hpt⟩ := Pt14.start (g := g) (w := w) (V := w2) (kc := kc1) (ic := ic1) hg (H0.out.1.trans (H1.out.2.2.2.2.mono (by have := H0.out.2.1; omega))) G0.out (old_obj H1.out.2.2.2.2 H0.out.2.2.2.1) (by have := H1.out.2.2.1; rw [H0.out.2.1] at this; exact this) (by have := H1.out.2.2.2.1; rw [H0.out.2.1] at this; exact this) H1.out.1 H1.out.2.1
  obtain ⟨V1, hV1⟩ : ∃ V1, (w2.setCell ⟨w.heap.size, 0, none⟩ (.slice k1 K.length kc1)).setCell ⟨w.heap.size, 1, none⟩ (.slice i1 I.length ic1) = V1 := ⟨_, rfl⟩
  rw [hV1] at hpt ⊢
  have P1 := Lib.hid hpt
  have hfd := find_any k1 kc1 (K.map tx) (tx s) V1 (by rw [List.length_map]; have := HS.out.1; omega) (texts_txs (hpt.keys.wide (Nat.zero_le _) (Nat.le_refl _)))
  rw [List.length_map, HE.out.1, HE.out.2] at hfd
  clear c0 c1 f0 f1 hcl H0 H1 G0 hpt hV1
  obtain ⟨c0, c1, f0, f1⟩ := P1.out.facts
  go_upto_region 6 with (go_at_call 46; refine hfd.mono ?_; rintro e w3 ⟨rfl, hb⟩; have P3 := Lib.hid (P1.out.step hb); clear hb)
  clear c0 c1 f0 f1 P1 hfd
  obtain ⟨c0, c1, f0, f1⟩ := P3.out.facts
  obtain ⟨d0, d1, g0, g1⟩ := P3.out.facts2
  go_wp2
  refine bodyPost_ret (results_cell_row rfl _ _ (w.heap.size + 1) 25 _ _ _ rfl (two_stored14 P3.out.res _ _) Try.underlying25 rfl (by kernel_rfl)) rfl ?_
  obtain ⟨t1, t2⟩ := P3.out.told (.slice k1 (K).length kc1) (.slice i1 (I).length ic1)
  exact ⟨k1, kc1, i1, ic1, _, rfl, t1, t2⟩
theorem pput14_any (ka : Option Addr) (kc : Nat) (ia : Option Addr) (ic : Nat) (K : List (List UInt8)) (I : List (List Int)) (s : List UInt8) (b : Option Addr) (bc : Nat) (l : List Int) (w : World) (hx : IxV w ka kc ia ic K I) (hs : Small14 K I) (hf : fineK K I) (g : Nat) (hg : g + 2 ≤ w.heap.size) (hl : IntsO (Off g) w.heap.size w b l) (hbc : l.length ≤ bc) (hll : l.length ≤ 600000) (hc : checkOf s = 0) (hr : Rises l) :
    Calls Try.prog 31 #[ixVal ka kc ia ic K I, .string (tx s), .slice b l.length bc] w fun e w' => ∃ ka' kc' ia' ic' K' I' cs', e = .returned (ixVal ka' kc' ia' ic' K' I') ∧ Ix2 g w.heap.size w' ka' kc' ia' ic' K' I' cs' ∧ PutTo K I s l K' I' ∧ Below w.heap.size w w' := by
  rcases key_or hf.1 s with ⟨p, h1, rfl, e1, e2⟩ | ⟨p, h1, h2, h3, h4, e1, e2⟩
  · by_cases hne : 0 < l.length
    · refine (pput_set ka kc ia ic K I _ b bc l w hx hs hf g hg hl hbc hll p h1 hne e1 e2).mono ?_
      rintro e w' ⟨ka', kc', ia', ic', cs', rfl, q1, q3⟩
      exact ⟨ka', kc', ia', ic', _, _, cs', rfl, q1, put_set hf h1 hc (List.length_pos_iff.1 hne) hr, q3⟩
    · refine (pput_go ka kc ia ic K I _ b bc l w hx hs hf g hg hl hbc hll p h1 hne e1 e2).mono ?_
      rintro e w' ⟨ka', kc', ia', ic', cs', rfl, q1, q3⟩
      obtain rfl : l = [] := List.length_eq_zero_iff.1 (by omega)
      exact ⟨ka', kc', ia', ic', _, _, cs', rfl, q1, put_go hf h1, q3⟩
  · by_cases hne : 0 < l.length
    · refine (pput_new ka kc ia ic K I s b bc l w hx hs hf g hg hl hbc hll p h1 hne e1 e2).mono ?_
      rintro e w' ⟨ka', kc', ia', ic', cs', rfl, q1, q3⟩
      exact ⟨ka', kc', ia', ic', _, _, cs', rfl, q1, put_new hf h1 hc h2 h3 (List.length_pos_iff.1 hne) hr, q3⟩
    · refine (pput_none ka kc ia ic K I s b bc l w hx hs hf g hg hl hbc hll p h1 hne e1 e2).mono ?_
      rintro e w' ⟨ka', kc', ia', ic', cs', rfl, q1, q3⟩
      obtain rfl : l = [] := List.length_eq_zero_iff.1 (by omega)
      exact ⟨ka', kc', ia', ic', _, _, cs', rfl, q1, put_none hf h4, q3⟩
end Go.Proofs.Ytnbmccfaomhppaa
