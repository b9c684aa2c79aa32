/- The program's clone, and its changes one after the other in a copy. -/
import Derived.Test.YteccahggahpeeaaChi15
import Derived.WalkSpells
namespace Go.Proofs.Yteccahggahpeeaa
open Go.RowKit

set_option maxRecDepth 100000 in
set_option maxHeartbeats 2000000 in
theorem pclone_rec (ao : Option Addr) (cap : Nat) (T : Tb15) (A B : Nat) (w : World) (hx : Els recE A B w ao T) (hB : B ≤ w.heap.size) (hn : T.length ≤ 100000) :
    Calls Try.prog 81 #[.slice ao T.length cap] w fun e w' => ∃ a' c', e = .returned (.slice a' T.length c') ∧ T.length ≤ c' ∧ Els recE w.heap.size w'.heap.size w' a' T ∧ Below w.heap.size w w' ∧ Ty15 a' w' := by
  have q65 : ∀ (w : World) (a : Option Addr) (n c n' c' : Nat), (binOp .eql 65 (.slice a n c) (.slice none n' c')).run Try.prog w = .ok (.bool a.isNone) w := fun w a n c n' c' => Lib.run_eql_slice_nil w _ _ a n c n' c' Try.underlying65
  cases ao with
  | none =>
    have hT : T = [] := by
      cases T with
      | nil => rfl
      | cons r T =>
        obtain ⟨b, off, e, _⟩ := recs_at hx (i := 0) (by simp)
        cases e
    subst hT
    clear hx
    go_enter Try.func81, Try.ntmps81
    go_wp2
    go_ret
    exact ⟨none, 0, rfl, Nat.le_refl _, Or.inl rfl, Below.refl _ _, fun _ _ e => by cases e⟩
  | some ad =>
    have hb := (Below.refl w.heap.size w).alloc (Nat.le_refl _) (.cells #[] 67)
    have hm : (w.alloc (.cells #[] 67)).ownsRow w.heap.size 67 2 (.slice (some ⟨w.heap.size, 0, none⟩) 0 0) 0 [] := World.ownsRow_made w #[] 0 (Nat.le_refl _) (by unfold maxLen; omega) rfl
    have HM := Lib.hid hm
    have HX := Lib.hid (Els.below hx (hb.mono hB))
    have HB := Lib.hid hb
    have HL := Lib.hid (recE.cells_len T)
    have HO := Lib.hid (recE.one_cell T)
    clear hx hb hm
    go_enter Try.func81, Try.ntmps81
    go_wp2_with (at_builtin; refine append_rk rfl _ _ (by decide) Try.underlying65 infoRec rfl rfl w.heap.size 0 _ [] (recE.cells T) rfl HM.out (some ad) T.length cap A B rfl HL.out HX.out HO.out (by omega) (by decide) HB.out.size ?_)
    intro v' w' ho hg
    have hb2 := below_rk HB.out HM.out (Nat.le_refl _) hg
    obtain ⟨a', c', rfl, h1, h2, h3⟩ := tab15_out ho rfl hb2
    have HR := Lib.hid (And.intro h1 (And.intro h2 h3))
    clear ho hg hb2 h1 h2 h3
    go_wp2
    go_ret
    exact ⟨a', c', rfl, HR.out.1, HR.out.2.1, HR.out.2.2⟩
/-- A copy under way. -/
structure Cl15w (w : World) (a : Option Addr) (c : Nat) (S : St15) (k : Nat) (W : World) : Prop where
  old : Below w.heap.size w W
  box : W.heap[w.heap.size]? = some (.cells #[.slice a S.length c] 24 (0, 0))
  res : W.heap[w.heap.size + 1]? = some zeroS
  row : ∃ arr : Array Value, W.heap[w.heap.size + 2]? = some (.cells arr 65 (0, 0)) ∧ arr.size = S.length ∧ ∀ j : Nat, j < k → ∃ (aj : Option Addr) (cj : Nat), arr[j]? = some (.slice aj (tab S (j : Int)).length cj) ∧ (tab S (j : Int)).length ≤ cj ∧ Els recE (w.heap.size + 3) W.heap.size W aj (tab S (j : Int)) ∧ Ty15 aj W
theorem Cl15w.step {w : World} {a : Option Addr} {c : Nat} {S : St15} {k : Nat} {W V : World} (h : Cl15w w a c S k W) (hb : Below W.heap.size W V) : Cl15w w a c S k V := by
  obtain ⟨arr, h1, h2, h3⟩ := h.row
  refine ⟨h.old.trans (hb.mono h.old.size), old_obj hb h.box, old_obj hb h.res, arr, old_obj hb h1, h2, fun j hj => ?_⟩
  obtain ⟨aj, cj, e1, e2, e3, e4⟩ := h3 j hj
  exact ⟨aj, cj, e1, e2, e3.step hb, e4.step hb⟩
theorem Cl15w.cells {w : World} {a : Option Addr} {c : Nat} {S : St15} {k : Nat} {W : World} (h : Cl15w w a c S k W) {j : Nat} (hj : j < S.length) : (∃ u, W.cell? ⟨w.heap.size + 2, j, none⟩ = some u) ∧ W.frozen? ⟨w.heap.size + 2, j, none⟩ = false := by
  obtain ⟨arr, h1, h2, _⟩ := h.row
  exact ⟨⟨_, cell_of h1 (Array.getElem?_eq_getElem (by omega))⟩, frozen_of_row _ _ j _ _ h1⟩
theorem Cl15w.put {w : World} {a : Option Addr} {c : Nat} {S : St15} {k : Nat} {W : World} (h : Cl15w w a c S k W) (hk : k < S.length) {aj : Option Addr} {cj : Nat} (hc : (tab S (k : Int)).length ≤ cj) (hT : Els recE (w.heap.size + 3) W.heap.size W aj (tab S (k : Int))) (hty : Ty15 aj W) : Cl15w w a c S (k + 1) (W.setCell ⟨w.heap.size + 2, k, none⟩ (.slice aj (tab S (k : Int)).length cj)) := by
  obtain ⟨arr, h1, h2, h3⟩ := h.row
  refine ⟨h.old.setCell (p := ⟨w.heap.size + 2, k, none⟩) (by simp) _, by rw [heap_set15 _ _ _ _ _ (by omega)]; exact h.box, by rw [heap_set15 _ _ _ _ _ (by omega)]; exact h.res, _, heap_setCell_same W _ k _ _ _ h1, by rw [Array.size_setIfInBounds]; exact h2, fun j hj => ?_⟩
  rw [Array.getElem?_setIfInBounds]
  by_cases q : k = j
  · subst q
    rw [if_pos rfl, if_pos (by omega)]
    exact ⟨aj, cj, rfl, hc, by rw [World.size_setCell]; exact hT.set15 (p := ⟨w.heap.size + 2, k, none⟩) (by simp) _, hty.set _ _ _⟩
  · rw [if_neg q]
    obtain ⟨a2, c2, e1, e2, e3, e4⟩ := h3 j (by omega)
    exact ⟨a2, c2, e1, e2, by rw [World.size_setCell]; exact e3.set15 (p := ⟨w.heap.size + 2, k, none⟩) (by simp) _, e4.set _ _ _⟩
theorem Cl15w.done {w : World} {a : Option Addr} {c : Nat} {S : St15} {W : World} (h : Cl15w w a c S S.length W) (v : Value) : StO (w.heap.size + 2) S (W.setCell ⟨w.heap.size + 1, 0, none⟩ v) ∧ Below w.heap.size w (W.setCell ⟨w.heap.size + 1, 0, none⟩ v) := by
  obtain ⟨arr, h1, h2, h3⟩ := h.row
  refine ⟨⟨arr, by rw [heap_set15 _ _ _ _ _ (by omega)]; exact h1, h2, fun j hj => ?_⟩, h.old.setCell (p := ⟨w.heap.size + 1, 0, none⟩) (by simp) _⟩
  obtain ⟨a2, c2, e1, e2, e3, e4⟩ := h3 j hj
  exact ⟨a2, c2, e1, e2, by rw [World.size_setCell]; exact e3.set15 (p := ⟨w.heap.size + 1, 0, none⟩) (by simp) _, e4.set _ _ _⟩
theorem bs_load {w : World} {g : Nat} {x : Value} {fr : Nat × Nat} (h : w.heap[g]? = some (.cells #[x] 24 fr)) : (loadVar 24 ⟨g, 0, none⟩).run Try.prog w = .ok (.agg #[x]) w :=
  run_loadVar_row (P := Try.prog) w g 24 24 #[x] fr _ h Try.underlying24 rfl (by kernel_rfl)
theorem infoTab : (Try.prog.info? 65).map (fun i => (i.zero, i.size, i.bytes)) = some (some (.slice none 0 0), 1, 24) := by kernel_rfl
set_option maxRecDepth 100000 in
set_option maxHeartbeats 8000000 in
theorem pcloneS_any (a : Option Addr) (c : Nat) (S : St15) (w : World) (h : StV w a c S) :
    Calls Try.prog 58 #[stVal a c S] w fun e w' => ∃ g, e = .returned (stVal (some ⟨g, 0, none⟩) S.length S) ∧ w.heap.size ≤ g ∧ StO g S w' ∧ Below w.heap.size w w' := by
  obtain ⟨i0, hi, hz0, hz1, hz2⟩ := info_parts infoTab
  have HX := Lib.hid h
  have hs := h.2.2.1
  have hbt : S.length * i0.bytes ≤ 281474976710656 := by rw [hz2]; omega
  have hb0 := ((Below.refl w.heap.size w).alloc (Nat.le_refl _) (.cells #[.slice a S.length c] 24)).alloc (by simp) zeroS
  have HO := Lib.hid (And.intro (heap_alloc2_old w (.cells #[.slice a S.length c] 24) zeroS) (heap_alloc2_new w (.cells #[.slice a S.length c] 24) zeroS))
  have HB := Lib.hid hb0
  have HSZ : Hid (((w.alloc (.cells #[.slice a S.length c] 24)).alloc zeroS).heap.size = w.heap.size + 2) := Lib.hid (by simp)
  clear h hb0
  go_enter Try.func58, Try.ntmps58
  go_upto_region 1 with fail
  generalize (w.alloc (.cells #[.slice a S.length c] 24)).alloc zeroS = V at *
  have c0 := cell_of HO.out.1 (j := 0) rfl
  go_upto_region 2 with (at_make; refine wpList_make_full _ rfl _ _ 22 rfl V.heap.size 65 i0 (.slice none 0 0) 1 Try.underlying22 hi hz0 hz1 .i64 .i64 _ _ S.length rfl rfl rfl rfl (by rw [hz2]; omega) (by unfold maxLen; omega) (Nat.le_refl _) ?_)
  intro w1 hown hg
  have HS0 : Hid (Cl15w w a c S 0 w1) := Lib.hid (by
    have hb1 : Below V.heap.size V w1 := (Below.refl _ V).grown hg (Nat.le_refl _) (by simp)
    rcases hown.2 with ⟨e1, _⟩ | ⟨g', cap', cur, e1, _, e3, _, _, e6, _⟩
    · cases e1
    · cases e1
      refine ⟨HB.out.trans (hb1.mono HB.out.size), old_obj hb1 HO.out.1, old_obj hb1 HO.out.2, cur, by rw [← HSZ.out]; exact e3, by rw [e6]; omega, fun j hj => absurd hj (by omega)⟩)
  rw [HSZ.out]
  clear hown hg hi hz0 hz1 hz2 hbt c0
  have c1 := cell_of HS0.out.box (j := 0) rfl
  go_upto_region 3 with fail
  go_loopw [13] (fun s13 wr => ∃ k : Nat, s13 = .int .i64 k ∧ k ≤ S.length ∧ Hid (Cl15w w a c S k wr)) (fun i _ => S.length + 1 - (intOf i).toNat)
  case atStart => exact ⟨0, rfl, by omega, HS0⟩
  case round =>
    clear HS0 c1
    obtain ⟨k, rfl, hk, H⟩ := hrel
    by_cases hlt : k < S.length
    · have i1 : (k : Int) < (S.length : Int) := by omega
      have i3 : (0 : Int) ≤ (k : Int) := by omega
      obtain ⟨b, off, ea, hbb, aj, cj, x0, _, x1⟩ := (HX.out.step H.out.old).1.at hlt
      have HC := Lib.hid (pclone_rec aj cj (tab S (k : Int)) 0 wr.heap.size wr x1 (Nat.le_refl _) (by have := HX.out.2.2.tab hlt; omega))
      have HP : Hid (∀ (W : World) (a2 : Option Addr) (c2 : Nat), Cl15w w a c S k W → (tab S (k : Int)).length ≤ c2 → Els recE (w.heap.size + 3) W.heap.size W a2 (tab S (k : Int)) → Ty15 a2 W → Cl15w w a c S (k + 1) (W.setCell ⟨w.heap.size + 2, k, none⟩ (.slice a2 (tab S (k : Int)).length c2))) := Lib.hid fun W a2 c2 h1 h2 h3 h4 => h1.put hlt h2 h3 h4
      have HLT := Lib.hid hlt
      subst ea
      clear x1 hbb
      generalize tab S (k : Int) = T at *
      go_upto_region 6 with (go_at_call 81; refine HC.out.mono ?_; rintro e w2 ⟨a2, c2, rfl, h1, h2, hb, hty⟩; have H2 := Lib.hid (H.out.step hb); have N2 := Lib.hid (And.intro h1 (And.intro (h2.wide (A' := w.heap.size + 3) (by obtain ⟨arr, q, _⟩ := H.out.row; have := obj_lt q; omega) (Nat.le_refl _)) hty)); obtain ⟨⟨u, hu⟩, hf⟩ := H2.out.cells HLT.out; clear h1 h2 hb hty)
      have H3 := Lib.hid (HP.out w2 a2 c2 H2.out N2.out.1 N2.out.2.1 N2.out.2.2)
      clear hu hf x0
      generalize w2.setCell ⟨w.heap.size + 2, k, none⟩ (.slice a2 T.length c2) = W3 at *
      go_wp2
      go_roundw
      case rel => exact ⟨k + 1, by first | rfl | go_num, by omega, H3⟩
      case measure => first | (simp [intOf]; omega) | simp [intOf]
    · obtain rfl : k = S.length := by omega
      have HD := Lib.hid (H.out.done (.slice (some ⟨w.heap.size + 2, 0, none⟩) S.length S.length))
      have r0 := cell_of H.out.res (j := 0) rfl
      have r1 := frozen_of_row _ _ 0 _ _ H.out.res
      go_wp2
      refine bodyPost_ret (results_cell_row rfl _ _ (w.heap.size + 1) 24 _ _ _ rfl (heap_setCell_same _ (w.heap.size + 1) 0 _ _ _ H.out.res) Try.underlying24 rfl (by kernel_rfl)) rfl ?_
      exact ⟨w.heap.size + 2, rfl, by omega, HD.out.1, HD.out.2⟩
end Go.Proofs.Yteccahggahpeeaa
namespace Go.Proofs.Yteccahggahpeeaa
open Go.RowKit

theorem doesS_i {S : St15} (i : Nat) (k id : Int) (x : List UInt8) : doesS S ⟨(i : Int), k, id, x⟩ = S.set i (doesT (tab S (i : Int)) ⟨(i : Int), k, id, x⟩) := by unfold doesS; rw [Int.toNat_natCast]
/-- What one change does, in one relation. -/
def ChOut (w : World) (g : Nat) (S : St15) (o : Op15) (e : Ending) (w' : World) : Prop :=
  (wrongS S o ≠ 0 ∧ ChNo w e w' (wrongS S o)) ∨ (wrongS S o = 0 ∧ e = .returned (.tuple #[opVal (backO S o), .int .i64 0]) ∧ StO g (doesS S o) w' ∧ w.grownBy w' (some g))
theorem pchange15_any (g c : Nat) (S : St15) (o : Op15) (w : World) (h : StO g S w) (hok : OkS S) :
    Calls Try.prog 59 #[stVal (some ⟨g, 0, none⟩) c S, opVal o] w fun e w' => ChOut w g S o e w' := by
  by_cases hE : preE S o = 0
  · have hwp : wrongS S o = wrongT (tab S o.t) o := by rw [wrong_pre, if_neg (by omega)]
    obtain ⟨⟨hk1, hk3⟩, ⟨ht0, ht1⟩, hid⟩ := pre_ok hE
    obtain ⟨t, k, id, x⟩ := o
    obtain ⟨i, rfl⟩ : ∃ i : Nat, t = i := ⟨t.toNat, by have : 0 ≤ t := ht0; omega⟩
    have hti : (i : Int) < (S.length : Int) := ht1
    have hlt : i < S.length := by omega
    have hokT : OkT (tab S (i : Int)) := hok.tab _ (by rw [tab_at hlt]; exact List.getElem_mem hlt)
    by_cases hw : wrongT (tab S (i : Int)) ⟨(i : Int), k, id, x⟩ = 0
    · have hw0 : wrongS S ⟨(i : Int), k, id, x⟩ = 0 := hwp.trans hw
      have hf := wrong_iff.1 hw0
      have hri : risingE (idsT (tab S (i : Int))) = 0 := rising_tab.2 ⟨hokT.srt, hokT.ids⟩
      have hk1 : 1 ≤ k := hk1
      have hk3 : k ≤ 3 := hk3
      rcases (by omega : k = 1 ∨ k = 2 ∨ k = 3) with rfl | rfl | rfl
      · refine (pchange_new g c i S id x w h hok hE hw).mono ?_
        rintro e w' ⟨rfl, h1, h2⟩
        have hn := (hf.new rfl).1
        rw [← at_new hri hn x] at h1
        refine Or.inr ⟨hw0, by unfold backO; rw [if_pos rfl]; rfl, ?_, h2⟩
        rw [doesS_i]
        unfold doesT
        rw [if_pos rfl]
        exact h1
      · refine (pchange_set g c i S id x w h hok hE hw).mono ?_
        rintro e w' ⟨rfl, h1, h2⟩
        have hn : hasT (tab S (i : Int)) id = true := hf.old (show ¬ (2 : Int) = 1 by decide)
        obtain ⟨s1, s2, s3⟩ := at_set hokT.srt hn x
        rw [← s1] at h1
        refine Or.inr ⟨hw0, ?_, ?_, h2⟩
        · unfold backO
          rw [if_neg (show ¬ (2 : Int) = 1 by decide), if_pos rfl]
          rw [← s3]
        · rw [doesS_i]
          unfold doesT
          rw [if_neg (show ¬ (2 : Int) = 1 by decide), if_pos rfl]
          exact h1
      · refine (pchange_drop g c i S id x w h hok hE hw).mono ?_
        rintro e w' ⟨rfl, h1, h2⟩
        have hn : hasT (tab S (i : Int)) id = true := hf.old (show ¬ (3 : Int) = 1 by decide)
        obtain ⟨s1, s2, s3⟩ := at_set hokT.srt hn x
        rw [← s2] at h1
        refine Or.inr ⟨hw0, ?_, ?_, h2⟩
        · unfold backO
          rw [if_neg (show ¬ (3 : Int) = 1 by decide), if_neg (show ¬ (3 : Int) = 2 by decide)]
          rw [← s3]
        · rw [doesS_i]
          unfold doesT
          rw [if_neg (show ¬ (3 : Int) = 1 by decide), if_neg (show ¬ (3 : Int) = 2 by decide)]
          exact h1
    · refine (pchange_not g c i S k id x w h hok hE hw).mono ?_
      intro e w' he
      refine Or.inl ⟨by rw [hwp]; exact hw, ?_⟩
      rw [hwp]; exact he
  · have hwp : wrongS S o = preE S o := by rw [wrong_pre, if_pos hE]
    refine (pchange_pre g c S o w h hE).mono ?_
    intro e w' he
    refine Or.inl ⟨by rw [hwp]; exact hE, ?_⟩
    rw [hwp]; exact he
def revL : St15 → List Op15 → List Op15
  | _, [] => []
  | S, o :: l => backO S o :: revL (doesS S o) l
theorem undo_rev : ∀ (S : St15) (l : List Op15), undoL S l = (revL S l).reverse
  | _, [] => rfl
  | S, o :: l => by
    show undoL (doesS S o) l ++ [backO S o] = (backO S o :: revL (doesS S o) l).reverse
    rw [undo_rev, List.reverse_cons]
/-- A batch under way. -/
structure Gn15 (S : St15) (l : List Op15) (i : Nat) (T : St15) (R : List Op15) : Prop where
  err : appE S l = appE T (l.drop i)
  num : appN S l = i + appN T (l.drop i)
  val : appV S l = appV T (l.drop i)
  rev : revL S l = R ++ revL T (l.drop i)
  len : R.length = i
  ok : OkS T
  same : T.length = S.length
theorem Gn15.start {S : St15} (hs : OkS S) (l : List Op15) : Gn15 S l 0 S [] := ⟨rfl, by simp, rfl, rfl, rfl, hs, rfl⟩
theorem Gn15.next {S : St15} {l : List Op15} {i : Nat} {T : St15} {R : List Op15} (h : Gn15 S l i T R) (hi : i < l.length) (hw : wrongS T (opAt l i) = 0) : Gn15 S l (i + 1) (doesS T (opAt l i)) (R ++ [backO T (opAt l i)]) := by
  have e := drop_op l i hi
  obtain ⟨h1, h2, h3, h4, h5, h6, h7⟩ := h
  rw [e] at h1 h2 h3 h4
  refine ⟨?_, ?_, ?_, ?_, by simp [h5], ok_does (wrong_iff.1 hw) h6, by rw [len_does]; exact h7⟩
  · rw [h1, appE_cons, if_neg (by omega)]
  · rw [h2, appN_cons, if_neg (by omega)]; omega
  · rw [h3]; rfl
  · rw [h4, List.append_assoc]; rfl
theorem Gn15.stop {S : St15} {l : List Op15} {i : Nat} {T : St15} {R : List Op15} (h : Gn15 S l i T R) (hs : OkS S) (hi : i < l.length) (hw : wrongS T (opAt l i) ≠ 0) : bE S l = wrongS T (opAt l i) ∧ bN S l = R.length ∧ bV S l = [] ∧ bE S l ≠ 0 := by
  have e := drop_op l i hi
  have q := checkS_ok.2 hs
  obtain ⟨h1, h2, _, _, h5, _, _⟩ := h
  rw [e] at h1 h2
  rw [appE_cons, if_pos hw] at h1
  rw [appN_cons, if_pos hw] at h2
  have e1 : bE S l = wrongS T (opAt l i) := by unfold bE; rw [if_pos q, h1]
  exact ⟨e1, by unfold bN; rw [if_pos q, h2, h5]; rfl, by unfold bV; rw [if_neg (by rw [e1]; exact hw)], by rw [e1]; exact hw⟩
theorem Gn15.done {S : St15} {l : List Op15} {T : St15} {R : List Op15} (h : Gn15 S l l.length T R) (hs : OkS S) : bE S l = 0 ∧ bN S l = R.length ∧ bV S l = T ∧ R = revL S l := by
  have q := checkS_ok.2 hs
  obtain ⟨h1, h2, h3, h4, h5, _, _⟩ := h
  rw [List.drop_length] at h1 h2 h3 h4
  have e1 : bE S l = 0 := by unfold bE; rw [if_pos q, h1]; rfl
  refine ⟨e1, by unfold bN; rw [if_pos q, h2, h5]; rfl, by unfold bV; rw [if_pos e1, h3]; rfl, ?_⟩
  rw [h4]; show R = R ++ []; rw [List.append_nil]
/-- Where run is. -/
structure Rn15 (w : World) (g : Nat) (T : St15) (n : Nat) (ra : Option Addr) (rc : Nat) (R : List Op15) (W : World) : Prop where
  old : Below w.heap.size w W
  gt : w.heap.size + 2 ≤ g
  box : W.heap[w.heap.size]? = some (.cells #[.slice (some ⟨g, 0, none⟩) n n] 24 (0, 0))
  res : W.heap[w.heap.size + 1]? = some zeroS
  own : StO g T W
  rev : W.ownsRow (g + 1) 69 4 (.slice ra R.length rc) R.length (opE.cells R)
theorem Rn15.step {w : World} {g : Nat} {T : St15} {n : Nat} {ra : Option Addr} {rc : Nat} {R : List Op15} {W V : World} (h : Rn15 w g T n ra rc R W) (hb : Below W.heap.size W V) : Rn15 w g T n ra rc R V :=
  ⟨h.old.trans (hb.mono h.old.size), h.gt, old_obj hb h.box, old_obj hb h.res, h.own.step hb, ownk_on h.rev hb⟩
theorem Rn15.change {w : World} {g : Nat} {T T2 : St15} {n : Nat} {ra : Option Addr} {rc : Nat} {R : List Op15} {W V : World} (h : Rn15 w g T n ra rc R W) (hg : W.grownBy V (some g)) (h2 : StO g T2 V) : Rn15 w g T2 n ra rc R V := by
  have hgt := h.gt
  have h1 := obj_lt h.box
  have h3 := obj_lt h.res
  refine ⟨h.old.grown hg h.old.size (fun k hk => by injection hk with e; omega), h.gt, ?_, ?_, h2, h.rev.kept hg ?_⟩
  · rw [hg.block _ h1 (fun e => by injection e with e; omega)]; exact h.box
  · rw [hg.block _ h3 (fun e => by injection e with e; omega)]; exact h.res
  · refine Or.inr fun e => ?_
    have := (h.rev.lt g e).1
    omega
theorem Rn15.more {w : World} {g : Nat} {T : St15} {n : Nat} {ra : Option Addr} {rc : Nat} {R : List Op15} {W V : World} (h : Rn15 w g T n ra rc R W) {o : Obj} {a' : Option Addr} {c' : Nat} {R2 : List Op15} (ho : V.ownsRow (g + 1) 69 4 (.slice a' R2.length c') R2.length (opE.cells R2)) (hg : (W.alloc o).grownBy V (Value.slice ra R.length rc).ownBlock)
    (hT : StO g T V) : Rn15 w g T n a' c' R2 V := by
  have hgt := h.gt
  have h1 := obj_lt h.box
  have h3 := obj_lt h.res
  have hb := (Below.refl W.heap.size W).alloc (Nat.le_refl _) o
  have hne : ∀ k, k < g + 1 → (Value.slice ra R.length rc).ownBlock ≠ some k := fun k hk e => by have := (h.rev.lt k e).1; omega
  have hblk : ∀ k, k < W.heap.size → k < g + 1 → V.heap[k]? = W.heap[k]? := fun k hk hk2 => by
    rw [hg.block k (by simp; omega) (fun e => hne k hk2 e.symm), Below.heap_alloc W o k (by omega)]
  refine ⟨(h.old.alloc h.old.size o).grown hg (by have := h.old.size; simp; omega) (fun k hk => by have := (h.rev.lt k hk).1; omega), h.gt, ?_, ?_, hT, ho⟩
  · rw [hblk _ h1 (by omega)]; exact h.box
  · rw [hblk _ h3 (by omega)]; exact h.res
/-- Its own tables stay, though the row of reverses grows. -/
theorem Rn15.keep {w : World} {g : Nat} {T : St15} {n : Nat} {ra : Option Addr} {rc : Nat} {R : List Op15} {W V : World} (h : Rn15 w g T n ra rc R W) {o : Obj} (hg : (W.alloc o).grownBy V (Value.slice ra R.length rc).ownBlock) : StO g T V := by
  obtain ⟨arr, h1, h2, h3⟩ := h.own
  have hlt := obj_lt h1
  have hsz : W.heap.size ≤ V.heap.size := Nat.le_trans (by simp) hg.size
  have hblk : ∀ k, k < W.heap.size → (Value.slice ra R.length rc).ownBlock ≠ some k → V.heap[k]? = W.heap[k]? := fun k hk hne => by
    rw [hg.block k (by simp; omega) (fun e => hne e.symm), Below.heap_alloc W o k (by omega)]
  have hne : ∀ b, (∃ arr fr, W.heap[b]? = some (.cells arr 67 fr)) → (Value.slice ra R.length rc).ownBlock ≠ some b := fun b ⟨arr2, fr2, hb⟩ e => by
    rcases h.rev.2 with ⟨q1, _⟩ | ⟨g2, cap, cur, q1, _, q3, _⟩
    · rw [q1] at e; cases e
    · rw [q1] at e
      injection e with e
      have e : g2 = b := e
      subst e
      rw [q3] at hb
      injection hb with hb
      injection hb with _ hb2 _
      exact absurd hb2 (by decide)
  refine ⟨arr, ?_, h2, fun j hj => ?_⟩
  · rw [hblk g hlt (fun e => by have := (h.rev.lt g e).1; omega)]; exact h1
  · obtain ⟨aj, cj, e1, e2, e3, e4⟩ := h3 j hj
    refine ⟨aj, cj, e1, e2, ?_, fun b off e => ?_⟩
    · rcases e3 with e3 | ⟨b, off, ha, q1, q2, hc⟩
      · exact Or.inl e3
      · exact Or.inr ⟨b, off, ha, q1, Nat.lt_of_lt_of_le q2 hsz, fun i u hi => (World.cell?_of_block (hblk b q2 (hne b (e4 b off ha)))).trans (hc i u hi)⟩
    · obtain ⟨arr2, fr2, q⟩ := e4 b off e
      exact ⟨arr2, fr2, by rw [hblk b (obj_lt q) (hne b ⟨arr2, fr2, q⟩)]; exact q⟩
end Go.Proofs.Yteccahggahpeeaa
