/- The program's Apply and Undo; slices.Reverse at changes. -/
import Derived.Test.YteccahggahpeeaaMElt15
import Derived.Test.YteccahggahpeeaaRunw15
import Derived.BigRegion
namespace Go.Proofs.Yteccahggahpeeaa
open Go.RowKit

set_option maxHeartbeats 4000000 in
theorem papply15_any (a : Option Addr) (c : Nat) (S : St15) (la : Option Addr) (lc : Nat) (l : List Op15) (w : World) (h : StV w a c S) (hl : OpsV w la lc l) :
    Calls Try.prog 12 #[stVal a c S, .slice la l.length lc] w fun e w' => ∃ a' c', e = .returned (.tuple #[stVal a' c' (bV S l), .int .i64 (bN S l), .int .i64 (bE S l)]) ∧ StV w' a' c' (bV S l) ∧ TabsV w.heap.size w'.heap.size w' a' (bV S l) ∧ Below w.heap.size w w' := by
  have hb0 := ((Below.refl w.heap.size w).alloc (Nat.le_refl _) (.cells #[.slice a S.length c] 24)).alloc (by simp) zeroS
  have HO := Lib.hid (And.intro (heap_alloc2_old w (.cells #[.slice a S.length c] 24) zeroS) (heap_alloc2_new w (.cells #[.slice a S.length c] 24) zeroS))
  have HB := Lib.hid hb0
  have hru := prun15_any a c S la lc l _ (h.step hb0) (hl.step hb0)
  unfold RunOut at hru
  have HRU := Lib.hid hru
  have HSZ : Hid (((w.alloc (.cells #[.slice a S.length c] 24)).alloc zeroS).heap.size = w.heap.size + 2) := Lib.hid (by simp)
  have HSM := Lib.hid (bV_small S l)
  clear h hl hb0 hru
  generalize bV S l = R at *
  generalize bE S l = E at *
  go_enter Try.func12, Try.ntmps12
  go_upto_region 1 with fail
  generalize (w.alloc (.cells #[.slice a S.length c] 24)).alloc zeroS = V at *
  have c0 := cell_of HO.out.1 (j := 0) rfl
  go_upto_region 2 with (go_at_call 30; refine HRU.out.mono ?_; rintro e w2 ⟨a', c', ra, rc, Q, rfl, hn, -, -, ht, hc, hb⟩; have HT := Lib.hid (And.intro hn (And.intro ht hc)); have HB2 := Lib.hid (HB.out.trans (hb.mono HB.out.size)); have HO2 := Lib.hid (And.intro (old_obj hb HO.out.1) (old_obj hb HO.out.2)); have c1 := cell_of HO2.out.1 (j := 0) rfl; have c2 := frozen_of_row _ _ 0 _ _ HO2.out.1; clear hn ht hc hb c0)
  have HO3 := Lib.hid (And.intro (heap_setCell_same w2 w.heap.size 0 _ _ (.slice a' R.length c') HO2.out.1) (show (w2.setCell ⟨w.heap.size, 0, none⟩ (.slice a' R.length c')).heap[w.heap.size + 1]? = some zeroS from by rw [heap_set15 _ _ _ _ _ (by omega)]; exact HO2.out.2))
  have HB3 := Lib.hid (HB2.out.setCell (p := ⟨w.heap.size, 0, none⟩) (Nat.le_refl _) (.slice a' R.length c'))
  have HT3 := Lib.hid (HT.out.2.1.set (p := ⟨w.heap.size, 0, none⟩) (by have := HSZ.out; show w.heap.size < _; omega) (.slice a' R.length c'))
  have HS3 : Hid (w2.heap.size = (w2.setCell ⟨w.heap.size, 0, none⟩ (.slice a' R.length c')).heap.size) := Lib.hid (by rw [World.size_setCell])
  clear c1 c2
  generalize w2.setCell ⟨w.heap.size, 0, none⟩ (.slice a' R.length c') = W3 at *
  have d0 := cell_of HO3.out.1 (j := 0) rfl
  have d1 := cell_of HO3.out.2 (j := 0) rfl
  have d2 := frozen_of_row _ _ 0 _ _ HO3.out.2
  have HT4 : Hid (TabsV w.heap.size (W3.setCell ⟨w.heap.size + 1, 0, none⟩ (.slice a' R.length c')).heap.size (W3.setCell ⟨w.heap.size + 1, 0, none⟩ (.slice a' R.length c')) a' R) := Lib.hid (by
    rw [World.size_setCell, ← HS3.out]
    have q : TabsV V.heap.size w2.heap.size (W3.setCell ⟨w.heap.size + 1, 0, none⟩ (.slice a' R.length c')) a' R := HT3.out.set (p := ⟨w.heap.size + 1, 0, none⟩) (show w.heap.size + 1 < V.heap.size by rw [HSZ.out]; omega) (.slice a' R.length c')
    exact q.wide (by rw [HSZ.out]; omega) (Nat.le_refl _))
  go_wp2
  refine bodyPost_ret (results_bs rfl _ _ (w.heap.size + 1) _ rfl (bs_load (heap_setCell_same _ _ 0 _ _ _ HO3.out.2))) rfl ?_
  exact ⟨a', c', by rw [← HT.out.1]; rfl, ⟨HT4.out.wide (Nat.zero_le _) (Nat.le_refl _), HT.out.2.2, HSM.out⟩, HT4.out, HB3.out.setCell (p := ⟨w.heap.size + 1, 0, none⟩) (by simp) _⟩
/-! Reverse. -/
theorem Mk15.at4 {g : Nat} {t : TypeId} {n : Nat} {L : List Op15} {W : World} (h : Mk15 opE g t n L W) {i : Nat} (hi : i < L.length) : W.cell? ⟨g, i * 4, none⟩ = some (.int .i64 (opAt L i).t) ∧ W.cell? ⟨g, i * 4 + 1, none⟩ = some (.int .i64 (opAt L i).k) ∧ W.cell? ⟨g, i * 4 + 2, none⟩ = some (.int .i64 (opAt L i).id) ∧ W.cell? ⟨g, i * 4 + 3, none⟩ = some (.string (tx (opAt L i).x)) := by
  obtain ⟨b, off, e, _, c0, c1, c2, c3⟩ := ops_at (h.els (Nat.zero_le _)) hi
  cases e
  rw [Nat.zero_add] at c0 c1 c2 c3
  exact ⟨c0, c1, c2, c3⟩
theorem Mk15.put4 {g : Nat} {t : TypeId} {n : Nat} {L : List Op15} {W : World} (h : Mk15 opE g t n L W) {i : Nat} (hi : i < L.length) (hn : L.length ≤ n) (o : Op15) :
    Mk15 opE g t n (L.set i o) ((((W.setCell ⟨g, i * 4, none⟩ (.int .i64 o.t)).setCell ⟨g, i * 4 + 1, none⟩ (.int .i64 o.k)).setCell ⟨g, i * 4 + 2, none⟩ (.int .i64 o.id)).setCell ⟨g, i * 4 + 3, none⟩ (.string (tx o.x))) := by
  obtain ⟨arr, h1, h2, h3⟩ := h
  have h2 : arr.size = n * 4 := h2
  refine ⟨_, heap_setCell_same _ g (i * 4 + 3) _ _ _ (heap_setCell_same _ g (i * 4 + 2) _ _ _ (heap_setCell_same _ g (i * 4 + 1) _ _ _ (heap_setCell_same W g (i * 4) _ _ _ h1))), by simp only [Array.size_setIfInBounds]; exact h2, fun j u hj => ?_⟩
  obtain ⟨y, hy, hu⟩ := opE.cells_from hj
  have hy : (L.set i o)[j / 4]? = some y := hy
  have hu : (opE.enc y)[j % 4]? = some u := hu
  simp only [Array.getElem?_setIfInBounds, Array.size_setIfInBounds, h2]
  rw [List.getElem?_set] at hy
  by_cases q : i = j / 4
  · rw [if_pos q, if_pos (by omega)] at hy
    have hy : o = y := by simpa using hy
    subst hy
    rcases (by omega : j = i * 4 ∨ j = i * 4 + 1 ∨ j = i * 4 + 2 ∨ j = i * 4 + 3) with e | e | e | e
    · rw [if_neg (by omega), if_neg (by omega), if_neg (by omega), if_pos (by omega), if_pos (by omega)]
      rw [show j % 4 = 0 by omega] at hu
      exact hu
    · rw [if_neg (by omega), if_neg (by omega), if_pos (by omega), if_pos (by omega)]
      rw [show j % 4 = 1 by omega] at hu
      exact hu
    · rw [if_neg (by omega), if_pos (by omega), if_pos (by omega)]
      rw [show j % 4 = 2 by omega] at hu
      exact hu
    · rw [if_pos (by omega), if_pos (by omega)]
      rw [show j % 4 = 3 by omega] at hu
      exact hu
  · rw [if_neg q] at hy
    rw [if_neg (by omega), if_neg (by omega), if_neg (by omega), if_neg (by omega)]
    refine h3 j u ?_
    have := opE.cells_at hy (i := j % 4) hu
    rw [show opE.k = 4 from rfl, Nat.mul_comm, Nat.div_add_mod] at this
    exact this
/-- A list turned about from both ends, as far as k. -/
def Turn15 (R : List Op15) (k : Nat) (L : List Op15) : Prop := L.length = R.length ∧ ∀ m, m < R.length → L[m]? = if m < k ∨ R.length - k ≤ m then R[R.length - 1 - m]? else R[m]?
theorem Turn15.start (R : List Op15) : Turn15 R 0 R := ⟨rfl, fun m hm => by rw [if_neg (by omega)]⟩
theorem Turn15.next {R L : List Op15} {k m : Nat} (h : Turn15 R k L) (hm : m = R.length - 1 - k) (hk : k < m) : Turn15 R (k + 1) ((L.set k (opAt L m)).set m (opAt L k)) := by
  obtain ⟨h1, h2⟩ := h
  refine ⟨by simp [h1], fun j hj => ?_⟩
  rw [List.getElem?_set, List.getElem?_set, List.length_set]
  by_cases q : m = j
  · subst q
    rw [if_pos rfl, if_pos (by omega), if_pos (by omega), ← opAt_get (by omega), h2 k (by omega), if_neg (by omega)]
    congr 1; omega
  · rw [if_neg q]
    by_cases q2 : k = j
    · subst q2
      rw [if_pos rfl, if_pos (by omega), if_pos (by omega), ← opAt_get (by omega), h2 m (by omega), if_neg (by omega)]
      congr 1
    · rw [if_neg q2, h2 j hj]
      by_cases q3 : j < k ∨ R.length - k ≤ j
      · rw [if_pos q3, if_pos (by omega)]
      · rw [if_neg q3, if_neg (by omega)]
theorem Turn15.done {R L : List Op15} {k : Nat} (h : Turn15 R k L) (hk : R.length ≤ 2 * k + 1) : L = R.reverse := by
  obtain ⟨h1, h2⟩ := h
  refine List.ext_getElem? fun m => ?_
  by_cases hm : m < R.length
  · rw [h2 m hm, List.getElem?_reverse hm]
    split
    · rfl
    · congr 1; omega
  · rw [List.getElem?_eq_none (by omega), List.getElem?_eq_none (by rw [List.length_reverse]; omega)]
set_option maxRecDepth 100000 in
set_option maxHeartbeats 8000000 in
theorem preverse15_any (a : Option Addr) (c : Nat) (R : List Op15) (B : Nat) (w : World) (h : w.ownsRow B 69 4 (.slice a R.length c) R.length (opE.cells R)) (hn : R.length ≤ 100000) :
    Calls Try.prog 33 #[.slice a R.length c] w fun e w' => e = .returned (.tuple #[]) ∧ R.length ≤ c ∧ Els opE B w'.heap.size w' a R.reverse ∧ Below B w w' := by
  rcases h.2 with ⟨h1, h0⟩ | ⟨g, cap, cur, h1, hB, h3, h4, h5, h6, h7⟩
  · injection h1 with e1 e2 e3
    have hR : R = [] := List.length_eq_zero_iff.1 h0
    subst hR e1 e3
    clear h h0 hn
    have iw : IntKind.i64.wrap ((0 : Int) - 1) = -1 := by rw [IntWalk.i64_in _ (by omega)]; rfl
    go_enter Try.func33, Try.ntmps33
    go_wp2
    go_loopw [2, 3] (fun s2 s3 wr => s2 = .int .i64 0 ∧ s3 = .int .i64 (-1) ∧ w = wr) (fun i _ _ => (intOf i).toNat)
    case atStart => exact ⟨rfl, rfl, rfl⟩
    case round =>
      obtain ⟨rfl, rfl, rfl⟩ := hrel
      go_wp2
      go_end0
      exact ⟨rfl, Nat.zero_le _, Or.inl rfl, Below.refl _ _⟩
  · injection h1 with e1 e2 e3
    subst e1 e3
    have hM : Mk15 opE g 69 c R w := ⟨cur, h3, h6, fun j u hj => by
      obtain ⟨hl, hx⟩ := List.getElem?_eq_some_iff.1 hj
      have := h.cells (g := g) rfl j u hj
      rw [Addr.add_lit] at this
      rw [World.cell?] at this
      simpa [h3] using this⟩
    have HM := Lib.hid hM
    have HB := Lib.hid hB
    have HC := Lib.hid h4
    have HT := Lib.hid (Turn15.start R)
    have hj0 : IntKind.i64.wrap ((R.length : Int) - 1) = (R.length : Int) - 1 := IntWalk.i64_in _ (by omega)
    clear h h3 h4 h5 h6 h7 hB hM
    go_enter Try.func33, Try.ntmps33
    go_wp2
    go_loopw [2, 3] (fun s2 s3 wr => ∃ (k : Nat) (j : Int) (L : List Op15), s2 = .int .i64 k ∧ s3 = .int .i64 j ∧ j = (R.length : Int) - 1 - k ∧ Hid (Turn15 R k L) ∧ Hid (Mk15 opE g 69 c L wr) ∧ Hid (Below B w wr)) (fun _ j _ => (intOf j + 1).toNat)
    case atStart => exact ⟨0, (R.length : Int) - 1, R, rfl, by first | rfl | rw [hj0], by omega, HT, HM, Lib.hid (Below.refl _ _)⟩
    case round =>
      clear HT HM hj0
      obtain ⟨k, j, L, rfl, rfl, hj, HT, HM, HBL⟩ := hrel
      by_cases hlt : (k : Int) < j
      · obtain ⟨m, rfl⟩ : ∃ m : Nat, j = m := ⟨j.toNat, by omega⟩
        have hlen := HT.out.1
        have hm : m = R.length - 1 - k := by omega
        have hkm : k < m := by omega
        have i1 : (k : Int) < (R.length : Int) := by omega
        have i2 : (m : Int) < (R.length : Int) := by omega
        have i3 : (0 : Int) ≤ (k : Int) := by omega
        have i4 : (0 : Int) ≤ (m : Int) := by omega
        have i7 : IntKind.i64.wrap ((k : Int) + 1) = (k : Int) + 1 := IntWalk.i64_in _ (by omega)
        have i8 : IntKind.i64.wrap ((m : Int) - 1) = (m : Int) - 1 := IntWalk.i64_in _ (by omega)
        have HN := Lib.hid (HT.out.next hm hkm)
        obtain ⟨a0, a1, a2, a3⟩ := HM.out.at4 (i := k) (by omega)
        obtain ⟨b0, b1, b2, b3⟩ := HM.out.at4 (i := m) (by omega)
        have hH := HM.out.put4 (i := k) (by omega) (by have := HC.out; omega) (opAt L m)
        have hF := hH.put4 (i := m) (by rw [List.length_set]; omega) (by rw [List.length_set]; have := HC.out; omega) (opAt L k)
        have HF := Lib.hid hF
        have hbl := ((((HBL.out.setCell (p := ⟨g, k * 4, none⟩) HB.out (.int .i64 (opAt L m).t)).setCell (p := ⟨g, k * 4 + 1, none⟩) HB.out (.int .i64 (opAt L m).k)).setCell (p := ⟨g, k * 4 + 2, none⟩) HB.out (.int .i64 (opAt L m).id)).setCell (p := ⟨g, k * 4 + 3, none⟩) HB.out (.string (tx (opAt L m).x)))
        have HBF := Lib.hid ((((hbl.setCell (p := ⟨g, m * 4, none⟩) HB.out (.int .i64 (opAt L k).t)).setCell (p := ⟨g, m * 4 + 1, none⟩) HB.out (.int .i64 (opAt L k).k)).setCell (p := ⟨g, m * 4 + 2, none⟩) HB.out (.int .i64 (opAt L k).id)).setCell (p := ⟨g, m * 4 + 3, none⟩) HB.out (.string (tx (opAt L k).x)))
        have f0 := HM.out.frozen (k * 4)
        have f1 := HM.out.frozen (k * 4 + 1)
        have f2 := HM.out.frozen (k * 4 + 2)
        have f3 := HM.out.frozen (k * 4 + 3)
        have g0 := HM.out.frozen (m * 4)
        have g1 := HM.out.frozen (m * 4 + 1)
        have g2 := HM.out.frozen (m * 4 + 2)
        have g3 := HM.out.frozen (m * 4 + 3)
        have hA : opAt (L.set k (opAt L m)) m = opAt L m := by
          unfold opAt
          rw [List.getD_eq_getElem?_getD, List.getElem?_set, if_neg (by omega), List.getD_eq_getElem?_getD]
        obtain ⟨t0, t1, t2, t3⟩ := hH.at4 (i := m) (by rw [List.length_set]; omega)
        rw [hA] at t0 t1 t2 t3
        have u0 := hH.frozen (m * 4)
        have u1 := hH.frozen (m * 4 + 1)
        have u2 := hH.frozen (m * 4 + 2)
        have u3 := hH.frozen (m * 4 + 3)
        have HJ := Lib.hid (And.intro hm hkm)
        clear hH hF hbl hA hm hkm hj
        generalize opAt L m = om at *
        generalize opAt L k = ok at *
        go_upto_region 3 with fail
        go_big_region
        go_wp2
        go_roundw
        case rel => exact ⟨k + 1, (m : Int) - 1, _, by first | rfl | go_num, by first | rfl | go_num, by have := HJ.out; omega, HN, Lib.hid (HF.out.step (Below.refl _ _).drew), Lib.hid HBF.out.drew⟩
        case measure => first | (simp [intOf]; omega) | simp [intOf]
      · have HD := Lib.hid (HT.out.done (by omega))
        have e2 : decide ((k : Int) < j) = false := decide_eq_false hlt
        go_wp2
        go_end0
        exact ⟨rfl, HC.out, by rw [← HD.out]; exact HM.out.els HB.out, HBL.out⟩
set_option maxHeartbeats 4000000 in
theorem pundo15_any (a : Option Addr) (c : Nat) (S : St15) (la : Option Addr) (lc : Nat) (l : List Op15) (w : World) (h : StV w a c S) (hl : OpsV w la lc l) :
    Calls Try.prog 15 #[stVal a c S, .slice la l.length lc] w fun e w' => ∃ a' c', e = .returned (.tuple #[.slice a' (bU S l).length c', .int .i64 (bE S l)]) ∧ OpsV w' a' c' (bU S l) ∧ Below w.heap.size w w' := by
  have hb0 := (Below.refl w.heap.size w).alloc (Nat.le_refl _) (.cells #[.slice a S.length c] 24)
  have HO := Lib.hid (heap_alloc_new w (.cells #[.slice a S.length c] 24))
  have HB := Lib.hid hb0
  have hru := prun15_any a c S la lc l _ (h.step hb0) (hl.step hb0)
  unfold RunOut at hru
  have HRU := Lib.hid hru
  have hll := hl.2.2
  have hun := bU_len S l
  have hnn := (app_len S l).1
  clear h hl hb0 hru
  by_cases he : bE S l = 0
  · have hq := bE_ok he
    have HN : Hid (bN S l ≤ 1000) := Lib.hid (by unfold bN; rw [if_pos (checkS_ok.2 hq.1)]; omega)
    have HU : Hid ((revL S l).reverse = bU S l) := Lib.hid (by unfold bU; rw [if_pos he, undo_rev])
    have HUL : Hid ((bU S l).length ≤ 1000) := Lib.hid (by omega)
    rw [he] at HRU ⊢
    clear he hq hun hnn hll
    generalize bV S l = R at *
    generalize bU S l = U at *
    generalize bN S l = M at *
    go_enter Try.func15, Try.ntmps15
    go_upto_region 1 with fail
    generalize w.alloc (.cells #[.slice a S.length c] 24) = V at *
    have c0 := cell_of HO.out (j := 0) rfl
    go_upto_region 2 with (go_at_call 30; refine HRU.out.mono ?_; rintro e w2 ⟨a', c', ra, rc, Q, rfl, hn, hr, ho, -, -, hb⟩; have HQ := Lib.hid (And.intro hn (And.intro (hr rfl) ho)); have HB2 := Lib.hid (HB.out.trans ((below_new hb (.cells #[.slice a' R.length c'] 24)).mono HB.out.size)); have HB1 := Lib.hid hb; clear hn hr ho hb c0)
    have HRV := Lib.hid (preverse15_any ra rc Q V.heap.size (w2.alloc (.cells #[.slice a' R.length c'] 24)) (ownk_on HQ.out.2.2 ((Below.refl _ w2).alloc (Nat.le_refl _) _)) (by have := HQ.out.1; have := HN.out; omega))
    generalize w2.alloc (.cells #[.slice a' R.length c'] 24) = W3 at *
    go_wp2_with (go_at_call 33; refine HRV.out.mono ?_; rintro e w4 ⟨rfl, hc, he, hb⟩; have HE := Lib.hid (And.intro hc (And.intro he hb)); clear hc he hb)
    go_ret2
    have hQ : Q.reverse = U := by rw [HQ.out.2.1]; exact HU.out
    have hQL : Q.length = U.length := by rw [← hQ, List.length_reverse]
    refine ⟨ra, rc, by rw [← hQL]; rfl, ⟨?_, ?_, HUL.out⟩, HB2.out.trans (HE.out.2.2.mono HB.out.size)⟩
    · rw [← hQ]; exact HE.out.2.1.wide (Nat.zero_le _) (Nat.le_refl _)
    · rw [← hQL]; exact HE.out.1
  · have HU : Hid (bU S l = []) := Lib.hid (by unfold bU; rw [if_neg he])
    have d1 : (bE S l != 0) = true := by rw [bne_iff_ne]; exact he
    have d2 : (bE S l == 0) = false := beq_eq_false_iff_ne.2 he
    rw [HU.out]
    clear he hun hnn hll
    generalize bV S l = R at *
    generalize bE S l = E at *
    go_enter Try.func15, Try.ntmps15
    go_upto_region 1 with fail
    generalize w.alloc (.cells #[.slice a S.length c] 24) = V at *
    have c0 := cell_of HO.out (j := 0) rfl
    go_wp2_with (go_at_call 30; refine HRU.out.mono ?_; rintro e w2 ⟨a', c', ra, rc, Q, rfl, -, -, -, -, -, hb⟩; have HB2 := Lib.hid (HB.out.trans ((below_new hb (.cells #[.slice a' R.length c'] 24)).mono HB.out.size)); clear hb c0)
    go_ret2
    exact ⟨none, 0, rfl, ⟨Or.inl rfl, Nat.le_refl _, by simp⟩, HB2.out⟩
end Go.Proofs.Yteccahggahpeeaa
