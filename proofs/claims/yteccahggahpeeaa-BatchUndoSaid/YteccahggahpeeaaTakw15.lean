/- The walk of the program's Take. -/
import Derived.Test.YteccahggahpeeaaTak15
namespace Go.Proofs.Yteccahggahpeeaa
open Go.RowKit

def tabsQ (L : List UInt8) (r : Rs) : Nat → Rs × St15
  | 0 => (r, [])
  | n + 1 => ((rowsQ L (numR L (tabsQ L r n).1 1 60) (numV L (tabsQ L r n).1 1 60).toNat).1, (tabsQ L r n).2 ++ [(rowsQ L (numR L (tabsQ L r n).1 1 60) (numV L (tabsQ L r n).1 1 60).toNat).2])
theorem tabsQ_len (L : List UInt8) (r : Rs) (m : Nat) : (tabsQ L r m).2.length = m := by
  induction m with
  | zero => rfl
  | succ m ih => show (_ ++ [_]).length = _; rw [List.length_append, ih]; rfl
theorem tabsQ_small (L : List UInt8) (r : Rs) (m : Nat) : ∀ T ∈ (tabsQ L r m).2, T.length ≤ 60 := by
  induction m with
  | zero => intro T hT; cases hT
  | succ m ih =>
    intro T hT
    rcases List.mem_append.1 (show T ∈ _ ++ [_] from hT) with h | h
    · exact ih T h
    · rw [List.mem_singleton.1 h, rowsQ_len]
      have := (numV_bd (L := L) (tabsQ L r m).1 1 (m := 60) (by omega)).2
      omega
theorem tabsQ_stop (L : List UInt8) (r : Rs) {k : Nat} (h : (tabsQ L r k).1.e ≠ 0) (m : Nat) : (tabsQ L r (k + m)).1 = (tabsQ L r k).1 := by
  induction m with
  | zero => rfl
  | succ m ih =>
    show (rowsQ L (numR L (tabsQ L r (k + m)).1 1 60) (numV L (tabsQ L r (k + m)).1 1 60).toNat).1 = _
    rw [ih, numR_stop h]
    have := rowsQ_stop L (tabsQ L r k).1 (k := 0) h (numV L (tabsQ L r k).1 1 60).toNat
    rw [Nat.zero_add] at this
    exact this
theorem tabsQ_on (L : List UInt8) (r : Rs) : ∀ (m k : Nat), (tabsOn L m (tabsQ L r k).1 (tabsQ L r k).2).1 = (tabsQ L r (k + m)).1 ∧ ((tabsQ L r (k + m)).1.e = 0 → (tabsOn L m (tabsQ L r k).1 (tabsQ L r k).2).2 = (tabsQ L r (k + m)).2)
  | 0, k => ⟨rfl, fun _ => rfl⟩
  | m + 1, k => by
    by_cases h : (tabsQ L r k).1.e = 0
    · have ih := tabsQ_on L r m (k + 1)
      rw [show k + 1 + m = k + (m + 1) by omega] at ih
      obtain ⟨q1, q2⟩ := rowsQ_on L (numR L (tabsQ L r k).1 1 60) (numV L (tabsQ L r k).1 1 60).toNat 0
      rw [Nat.zero_add] at q1 q2
      have q1 : (rowsOn L (numV L (tabsQ L r k).1 1 60).toNat (numR L (tabsQ L r k).1 1 60) []).1 = (tabsQ L r (k + 1)).1 := q1
      have e : tabsOn L (m + 1) (tabsQ L r k).1 (tabsQ L r k).2 = tabsOn L m (rowsOn L (numV L (tabsQ L r k).1 1 60).toNat (numR L (tabsQ L r k).1 1 60) []).1 ((tabsQ L r k).2 ++ [(rowsOn L (numV L (tabsQ L r k).1 1 60).toNat (numR L (tabsQ L r k).1 1 60) []).2]) := by
        show (if _ then _ else _) = _
        rw [if_pos h]
      rw [e, q1]
      by_cases h2 : (tabsQ L r (k + 1)).1.e = 0
      · have q3 : (rowsOn L (numV L (tabsQ L r k).1 1 60).toNat (numR L (tabsQ L r k).1 1 60) []).2 = (rowsQ L (numR L (tabsQ L r k).1 1 60) (numV L (tabsQ L r k).1 1 60).toNat).2 := q2 h2
        rw [q3]
        exact ih
      · rw [tabs_stop h2]
        have q4 := tabsQ_stop L r h2 m
        rw [show k + 1 + m = k + (m + 1) by omega] at q4
        rw [q4]
        exact ⟨rfl, fun z => absurd z h2⟩
    · rw [tabs_stop h, tabsQ_stop L r h]
      exact ⟨rfl, fun z => absurd z h⟩
theorem tabsQ_in {L : List UInt8} {r : Rs} (h : Within L r) (m : Nat) : Within L (tabsQ L r m).1 := by
  induction m with
  | zero => exact h
  | succ m ih => exact rowsQ_in (num_in ih) _
theorem takeQ (L : List UInt8) : (takeA L).1 = (tabsQ L (numR L ⟨0, 0⟩ 1 8) (numV L ⟨0, 0⟩ 1 8).toNat).1 ∧ ((takeA L).1.e = 0 → (takeA L).2 = (tabsQ L (numR L ⟨0, 0⟩ 1 8) (numV L ⟨0, 0⟩ 1 8).toNat).2) := by
  have h := tabsQ_on L (numR L ⟨0, 0⟩ 1 8) (numV L ⟨0, 0⟩ 1 8).toNat 0
  rw [Nat.zero_add] at h
  exact ⟨h.1, fun z => h.2 (by rw [← h.1]; exact z)⟩
/-- Tables being read. -/
structure Tt15 (w : World) (g g2 g3 n : Nat) (s : ByteArray) (r : Rs) (S : St15) (W : World) : Prop where
  old : Below w.heap.size w W
  res : W.heap[w.heap.size]? = some zeroS
  rd : Rd W g s r
  box : W.heap[g3]? = some (.cells #[.slice (some ⟨g2, 0, none⟩) n n] 24 (0, 0))
  row : ∃ arr : Array Value, W.heap[g2]? = some (.cells arr 65 (0, 0)) ∧ arr.size = n ∧ ∀ j : Nat, j < S.length → ∃ (aj : Option Addr) (cj : Nat), arr[j]? = some (.slice aj (tab S (j : Int)).length cj) ∧ (tab S (j : Int)).length ≤ cj ∧ Els recE (g3 + 1) W.heap.size W aj (tab S (j : Int))
  ord : w.heap.size < g ∧ g < g2 ∧ g2 < g3
theorem Tt15.grown {w : World} {g g2 g3 n : Nat} {s : ByteArray} {r r' : Rs} {S : St15} {W V : World} (h : Tt15 w g g2 g3 n s r S W) (hg : W.grownBy V (some g)) (hr : Rd V g s r') : Tt15 w g g2 g3 n s r' S V := by
  obtain ⟨arr, h1, h2, h3⟩ := h.row
  obtain ⟨o1, o2, o3⟩ := h.ord
  have hx : ∀ k, k < W.heap.size → k ≠ g → V.heap[k]? = W.heap[k]? := fun k hk hne => hg.block k hk (fun e => by injection e with e; exact hne e)
  refine ⟨h.old.grown hg h.old.size (fun k hk => by injection hk with e; omega), by rw [hx _ (obj_lt h.res) (by omega)]; exact h.res, hr, by rw [hx _ (obj_lt h.box) (by omega)]; exact h.box, ⟨arr, by rw [hx _ (obj_lt h1) (by omega)]; exact h1, h2, fun j hj => ?_⟩, h.ord⟩
  obtain ⟨aj, cj, e1, e2, e3⟩ := h3 j hj
  exact ⟨aj, cj, e1, e2, e3.grown hg (by omega)⟩
theorem Tt15.step {w : World} {g g2 g3 n : Nat} {s : ByteArray} {r : Rs} {S : St15} {W V : World} (h : Tt15 w g g2 g3 n s r S W) (hb : Below W.heap.size W V) : Tt15 w g g2 g3 n s r S V :=
  h.grown (below_kept15 hb _) (by obtain ⟨o, h1, h2⟩ := h.rd; exact ⟨o, old_obj hb h1, h2⟩)
theorem Tt15.put {w : World} {g g2 g3 n : Nat} {s : ByteArray} {r : Rs} {S : St15} {W : World} (h : Tt15 w g g2 g3 n s r S W) (hi : S.length < n) {aj : Option Addr} {cj : Nat} {T : Tb15} (hc : T.length ≤ cj) (hT : Els recE (g3 + 1) W.heap.size W aj T) : Tt15 w g g2 g3 n s r (S ++ [T]) (W.setCell ⟨g2, S.length, none⟩ (.slice aj T.length cj)) := by
  obtain ⟨arr, h1, h2, h3⟩ := h.row
  obtain ⟨o1, o2, o3⟩ := h.ord
  refine ⟨h.old.setCell (p := ⟨g2, S.length, none⟩) (by show w.heap.size ≤ g2; omega) _, by rw [heap_set15 _ _ _ _ _ (by omega)]; exact h.res, h.rd.set (by omega) _ _, by rw [heap_set15 _ _ _ _ _ (by omega)]; exact h.box, ⟨_, heap_setCell_same W g2 S.length _ _ _ h1, by rw [Array.size_setIfInBounds]; exact h2, fun j hj => ?_⟩, h.ord⟩
  rw [List.length_append] at hj
  have hj : j < S.length + 1 := hj
  rw [Array.getElem?_setIfInBounds]
  by_cases q : S.length = j
  · subst q
    have e : tab (S ++ [T]) ((S.length : Nat) : Int) = T := by rw [tab_at (by simp)]; simp
    rw [if_pos rfl, if_pos (by omega), e]
    exact ⟨aj, cj, rfl, hc, by rw [World.size_setCell]; exact hT.set15 (p := ⟨g2, S.length, none⟩) (by show g2 < g3 + 1; omega) _⟩
  · have hj2 : j < S.length := by omega
    have e : tab (S ++ [T]) (j : Int) = tab S (j : Int) := by rw [tab_at (by simp; omega), tab_at hj2, List.getElem_append_left hj2]
    rw [if_neg q, e]
    obtain ⟨a2, c2, e1, e2, e3⟩ := h3 j hj2
    exact ⟨a2, c2, e1, e2, by rw [World.size_setCell]; exact e3.set15 (p := ⟨g2, S.length, none⟩) (by show g2 < g3 + 1; omega) _⟩
theorem Tt15.cells {w : World} {g g2 g3 n : Nat} {s : ByteArray} {r : Rs} {S : St15} {W : World} (h : Tt15 w g g2 g3 n s r S W) {j : Nat} (hj : j < n) : (∃ u, W.cell? ⟨g2, j, none⟩ = some u) ∧ W.frozen? ⟨g2, j, none⟩ = false := by
  obtain ⟨arr, h1, h2, _⟩ := h.row
  exact ⟨⟨_, cell_of h1 (Array.getElem?_eq_getElem (by omega))⟩, frozen_of_row _ _ j _ _ h1⟩
theorem Tt15.fact {w : World} {g g2 g3 n : Nat} {s : ByteArray} {r : Rs} {S : St15} {W : World} (h : Tt15 w g g2 g3 n s r S W) : W.cell? ⟨g3, 0, none⟩ = some (.slice (some ⟨g2, 0, none⟩) n n) := cell_of h.box rfl
theorem Tt15.resf {w : World} {g g2 g3 n : Nat} {s : ByteArray} {r : Rs} {S : St15} {W : World} (h : Tt15 w g g2 g3 n s r S W) : W.cell? ⟨w.heap.size, 0, none⟩ = some (.slice none 0 0) ∧ W.frozen? ⟨w.heap.size, 0, none⟩ = false := ⟨cell_of h.res rfl, frozen_of_row _ _ 0 _ _ h.res⟩
theorem Tt15.tabs {w : World} {g g2 g3 n : Nat} {s : ByteArray} {r : Rs} {S : St15} {W : World} (h : Tt15 w g g2 g3 n s r S W) : TabsV (w.heap.size + 1) W.heap.size W (some ⟨g2, 0, none⟩) S := by
  obtain ⟨arr, h1, h2, h3⟩ := h.row
  obtain ⟨o1, o2, o3⟩ := h.ord
  refine Or.inr ⟨g2, 0, rfl, by omega, obj_lt h1, fun j hj => ?_⟩
  obtain ⟨aj, cj, e1, e2, e3⟩ := h3 j hj
  exact ⟨aj, cj, by rw [Nat.zero_add]; exact cell_of h1 e1, e2, e3.wide (by omega) (Nat.le_refl _)⟩
theorem end_zero15 {L : List UInt8} {r : Rs} (h : (endR L r).e = 0) : r.e = 0 := by
  unfold endR at h
  split at h
  · have h : (6 : Int) = 0 := h
    omega
  · exact h
set_option maxRecDepth 100000 in
set_option maxHeartbeats 16000000 in
theorem ptake15_any (s : ByteArray) (w : World) (hs : s.size ≤ 281474976710656) :
    Calls Try.prog 25 #[.string s] w fun e w' => ∃ a' c', e = .returned (.tuple #[stVal a' c' (takeSV s.data.toList), .int .i64 (takeSE s.data.toList)]) ∧ StV w' a' c' (takeSV s.data.toList) ∧ Below w.heap.size w w' := by
  obtain ⟨i0, hi, hz0, hz1, hz2⟩ := info_parts infoTab
  have hmf : ∀ (fn : Fn) (first cap : Array Value) (w : World), (Instr.makeFunc fn first cap).run Try.prog w = .ok (.func fn first cap) w := fun _ _ _ _ => rfl
  have hb0 := (Below.refl w.heap.size w).alloc (Nat.le_refl _) zeroS
  have HB0 := Lib.hid hb0
  have HR0 := Lib.hid (heap_alloc_new w zeroS)
  have HNW := Lib.hid (snew_any s hs (w.alloc zeroS))
  have hs2 : s.size ≤ 4611686018427387904 := by omega
  have hw0 : Within s.data.toList ⟨0, 0⟩ := ⟨Int.le_refl _, Int.natCast_nonneg _⟩
  obtain ⟨n, hn⟩ : ∃ n : Nat, numV s.data.toList ⟨0, 0⟩ 1 8 = n := ⟨(numV s.data.toList ⟨0, 0⟩ 1 8).toNat, by have := (numV_bd (L := s.data.toList) ⟨0, 0⟩ 1 (m := 8) (by omega)).1; omega⟩
  have hn8 : n ≤ 8 := by have := (numV_bd (L := s.data.toList) ⟨0, 0⟩ 1 (m := 8) (by omega)).2; omega
  have HNU : Hid (∀ (W : World) (g : Nat), Rd W g s ⟨0, 0⟩ → Calls Try.prog 48 #[.pointer (some ⟨g, 0, none⟩), .int .i64 1, .int .i64 8] W fun e w' => e = .returned (.int .i64 n) ∧ Rd w' g s (numR s.data.toList ⟨0, 0⟩ 1 8) ∧ W.grownBy w' (some g)) := Lib.hid fun W g h => by
    have := snum_any s hs2 ⟨0, 0⟩ hw0 g 1 8 W h
    rw [hn] at this
    exact this
  obtain ⟨tq1, tq2⟩ := takeQ s.data.toList
  rw [hn, Int.toNat_natCast] at tq1 tq2
  have hr1 := num_in (x := 1) (m := 8) hw0
  obtain ⟨r1, hr1e⟩ : ∃ r1, numR s.data.toList ⟨0, 0⟩ 1 8 = r1 := ⟨_, rfl⟩
  rw [hr1e] at HNU tq1 tq2 hr1
  have HTQ := Lib.hid (And.intro tq1 tq2)
  have HIN : Hid (∀ k, Within s.data.toList (tabsQ s.data.toList r1 k).1) := Lib.hid (tabsQ_in hr1)
  have HLE : Hid (∀ k, (tabsQ s.data.toList r1 k).2.length = k) := Lib.hid (tabsQ_len _ _)
  have HSM : Hid (Small15 (tabsQ s.data.toList r1 n).2) := Lib.hid ⟨by rw [tabsQ_len]; omega, fun T hT => by have := tabsQ_small _ _ _ T hT; omega⟩
  have HSTEP : Hid (∀ i (m : Nat), numV s.data.toList (tabsQ s.data.toList r1 i).1 1 60 = m → (tabsQ s.data.toList r1 (i + 1)).1 = (rowsQ s.data.toList (numR s.data.toList (tabsQ s.data.toList r1 i).1 1 60) m).1 ∧ (tabsQ s.data.toList r1 (i + 1)).2 = (tabsQ s.data.toList r1 i).2 ++ [(rowsQ s.data.toList (numR s.data.toList (tabsQ s.data.toList r1 i).1 1 60) m).2]) := Lib.hid fun i m hm => by
    have e : (numV s.data.toList (tabsQ s.data.toList r1 i).1 1 60).toNat = m := by rw [hm]; exact Int.toNat_natCast m
    rw [← e]; exact ⟨rfl, rfl⟩
  have HRT : Hid (∀ (i : Nat) (W : World) (g : Nat), Rd W g s (tabsQ s.data.toList r1 i).1 → Calls Try.prog 49 #[fnNum g, fnText g] W fun e w' => ∃ (g2 m : Nat), e = .returned (.slice (some ⟨g2, 0, none⟩) m m) ∧ Rt15 W g g2 m s (tabsQ s.data.toList r1 (i + 1)).1 (rowsQ s.data.toList (numR s.data.toList (tabsQ s.data.toList r1 i).1 1 60) m).2 w' ∧ (tabsQ s.data.toList r1 (i + 1)).2 = (tabsQ s.data.toList r1 i).2 ++ [(rowsQ s.data.toList (numR s.data.toList (tabsQ s.data.toList r1 i).1 1 60) m).2] ∧ (rowsQ s.data.toList (numR s.data.toList (tabsQ s.data.toList r1 i).1 1 60) m).2.length = m) := Lib.hid fun i W g h => by
    refine (preadt_any s hs2 _ (HIN.out i) g W h).mono ?_
    rintro e w' ⟨g2, m, rfl, hm, hrt⟩
    obtain ⟨e1, e2⟩ := HSTEP.out i m hm
    rw [← e1] at hrt
    exact ⟨g2, m, rfl, hrt, e2, rowsQ_len _ _ _⟩
  have HEN : Hid (∀ (r : Rs) (W : World) (g : Nat), Rd W g s r → Calls Try.prog 51 #[.pointer (some ⟨g, 0, none⟩)] W fun e w' => e = .returned (.tuple #[]) ∧ Rd w' g s (endR s.data.toList r) ∧ W.grownBy w' (some g)) := Lib.hid fun r W g h => send_any s hs2 r g W h
  have HER : Hid (∀ (r : Rs) (W : World) (g : Nat), Rd W g s r → Calls Try.prog 53 #[.pointer (some ⟨g, 0, none⟩)] W fun e w' => e = .returned (errV r) ∧ Below W.heap.size W w') := Lib.hid fun r W g h => serr_any s r g W h
  have HCK : Hid (∀ (W : World) (a : Option Addr) (c : Nat) (S : St15), StV W a c S → Calls Try.prog 19 #[stVal a c S] W fun e w' => e = .returned (.int .i64 (checkS S)) ∧ Below W.heap.size W w') := Lib.hid fun W a c S h => pcheck15_any a c S W h
  have hbt : n * i0.bytes ≤ 281474976710656 := by rw [hz2]; omega
  clear hb0 hn hr1e hr1 tq1 tq2 hs hs2 hw0 HIN HSTEP
  go_enter Try.func25, Try.ntmps25
  go_upto_region 3 with (first
    | (go_at_call 47; refine HNW.out.mono ?_; rintro e w1 ⟨g, rfl, hg, hr, hb⟩; have H1 := Lib.hid (And.intro hr (And.intro (HB0.out.trans (hb.mono HB0.out.size)) (And.intro (old_obj hb HR0.out) hg))); clear hg hr hb)
    | (go_at_call 48; refine (HNU.out _ _ H1.out.1).mono ?_; rintro e w2 ⟨rfl, hr, hg⟩; have H2 := Lib.hid (And.intro hr hg); clear hr hg)
    | (at_make; refine wpList_make_full _ rfl _ _ 22 rfl w2.heap.size 65 i0 (.slice none 0 0) 1 Try.underlying22 hi hz0 hz1 .i64 .i64 _ _ n rfl rfl rfl rfl (by rw [hz2]; omega) (by unfold maxLen; omega) (Nat.le_refl _) ?_))
  intro w3 hown hg
  have H3 : Hid (Tt15 w g w2.heap.size w3.heap.size n s (tabsQ s.data.toList r1 0).1 (tabsQ s.data.toList r1 0).2 (w3.alloc (.cells #[.slice (some ⟨w2.heap.size, 0, none⟩) n n] 24))) := Lib.hid (by
    obtain ⟨q1, q2, q3, q4⟩ := H1.out
    have hsz : (w.alloc zeroS).heap.size = w.heap.size + 1 := by simp
    have hg1 : g < w1.heap.size := by obtain ⟨o, h1, _⟩ := q1; exact obj_lt h1
    have hg12 := H2.out.2.size
    have hb1 := Below.grown (Below.refl w2.heap.size w2) hg (Nat.le_refl _) (by simp)
    have hb2 := (Below.refl w3.heap.size w3).alloc (Nat.le_refl _) (.cells #[.slice (some ⟨w2.heap.size, 0, none⟩) n n] 24)
    have ho2 : Below w.heap.size w w2 := q2.grown H2.out.2 q2.size (fun k hk => by injection hk with e; omega)
    have hr2 : w2.heap[w.heap.size]? = some zeroS := by rw [H2.out.2.block _ (obj_lt q3) (fun e => by injection e with e; omega)]; exact q3
    rcases hown.2 with ⟨e1, _⟩ | ⟨g', cap', cur, e1, _, e3, _, _, e6, _⟩
    · cases e1
    · cases e1
      have hlt2 := obj_lt e3
      exact ⟨(ho2.trans (hb1.mono ho2.size)).trans (hb2.mono (ho2.trans (hb1.mono ho2.size)).size), old_obj hb2 (old_obj hb1 hr2), by obtain ⟨o, h1, h2⟩ := H2.out.1; exact ⟨o, old_obj hb2 (old_obj hb1 h1), h2⟩, heap_alloc_new w3 _, ⟨cur, old_obj hb2 e3, by rw [e6]; omega, fun j hj => by cases hj⟩, by omega, by omega, hlt2⟩)
  clear hown hg hi hz0 hz1 hz2 hbt H1 H2 HNW HB0 HR0 HNU
  go_upto_region 3 with fail
  generalize w3.alloc (.cells #[.slice (some ⟨w2.heap.size, 0, none⟩) n n] 24) = V3 at *
  generalize w3.heap.size = g3 at *
  generalize w2.heap.size = g2 at *
  have c0 := H3.out.fact
  go_upto_region 4 with fail
  go_loopw [19] (fun s19 wr => ∃ i : Nat, s19 = .int .i64 i ∧ i ≤ n ∧ Hid (Tt15 w g g2 g3 n s (tabsQ s.data.toList r1 i).1 (tabsQ s.data.toList r1 i).2 wr)) (fun i _ => n + 1 - (intOf i).toNat)
  case atStart => exact ⟨0, rfl, by omega, H3⟩
  case round =>
    clear H3 c0
    obtain ⟨i, rfl, hi, H⟩ := hrel
    by_cases hlt : i < n
    · have i1 : (i : Int) < (n : Int) := by omega
      have i3 : (0 : Int) ≤ (i : Int) := by omega
      have c1 := H.out.fact
      have hord := H.out.ord
      have m1 : ¬ (g3 = g2) := by omega
      have m2 : ¬ (g2 = g3) := by omega
      have HD := Lib.hid (H.out.step (Below.refl _ wr).drew)
      have HR := Lib.hid (HRT.out i wr.drew g HD.out.rd)
      have HLI := Lib.hid (And.intro (HLE.out i) hlt)
      clear hord
      generalize hq1 : (tabsQ s.data.toList r1 (i + 1)).1 = q2 at *
      generalize hq : (tabsQ s.data.toList r1 (i + 1)).2 = S2 at *
      generalize (tabsQ s.data.toList r1 i).2 = S1 at *
      have HQ := Lib.hid (And.intro hq1 hq)
      clear hq hq1
      go_upto_region 6 with fail
      go_region_held3 (fun v => v.cell? ⟨g3, 0, none⟩ = some (.slice (some ⟨g2, 0, none⟩) n n)) (first | go_keep) (first
        | (go_at_call 49; refine HR.out.mono ?_; rintro e w5 ⟨g4, m, rfl, hrt, he, hm⟩; have H5 := Lib.hid (HD.out.grown hrt.grown hrt.rd); have N5 := Lib.hid (And.intro hrt (And.intro he hm)); obtain ⟨⟨u0, hu0⟩, fz⟩ := H5.out.cells HLI.out.2; have c2 := H5.out.fact; clear hrt he hm)
        | fail)
      all_goals
        have H6 : Hid (Tt15 w g g2 g3 n s q2 S2 (w5.setCell ⟨g2, i, none⟩ (.slice (some ⟨g4, 0, none⟩) m m))) := Lib.hid (by
          obtain ⟨hrt, he, hm⟩ := N5.out
          have hb3 := obj_lt HD.out.box
          have hp := H5.out.put (by rw [HLI.out.1]; exact HLI.out.2) (aj := some ⟨g4, 0, none⟩) (cj := m) (by rw [hm]; exact Nat.le_refl _) (hrt.tbl.els (A := g3 + 1) (by have := hrt.new; omega))
          rw [HLI.out.1, hm, ← he] at hp
          exact hp)
        clear hu0 fz c1 c2 H5 N5 m1 m2
        go_wp2
        go_roundw
        case rel => exact ⟨i + 1, by first | rfl | go_num, by omega, Lib.hid (by rw [HQ.out.1, HQ.out.2]; exact H6.out)⟩
        case measure => first | (simp [intOf]; omega) | simp [intOf]
    · obtain rfl : i = n := by omega
      have HE := Lib.hid (HEN.out _ _ _ H.out.rd)
      have HSV : Hid ((endR s.data.toList (tabsQ s.data.toList r1 i).1).e = 0 → takeSE s.data.toList = checkS (tabsQ s.data.toList r1 i).2 ∧ (takeSE s.data.toList = 0 → takeSV s.data.toList = (tabsQ s.data.toList r1 i).2)) := Lib.hid fun z => by
        obtain ⟨q1, q2⟩ := HTQ.out
        have hz := end_zero15 z
        have q3 := q2 (by rw [q1]; exact hz)
        have e1 : takeSE s.data.toList = checkS (tabsQ s.data.toList r1 i).2 := by
          unfold takeSE
          rw [q1, if_neg (by rw [z]; simp), q3]
        exact ⟨e1, fun y => by unfold takeSV; rw [if_pos y, q3]⟩
      have HSF : Hid ((endR s.data.toList (tabsQ s.data.toList r1 i).1).e ≠ 0 → takeSE s.data.toList = (endR s.data.toList (tabsQ s.data.toList r1 i).1).e ∧ takeSV s.data.toList = []) := Lib.hid fun z => by
        obtain ⟨q1, _⟩ := HTQ.out
        have e1 : takeSE s.data.toList = (endR s.data.toList (tabsQ s.data.toList r1 i).1).e := by
          unfold takeSE
          rw [q1, if_pos z]
        exact ⟨e1, by unfold takeSV; rw [if_neg (by rw [e1]; exact z)]⟩
      have HLN := Lib.hid (HLE.out i)
      clear hmf HTQ HRT HLE HEN hi hlt hn8
      generalize (tabsQ s.data.toList r1 i).2 = S2 at *
      generalize (tabsQ s.data.toList r1 i).1 = q at *
      generalize endR s.data.toList q = E at *
      go_upto_region 9 with (go_at_call 51; refine HE.out.mono ?_; rintro e w4 ⟨rfl, hr, hg⟩; have H4 := Lib.hid (H.out.grown hg hr); clear hr hg)
      have HEV := Lib.hid (HER.out E w4 g H4.out.rd)
      by_cases he : E.e = 0
      · have hev : errV E = .nilIface := by unfold errV; rw [if_pos he]
        rw [hev] at HEV
        obtain ⟨s1, s2⟩ := HSV.out he
        have HS := Lib.hid (And.intro s1 s2)
        have HWN : Hid (∀ W, Calls Try.prog 52 #[.nilIface] W fun e w' => e = .returned (.tuple #[.int .i64 0, .int .i64 0]) ∧ Below W.heap.size W w') := Lib.hid swhy_nil
        clear hev he s1 s2 HSV HSF
        go_upto_region 12 with (first
          | (go_at_call 53; refine HEV.out.mono ?_; rintro e w5 ⟨rfl, hb⟩; have H5 := Lib.hid (H4.out.step hb); clear hb)
          | (go_at_call 52; refine (HWN.out _).mono ?_; rintro e w6 ⟨rfl, hb⟩; have H6 := Lib.hid (H5.out.step hb); clear hb))
        have HST : Hid (StV w6 (some ⟨g2, 0, none⟩) i S2) := Lib.hid ⟨H6.out.tabs.wide (Nat.zero_le _) (Nat.le_refl _), by rw [HLN.out]; exact Nat.le_refl _, HSM.out⟩
        have HC := Lib.hid (HCK.out _ _ _ _ HST.out)
        rw [show stVal (some ⟨g2, 0, none⟩) i S2 = .agg #[.slice (some ⟨g2, 0, none⟩) i i] from by show Value.agg #[Value.slice (some ⟨g2, 0, none⟩) S2.length i] = _; rw [HLN.out]] at HC
        have c0 := H6.out.fact
        by_cases hk : checkS S2 = 0
        · rw [hk] at HC
          have HV := Lib.hid (HS.out.2 (by rw [HS.out.1]; exact hk))
          have HE0 : Hid (takeSE s.data.toList = 0) := Lib.hid (by rw [HS.out.1]; exact hk)
          clear hk
          go_upto_region 15 with (go_at_call 19; refine HC.out.mono ?_; rintro e w7 ⟨rfl, hb⟩; have H7 := Lib.hid (H6.out.step hb); clear hb c0)
          have c1 := H7.out.fact
          obtain ⟨r0, r2⟩ := H7.out.resf
          have HT := Lib.hid ((H7.out.tabs.set (p := ⟨w.heap.size, 0, none⟩) (by simp) (.slice (some ⟨g2, 0, none⟩) i i)))
          go_wp2
          refine bodyPost_ret (results_row_slot rfl _ _ w.heap.size _ rfl (bs_load (heap_setCell_same _ _ 0 _ _ _ H7.out.res))) rfl ?_
          refine ⟨some ⟨g2, 0, none⟩, i, ?_, ⟨?_, ?_, ?_⟩, H7.out.old.setCell (p := ⟨w.heap.size, 0, none⟩) (Nat.le_refl _) _⟩
          · rw [HV.out, HE0.out]; show _ = Ending.returned (.tuple #[.agg #[.slice (some ⟨g2, 0, none⟩) S2.length i], .int .i64 0]); rw [HLN.out]; rfl
          · rw [HV.out, World.size_setCell]; exact HT.out.wide (Nat.zero_le _) (Nat.le_refl _)
          · rw [HV.out, HLN.out]; exact Nat.le_refl _
          · rw [HV.out]; exact HSM.out
        · have hk2 := (check_two15 S2).resolve_left hk
          rw [hk2] at HC
          have HE0 : Hid (takeSE s.data.toList = 40) := Lib.hid (by rw [HS.out.1]; exact hk2)
          have HV : Hid (takeSV s.data.toList = []) := Lib.hid (by unfold takeSV; rw [if_neg (by rw [HE0.out]; decide)])
          clear hk hk2
          go_upto_region 14 with (go_at_call 19; refine HC.out.mono ?_; rintro e w7 ⟨rfl, hb⟩; have H7 := Lib.hid (H6.out.step hb); clear hb c0)
          obtain ⟨r0, r2⟩ := H7.out.resf
          go_wp2
          refine bodyPost_ret (results_row_slot rfl _ _ w.heap.size _ rfl (bs_load (heap_setCell_same _ _ 0 _ _ _ H7.out.res))) rfl ?_
          refine ⟨none, 0, by rw [HV.out, HE0.out]; rfl, ?_, H7.out.old.setCell (p := ⟨w.heap.size, 0, none⟩) (Nat.le_refl _) _⟩
          rw [HV.out]; exact ⟨Or.inl rfl, Nat.le_refl _, nil_small⟩
      · have hev : errV E = .iface 140 (.agg #[.int .i64 E.e, .int .i64 E.p]) := by unfold errV; rw [if_neg he]
        rw [hev] at HEV
        obtain ⟨s1, s2⟩ := HSF.out he
        have HS := Lib.hid (And.intro s1 s2)
        have HWN : Hid (∀ W, Calls Try.prog 52 #[.iface 140 (.agg #[.int .i64 E.e, .int .i64 E.p])] W fun e w' => e = .returned (.tuple #[.int .i64 E.e, .int .i64 E.p]) ∧ Below W.heap.size W w') := Lib.hid (swhy_fault E.e E.p)
        have d1 : (E.e != 0) = true := by rw [bne_iff_ne]; exact he
        have d2 : (E.e == 0) = false := beq_eq_false_iff_ne.2 he
        clear hev he s1 s2 HSV HSF
        go_upto_region 11 with (first
          | (go_at_call 53; refine HEV.out.mono ?_; rintro e w5 ⟨rfl, hb⟩; have H5 := Lib.hid (H4.out.step hb); clear hb)
          | (go_at_call 52; refine (HWN.out _).mono ?_; rintro e w6 ⟨rfl, hb⟩; have H6 := Lib.hid (H5.out.step hb); clear hb))
        obtain ⟨r0, r2⟩ := H6.out.resf
        go_wp2
        refine bodyPost_ret (results_row_slot rfl _ _ w.heap.size _ rfl (bs_load (heap_setCell_same _ _ 0 _ _ _ H6.out.res))) rfl ?_
        refine ⟨none, 0, by rw [HS.out.1, HS.out.2]; rfl, ?_, H6.out.old.setCell (p := ⟨w.heap.size, 0, none⟩) (Nat.le_refl _) _⟩
        rw [HS.out.2]; exact ⟨Or.inl rfl, Nat.le_refl _, nil_small⟩
end Go.Proofs.Yteccahggahpeeaa
