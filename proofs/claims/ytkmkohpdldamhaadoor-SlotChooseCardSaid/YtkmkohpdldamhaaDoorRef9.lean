/- The document's own Sectors, Get, Choose and Next of snapshots, for every text, in every world. -/
import Derived.Test.YtkmkohpdldamhaaDoorSnap9
import Derived.Test.YtkmkohpdldamhaaDoorBits5
import Derived.Test.YtkmkohpdldamhaaDoorRef7
import Derived.Test.YtkmkohpdldamhaaDoorCells
namespace Go.Proofs.YtkmkohpdldamhaaDoor
open Go.RowKit

theorem two_cells9 {w : World} {g : Nat} {x y : Value} {t : TypeId} (h : w.heap[g]? = some (.cells #[x, y] t (0, 0))) :
    w.cell? ⟨g, 0, none⟩ = some x ∧ w.cell? ⟨g, 1, none⟩ = some y ∧ w.frozen? ⟨g, 0, none⟩ = false ∧ w.frozen? ⟨g, 1, none⟩ = false :=
  ⟨cell_of (j := 0) h rfl, cell_of (j := 1) h rfl, frozen_of_row w g 0 _ _ h, frozen_of_row w g 1 _ _ h⟩
theorem two_stored9 {w : World} {g : Nat} {x y : Value} {t : TypeId} (h : w.heap[g]? = some (.cells #[x, y] t (0, 0))) (x' y' : Value) :
    ((w.setCell ⟨g, 0, none⟩ x').setCell ⟨g, 1, none⟩ y').heap[g]? = some (.cells #[x', y'] t (0, 0)) := by
  have h0 := heap_setCell_same w g 0 _ t x' h
  exact heap_setCell_same _ g 1 _ t y' h0
theorem two_below9 {B : Nat} {w w' : World} (h : Below B w w') {g : Nat} (hg : B ≤ g) (x y : Value) :
    Below B w ((w'.setCell ⟨g, 0, none⟩ x).setCell ⟨g, 1, none⟩ y) :=
  (h.setCell (p := ⟨g, 0, none⟩) hg x).setCell (p := ⟨g, 1, none⟩) hg y
theorem snap_load {w : World} {g : Nat} {t : TypeId} {x y : Value} {fr : Nat × Nat} (h : w.heap[g]? = some (.cells #[x, y] t fr)) : (loadVar 27 ⟨g, 0, none⟩).run Tryd.prog w = .ok (.agg #[x, y]) w :=
  run_loadVar_row (P := Tryd.prog) w g t 27 #[x, y] fr _ h Tryd.underlying27 rfl (by kernel_rfl)

theorem rsect_any (n : Nat) (hn : n ≤ 4611686018427387904) (w : World) :
    Calls Tryd.prog 26 #[.int .i64 n] w fun e w' => e = .returned (.int .i64 (sect9 n : Nat)) ∧ w = w' := by
  have i1 : IntKind.i64.wrap ((n : Int) + 16) = (n : Int) + 16 := IntWalk.i64_in _ (by omega)
  have i2 : IntKind.i64.wrap ((n : Int) + 16 + 63) = (n : Int) + 16 + 63 := IntWalk.i64_in _ (by omega)
  have i3 : ((n : Int) + 16 + 63).tdiv 64 = ((sect9 n : Nat) : Int) := by unfold sect9; rw [Int.tdiv_eq_ediv_of_nonneg (by omega)]; omega
  have i4 : IntKind.i64.wrap ((sect9 n : Nat) : Int) = ((sect9 n : Nat) : Int) := IntWalk.i64_in _ (by unfold sect9; omega)
  clear hn
  go_enter Tryd.func26, Tryd.ntmps26
  go_wp2
  go_ret
  exact ⟨rfl, rfl⟩
/-- The first twelve bytes, as the document reads them. -/
theorem head9 (l : List UInt8) (h : 16 ≤ l.length) : getE l 0 8 = (if 127 < (l.getD 0 0).toNat then 8 else 0) ∧ (¬ 127 < (l.getD 0 0).toNat → getV l 0 8 = (gen9 l : Int)) ∧ getE l 8 4 = 0 ∧ getV l 8 4 = (len9 l : Int) := by
  have h1 : getE l 0 8 = (if 127 < (l.getD 0 0).toNat then 8 else 0) := by
    unfold getE
    rw [if_pos ⟨by unfold wideW; omega, by omega, by omega⟩, if_neg (by omega)]
    show (if (8 : Int) = 8 ∧ 127 < (l.getD 0 0).toNat then (8 : Int) else 0) = _
    by_cases q : 127 < (l.getD 0 0).toNat
    · rw [if_pos ⟨rfl, q⟩, if_pos q]
    · rw [if_neg (fun x => q x.2), if_neg q]
  have h2 : getE l 8 4 = 0 := by
    unfold getE
    rw [if_pos ⟨by unfold wideW; omega, by omega, by omega⟩, if_neg (by omega), if_neg (by omega)]
  refine ⟨h1, fun q => ?_, h2, ?_⟩
  · unfold getV
    rw [h1, if_neg q, if_pos rfl]
    rfl
  · unfold getV
    rw [h2, if_pos rfl]
    rfl
theorem bad9 {l : List UInt8} (h : getE9 l ≠ 0) : getG9 l = 0 ∧ getT9 l = [] := by unfold getG9 getT9; rw [if_neg h, if_neg h]; exact ⟨rfl, rfl⟩
set_option maxHeartbeats 1000000 in
theorem rget9_any (s : ByteArray) (hs : s.size ≤ 4611686018427387904) (w : World) :
    Calls Tryd.prog 15 #[.string s] w fun e w' => ∃ t : ByteArray, e = .returned (.tuple #[.agg #[.int .i64 (getG9 s.data.toList), .string t], .int .i64 (getE9 s.data.toList)]) ∧ Hid (t.data.toList = getT9 s.data.toList) ∧ Below w.heap.size w w' := by
  obtain ⟨Z, hZ⟩ : ∃ Z : Obj, Z = .cells #[.int .i64 0, .string ⟨#[]⟩] 27 := ⟨_, rfl⟩
  have hB0 : Below w.heap.size w (w.alloc Z) := (Below.refl _ w).alloc (Nat.le_refl _) _
  have hN0 := heap_alloc_new w Z
  have hz := text_size s
  go_enter Tryd.func15, Tryd.ntmps15
  go_upto_region 1 with fail
  first | rw [← hZ] | skip
  generalize w.alloc Z = W at *
  rw [hZ] at hN0
  clear hZ
  obtain ⟨c0, c1, f0, f1⟩ := two_cells9 hN0
  have HN := Lib.hid hN0
  have HB := Lib.hid hB0
  clear hN0 hB0
  by_cases q1 : s.size < 16
  · have e1 : decide ((s.size : Int) < 16) = true := decide_eq_true (by omega)
    have hE : getE9 s.data.toList = 4 := by unfold getE9; rw [if_pos (by omega)]
    have HR := Lib.hid (bad9 (l := s.data.toList) (by omega))
    have HE := Lib.hid hE
    clear q1 hE hz
    go_wp2
    refine bodyPost_ret (results_row_slot rfl _ _ w.heap.size _ rfl (snap_load (two_stored9 HN.out _ _))) rfl ?_
    refine ⟨⟨#[]⟩, ?_, Lib.hid HR.out.2.symm, two_below9 HB.out (by omega) _ _⟩
    rw [HR.out.1, HE.out]; rfl
  have e1 : decide ((s.size : Int) < 16) = false := decide_eq_false (by omega)
  obtain ⟨k1, k2, k3, k4⟩ := head9 s.data.toList (by omega)
  have g1 := fun W => rget_any s hs 0 8 (by omega) (by omega) W
  have g2 := fun W => rget_any s hs 8 4 (by omega) (by omega) W
  rw [k3, k4] at g2
  by_cases q2 : 127 < (s.data.toList.getD 0 0).toNat
  · have hE : getE9 s.data.toList = 8 := by unfold getE9; rw [if_neg (by omega), if_pos q2]
    have HR := Lib.hid (bad9 (l := s.data.toList) (by omega))
    have HE := Lib.hid hE
    rw [k1, if_pos q2] at g1
    clear q1 q2 hE hz g2 k1 k2 k3 k4
    go_wp2_with (go_at_call 25; refine (g1 _).mono ?_; rintro e w1 ⟨rfl, rfl⟩)
    refine bodyPost_ret (results_row_slot rfl _ _ w.heap.size _ rfl (snap_load (two_stored9 HN.out _ _))) rfl ?_
    refine ⟨⟨#[]⟩, ?_, Lib.hid HR.out.2.symm, two_below9 HB.out (by omega) _ _⟩
    rw [HR.out.1, HE.out]; rfl
  rw [k1, if_neg q2, k2 q2] at g1
  clear k1 k2 k3 k4
  have hEa : getE9 s.data.toList = if 1 ≤ gen9 s.data.toList ∧ gen9 s.data.toList ≤ 1000000000 then
    (if 100000 < len9 s.data.toList then 3
     else if s.data.toList.length < 64 * sect9 (len9 s.data.toList) then 4
     else if unE (s.data.toList.take (len9 s.data.toList + 16)) = 0 then (if ∀ c ∈ pad9 s.data.toList, c = 0 then 0 else 5)
     else unE (s.data.toList.take (len9 s.data.toList + 16)))
    else 2 := by
    unfold getE9; rw [if_neg (by omega), if_neg q2]
  obtain ⟨G, hG⟩ : ∃ G, gen9 s.data.toList = G := ⟨_, rfl⟩
  obtain ⟨n, hn⟩ : ∃ n, len9 s.data.toList = n := ⟨_, rfl⟩
  rw [hG] at g1
  rw [hn] at g2
  rw [hG, hn] at hEa
  go_upto_region 7 with (first
    | (have _t := HT1; go_at_call 25; refine (g2 _).mono ?_; rintro e w1 ⟨rfl, rfl⟩)
    | (go_at_call 25; refine (g1 _).mono ?_; rintro e w1 ⟨rfl, rfl⟩; have HT1 := Lib.hid True.intro))
  have HG := Lib.hid hG
  clear g1 g2 HT1 hG
  by_cases q3 : ¬ (1 ≤ G ∧ G ≤ 1000000000)
  · have hE : getE9 s.data.toList = 2 := by rw [hEa, if_neg q3]
    have HR := Lib.hid (bad9 (l := s.data.toList) (by omega))
    have HE := Lib.hid hE
    by_cases q4 : G < 1
    · have e4 : decide ((G : Int) < 1) = true := decide_eq_true (by omega)
      clear hE hEa hz q1 q2 q3 q4
      go_wp2
      refine bodyPost_ret (results_row_slot rfl _ _ w.heap.size _ rfl (snap_load (two_stored9 HN.out _ _))) rfl ?_
      refine ⟨⟨#[]⟩, ?_, Lib.hid HR.out.2.symm, two_below9 HB.out (by omega) _ _⟩
      rw [HR.out.1, HE.out]; rfl
    · have e4 : decide ((G : Int) < 1) = false := decide_eq_false (by omega)
      have e5 : decide (1000000000 < (G : Int)) = true := decide_eq_true (by omega)
      clear hE hEa hz q1 q2 q3 q4
      go_wp2
      refine bodyPost_ret (results_row_slot rfl _ _ w.heap.size _ rfl (snap_load (two_stored9 HN.out _ _))) rfl ?_
      refine ⟨⟨#[]⟩, ?_, Lib.hid HR.out.2.symm, two_below9 HB.out (by omega) _ _⟩
      rw [HR.out.1, HE.out]; rfl
  have q3 := Decidable.not_not.1 q3
  rw [if_pos q3] at hEa
  have e4 : decide ((G : Int) < 1) = false := decide_eq_false (by omega)
  have e5 : decide (1000000000 < (G : Int)) = false := decide_eq_false (by omega)
  by_cases q4 : 100000 < n
  · have e6 : decide (100000 < (n : Int)) = true := decide_eq_true (by omega)
    have hE : getE9 s.data.toList = 3 := by rw [hEa, if_pos q4]
    have HR := Lib.hid (bad9 (l := s.data.toList) (by omega))
    have HE := Lib.hid hE
    clear hE hEa hz q1 q2 q3 q4
    go_wp2
    refine bodyPost_ret (results_row_slot rfl _ _ w.heap.size _ rfl (snap_load (two_stored9 HN.out _ _))) rfl ?_
    refine ⟨⟨#[]⟩, ?_, Lib.hid HR.out.2.symm, two_below9 HB.out (by omega) _ _⟩
    rw [HR.out.1, HE.out]; rfl
  have e6 : decide (100000 < (n : Int)) = false := decide_eq_false (by omega)
  rw [if_neg q4] at hEa
  have hse := fun W => rsect_any n (by omega) W
  have hsu := sect_up n
  obtain ⟨m, hm⟩ : ∃ m, 64 * sect9 n = m := ⟨_, rfl⟩
  rw [hm] at hEa hsu
  have i1 : IntKind.i64.wrap (64 * ((sect9 n : Nat) : Int)) = (m : Int) := by rw [show (64 : Int) * ((sect9 n : Nat) : Int) = m by omega]; exact IntWalk.i64_in _ (by omega)
  by_cases q5 : s.size < m
  · have e7 : decide (s.size < m) = true := decide_eq_true q5
    have hE : getE9 s.data.toList = 4 := by rw [hEa, if_pos (by omega)]
    have HR := Lib.hid (bad9 (l := s.data.toList) (by omega))
    have HE := Lib.hid hE
    clear hE hEa hz q1 q2 q3 q4 q5 hsu hm
    go_wp2_with (go_at_call 26; refine (hse _).mono ?_; rintro e w2 ⟨rfl, rfl⟩)
    refine bodyPost_ret (results_row_slot rfl _ _ w.heap.size _ rfl (snap_load (two_stored9 HN.out _ _))) rfl ?_
    refine ⟨⟨#[]⟩, ?_, Lib.hid HR.out.2.symm, two_below9 HB.out (by omega) _ _⟩
    rw [HR.out.1, HE.out]; rfl
  have e7 : decide (s.size < m) = false := decide_eq_false q5
  rw [if_neg (by omega)] at hEa
  obtain ⟨p, hp⟩ : ∃ p, n + 16 = p := ⟨_, rfl⟩
  have i2 : IntKind.i64.wrap ((n : Int) + 16) = (p : Int) := by rw [show (n : Int) + 16 = p by omega]; exact IntWalk.i64_in _ (by omega)
  have i3 : (0 : Int) ≤ (p : Int) := by omega
  have i4 : (p : Int) ≤ (s.size : Int) := by omega
  have hcl : (s.extract 0 p).data.toList = s.data.toList.take p := by rw [cut_list]; simp
  have hun := fun W => runseal_any (s.extract 0 p) (by rw [ByteArray.size_extract]; omega) W
  rw [hcl] at hun
  rw [hp] at hEa
  obtain ⟨U, hU⟩ : ∃ U, s.extract 0 p = U := ⟨_, rfl⟩
  rw [hU] at hun hcl
  clear hcl
  go_upto_region 14 with (first
    | (go_at_call 26; refine (hse _).mono ?_; rintro e w2 ⟨rfl, rfl⟩)
    | (go_at_call 27; refine (hun _).mono ?_; rintro e w2 ⟨t, rfl, ht, hb⟩; have HT := Lib.hid ht; have HB2 := Lib.hid hb; clear ht hb))
  have HN2 := Lib.hid (old_obj HB2.out HN.out)
  have HW2 := Lib.hid (HB.out.trans (HB2.out.mono HB.out.size))
  obtain ⟨c0, c1, f0, f1⟩ := two_cells9 HN2.out
  clear hun
  by_cases q6 : unE (s.data.toList.take p) = 0
  · rw [if_pos q6] at hEa
    rw [q6]
    have hfin : ∀ c ∈ pad9 s.data.toList, c = 0 → True := fun _ _ _ => trivial
    have hpad : (∀ c ∈ pad9 s.data.toList, c = 0) ↔ ∀ j, p ≤ j → j < m → ∀ h : j < s.size, s[j] = 0 := by
      unfold pad9
      rw [hn, hp, hm]
      constructor
      · intro h j h1 h2 h3
        refine h _ ?_
        rw [List.mem_iff_getElem?]
        refine ⟨j - p, ?_⟩
        rw [List.getElem?_take_of_lt (by omega), List.getElem?_drop, show p + (j - p) = j by omega, List.getElem?_eq_getElem (by omega)]
        rfl
      · intro h c hc
        obtain ⟨k, hk⟩ := List.mem_iff_getElem?.1 hc
        have hk1 : k < m - p := by
          have := (List.getElem?_eq_some_iff.1 hk).1
          rw [List.length_take] at this
          omega
        rw [List.getElem?_take_of_lt hk1, List.getElem?_drop] at hk
        have hk2 := (List.getElem?_eq_some_iff.1 hk)
        obtain ⟨hk3, hk4⟩ := hk2
        rw [← hk4]
        exact h (p + k) (by omega) (by omega) (by omega)
    have HP := Lib.hid hpad
    have HEA := Lib.hid hEa
    have HTL : Hid (t.data.toList = (s.data.toList.take p).take ((s.data.toList.take p).length - 4)) := Lib.hid (by rw [HT.out]; unfold unL; rw [if_pos q6])
    clear hpad hEa hfin hU HT
    go_upto_region 17 with fail
    go_loopw [11] (fun i' wr => wr = w2 ∧ ∃ i : Nat, i' = .int .i64 i ∧ p ≤ i ∧ i ≤ m ∧ Hid (∀ j, p ≤ j → j < i → ∀ h : j < s.size, s[j] = 0)) (fun i _ => m - (intOf i).toNat)
    case atStart => exact ⟨rfl, p, rfl, Nat.le_refl _, by omega, Lib.hid fun j h1 h2 => by omega⟩
    case round =>
      obtain ⟨rfl, i, rfl, hpi, him, HZ⟩ := hrel
      by_cases hlt : i < m
      · have d1 : decide (i < m) = true := decide_eq_true hlt
        have hi : i < s.size := by omega
        have b1 : (i : Int) < (s.size : Int) := by omega
        have b0 : (0 : Int) ≤ (i : Int) := by omega
        by_cases hz0 : s[i] = 0
        · have d2 : (((s[i]).toNat : Int) != 0) = false := by rw [hz0]; rfl
          have i9 : IntKind.i64.wrap ((i : Int) + 1) = ((i + 1 : Nat) : Int) := IntWalk.i64_in _ (by omega)
          have HZ2 : Hid (∀ j, p ≤ j → j < i + 1 → ∀ h : j < s.size, s[j] = 0) := Lib.hid fun j h1 h2 h => by
            rcases (by omega : j < i ∨ j = i) with q | q
            · exact HZ.out j h1 q h
            · subst q; exact hz0
          clear hz0 hz
          go_wp2_with (go_at_call 26; refine (hse _).mono ?_; rintro e w3 ⟨rfl, rfl⟩)
          go_roundw
          case rel => exact ⟨trivial, i + 1, by first | rfl | go_num, by omega, by omega, HZ2⟩
          case measure => simp [intOf]; omega
        · have d2 : (((s[i]).toNat : Int) != 0) = true := by
            rw [bne_iff_ne]
            intro h
            apply hz0
            have : (s[i]).toNat = 0 := by omega
            exact UInt8.toNat_inj.1 (by rw [this]; rfl)
          have hE : getE9 s.data.toList = 5 := by
            rw [HEA.out, if_neg]
            intro h
            exact hz0 (HP.out.1 h i hpi hlt hi)
          have HR := Lib.hid (bad9 (l := s.data.toList) (by omega))
          have HE := Lib.hid hE
          clear hE hz q1 q2 q3 q4 q5 q6 hsu hm hz0
          go_wp2_with (go_at_call 26; refine (hse _).mono ?_; rintro e w3 ⟨rfl, rfl⟩)
          refine bodyPost_ret (results_row_slot rfl _ _ w.heap.size _ rfl (snap_load (two_stored9 HN2.out _ _))) rfl ?_
          refine ⟨⟨#[]⟩, ?_, Lib.hid HR.out.2.symm, two_below9 HW2.out (by omega) _ _⟩
          rw [HR.out.1, HE.out]; rfl
      · obtain rfl : i = m := by omega
        have d1 : decide (i < i) = false := decide_eq_false (by omega)
        have hE : getE9 s.data.toList = 0 := by rw [HEA.out, if_pos (HP.out.2 fun j h1 h2 h => HZ.out j h1 h2 h)]
        have hGG : getG9 s.data.toList = (G : Int) := by unfold getG9; rw [if_pos hE, HG.out]
        have htl : t.data.toList.length = n + 12 := by rw [HTL.out, List.length_take, List.length_take]; omega
        have hts : t.size = n + 12 := by rw [← htl, text_size]
        have hTT : (t.extract 12 t.size).data.toList = getT9 s.data.toList := by
          unfold getT9
          rw [if_pos hE, hn, cut_list, HTL.out, hts, List.length_take, Nat.min_eq_left (by omega), List.take_take, Nat.min_eq_left (by omega), List.drop_take, List.take_take]
          congr 1
          omega
        have b1 : (12 : Int) ≤ (t.size : Int) := by omega
        have HR := Lib.hid (And.intro hGG (And.intro hE hTT))
        clear hE hGG htl hts hTT hz q1 q2 q3 q4 q5 q6 hsu hm hlt him hpi
        go_wp2_with (go_at_call 26; refine (hse _).mono ?_; rintro e w3 ⟨rfl, rfl⟩)
        refine bodyPost_ret (results_row_slot rfl _ _ w.heap.size _ rfl (snap_load (two_stored9 HN2.out _ _))) rfl ?_
        refine ⟨t.extract 12 t.size, ?_, Lib.hid HR.out.2.2, two_below9 HW2.out (by omega) _ _⟩
        rw [HR.out.1, HR.out.2.1]; rfl
  · rw [if_neg q6] at hEa
    have d1 : (unE (s.data.toList.take p) != 0) = true := by rw [bne_iff_ne]; exact q6
    have HR := Lib.hid (bad9 (l := s.data.toList) (by rw [hEa]; exact q6))
    have HE := Lib.hid hEa
    clear hEa hz q1 q2 q3 q4 q5 q6 hsu hm hse
    go_wp2
    refine bodyPost_ret (results_row_slot rfl _ _ w.heap.size _ rfl (snap_load (two_stored9 HN2.out _ _))) rfl ?_
    refine ⟨⟨#[]⟩, ?_, Lib.hid HR.out.2.symm, two_below9 HW2.out (by omega) _ _⟩
    rw [HR.out.1, HE.out]; rfl
/-- Behind the two calls and their blocks: the three blocks, each as it was laid. -/
theorem laid9 {w w1 w2 : World} {Z X Y : Obj} (h1 : Below (w.alloc Z).heap.size (w.alloc Z) w1) (h2 : Below (w1.alloc X).heap.size (w1.alloc X) w2) :
    (w2.alloc Y).heap[w.heap.size]? = some Z ∧ (w2.alloc Y).heap[w1.heap.size]? = some X ∧ (w2.alloc Y).heap[w2.heap.size]? = some Y ∧ w.heap.size < w1.heap.size ∧ w1.heap.size < w2.heap.size ∧ Below w.heap.size w (w2.alloc Y) := by
  have s1 := h1.size
  have s2 := h2.size
  simp at s1 s2
  have b1 : Below w.heap.size w w1 := ((Below.refl _ w).alloc (Nat.le_refl _) Z).trans (h1.mono (by simp))
  have b2 : Below w1.heap.size w1 w2 := ((Below.refl _ w1).alloc (Nat.le_refl _) X).trans (h2.mono (by simp))
  have b3 : Below w2.heap.size w2 (w2.alloc Y) := (Below.refl _ w2).alloc (Nat.le_refl _) Y
  refine ⟨old_obj b3 (old_obj b2 (old_obj h1 (heap_alloc_new w Z))), old_obj b3 (old_obj h2 (heap_alloc_new w1 X)), heap_alloc_new w2 Y, by omega, by omega, (b1.trans (b2.mono (by omega))).trans (b3.mono (by omega))⟩
set_option maxHeartbeats 1000000 in
theorem rchoose9_any (a b : ByteArray) (ha : a.size ≤ 4611686018427387904) (hb : b.size ≤ 4611686018427387904) (w : World) :
    Calls Tryd.prog 8 #[.string a, .string b] w fun e w' => ∃ t : ByteArray, e = .returned (.tuple #[.agg #[.int .i64 (pickG a.data.toList b.data.toList), .string t], .int .i64 (pickI a.data.toList b.data.toList)]) ∧ Hid (t.data.toList = pickT a.data.toList b.data.toList) ∧ Below w.heap.size w w' := by
  have ga := fun W => rget9_any a ha W
  have gb := fun W => rget9_any b hb W
  obtain ⟨A, hA⟩ : ∃ A, a.data.toList = A := ⟨_, rfl⟩
  obtain ⟨B, hB⟩ : ∃ B, b.data.toList = B := ⟨_, rfl⟩
  rw [hA] at ga
  rw [hB] at gb
  rw [hA, hB]
  have HPK := Lib.hid (pick_cases A B)
  obtain ⟨EA, hEA⟩ : ∃ E, getE9 A = E := ⟨_, rfl⟩
  obtain ⟨EB, hEB⟩ : ∃ E, getE9 B = E := ⟨_, rfl⟩
  obtain ⟨GA, hGA⟩ : ∃ E, getG9 A = E := ⟨_, rfl⟩
  obtain ⟨GB, hGB⟩ : ∃ E, getG9 B = E := ⟨_, rfl⟩
  rw [hEA, hGA] at ga
  rw [hEB, hGB] at gb
  rw [hEA, hEB, hGA, hGB] at HPK
  have HV : Hid (pickG A B = (if pickI A B = -1 then 0 else if pickI A B = 0 then GA else GB)) := Lib.hid (by unfold pickG; rw [hGA, hGB])
  clear hA hB ha hb hEA hEB hGA hGB
  go_enter Tryd.func8, Tryd.ntmps8
  go_upto_region 3 with (first
    | (have _t := HB1; go_at_call 15; refine (gb _).mono ?_; rintro e w2 ⟨tb, rfl, htb, hb2⟩; have HTB := Lib.hid htb; have HB2 := Lib.hid hb2; clear htb hb2)
    | (go_at_call 15; refine (ga _).mono ?_; rintro e w1 ⟨ta, rfl, hta, hb1⟩; have HTA := Lib.hid hta; have HB1 := Lib.hid hb1; clear hta hb1))
  obtain ⟨z0, z1, z2, s1, s2, hbw⟩ := laid9 (Y := .cells #[.int .i64 GB, .string tb] 27) HB1.out HB2.out
  have Z0 := Lib.hid z0
  have BW := Lib.hid hbw
  obtain ⟨c0, c1, f0, f1⟩ := two_cells9 z0
  obtain ⟨d0, d1, _, _⟩ := two_cells9 z1
  obtain ⟨k0, k1, _, _⟩ := two_cells9 z2
  clear z0 z1 z2 hbw HB1 HB2 ga gb
  generalize w2.alloc (.cells #[.int .i64 GB, .string tb] 27) = W3 at *
  have x1 : ¬ (w.heap.size = w1.heap.size) := by omega
  have x2 : ¬ (w.heap.size = w2.heap.size) := by omega
  have x3 : ¬ (w1.heap.size = w.heap.size) := by omega
  have x4 : ¬ (w2.heap.size = w.heap.size) := by omega
  clear s1 s2
  by_cases qa : EA = 0
  · have ea : (EA == 0) = true := beq_iff_eq.2 qa
    have ea2 : (EA != 0) = false := by rw [qa]; rfl
    by_cases hpick : EB ≠ 0 ∨ GB ≤ GA
    · have hI : pickI A B = 0 := by
        rcases HPK.out with h | h | h
        · exact absurd qa h.2.1
        · exact h.1
        · rcases h.2.2 with h' | h'
          · exact absurd qa h'
          · rcases hpick with h2 | h2
            · exact absurd h.2.1 h2
            · omega
      have hG : pickG A B = GA := by rw [HV.out, hI]; rfl
      have hT : ta.data.toList = pickT A B := by unfold pickT; rw [hI, HTA.out.out]; rfl
      have HR := Lib.hid (And.intro hI (And.intro hG hT))
      clear hI hG hT qa
      by_cases qb : EB = 0
      · have eb2 : (EB != 0) = false := by rw [qb]; rfl
        have eg : decide (GB ≤ GA) = true := decide_eq_true (by rcases hpick with h | h; exact absurd qb h; exact h)
        clear qb hpick
        go_wp2
        refine bodyPost_ret (results_row_slot rfl _ _ w.heap.size _ rfl (snap_load (two_stored9 Z0.out _ _))) rfl ?_
        exact ⟨ta, by rw [HR.out.1, HR.out.2.1]; rfl, Lib.hid HR.out.2.2, two_below9 BW.out (by omega) _ _⟩
      · have eb2 : (EB != 0) = true := by rw [bne_iff_ne]; exact qb
        clear qb hpick
        go_wp2
        refine bodyPost_ret (results_row_slot rfl _ _ w.heap.size _ rfl (snap_load (two_stored9 Z0.out _ _))) rfl ?_
        exact ⟨ta, by rw [HR.out.1, HR.out.2.1]; rfl, Lib.hid HR.out.2.2, two_below9 BW.out (by omega) _ _⟩
    · have hb0 : EB = 0 := Decidable.byContradiction fun h => hpick (Or.inl h)
      have hlt : GA < GB := by
        have : ¬ GB ≤ GA := fun h => hpick (Or.inr h)
        omega
      have hI : pickI A B = 1 := by
        rcases HPK.out with h | h | h
        · exact absurd qa h.2.1
        · rcases h.2.2 with h' | h'
          · exact absurd hb0 h'
          · omega
        · exact h.1
      have hG : pickG A B = GB := by rw [HV.out, hI]; rfl
      have hT : tb.data.toList = pickT A B := by unfold pickT; rw [hI, HTB.out.out]; rfl
      have HR := Lib.hid (And.intro hI (And.intro hG hT))
      have eb2 : (EB != 0) = false := by rw [hb0]; rfl
      have eg : decide (GB ≤ GA) = false := decide_eq_false (by omega)
      clear hI hG hT qa hpick hb0 hlt
      go_wp2
      refine bodyPost_ret (results_row_slot rfl _ _ w.heap.size _ rfl (snap_load (two_stored9 Z0.out _ _))) rfl ?_
      exact ⟨tb, by rw [HR.out.1, HR.out.2.1]; rfl, Lib.hid HR.out.2.2, two_below9 BW.out (by omega) _ _⟩
  · have ea : (EA == 0) = false := beq_eq_false_iff_ne.2 qa
    have ea2 : (EA != 0) = true := by rw [bne_iff_ne]; exact qa
    by_cases qb : EB = 0
    · have hI : pickI A B = 1 := by
        rcases HPK.out with h | h | h
        · exact absurd qb h.2.2
        · exact absurd h.2.1 qa
        · exact h.1
      have hG : pickG A B = GB := by rw [HV.out, hI]; rfl
      have hT : tb.data.toList = pickT A B := by unfold pickT; rw [hI, HTB.out.out]; rfl
      have HR := Lib.hid (And.intro hI (And.intro hG hT))
      have eb2 : (EB != 0) = false := by rw [qb]; rfl
      clear hI hG hT qa qb
      go_wp2
      refine bodyPost_ret (results_row_slot rfl _ _ w.heap.size _ rfl (snap_load (two_stored9 Z0.out _ _))) rfl ?_
      exact ⟨tb, by rw [HR.out.1, HR.out.2.1]; rfl, Lib.hid HR.out.2.2, two_below9 BW.out (by omega) _ _⟩
    · have hI : pickI A B = -1 := by
        rcases HPK.out with h | h | h
        · exact h.1
        · exact absurd h.2.1 qa
        · exact absurd h.2.1 qb
      have hG : pickG A B = 0 := by rw [HV.out, hI]; rfl
      have hT : [] = pickT A B := by unfold pickT; rw [hI]; rfl
      have HR := Lib.hid (And.intro hI (And.intro hG hT))
      have eb2 : (EB != 0) = true := by rw [bne_iff_ne]; exact qb
      clear hI hG hT qa qb
      go_wp2
      refine bodyPost_ret (results_row_slot rfl _ _ w.heap.size _ rfl (snap_load (two_stored9 Z0.out _ _))) rfl ?_
      exact ⟨⟨#[]⟩, by rw [HR.out.1, HR.out.2.1]; rfl, Lib.hid HR.out.2.2, two_below9 BW.out (by omega) _ _⟩
theorem gen_range (l : List UInt8) : 0 ≤ getG9 l ∧ getG9 l ≤ 1000000000 := by
  unfold getG9
  split
  · rename_i h
    have := (get_parts h).2.2.1
    omega
  · omega
theorem pick_range (a b : List UInt8) : 0 ≤ pickG a b ∧ pickG a b ≤ 1000000000 := by
  have h1 := gen_range a
  have h2 := gen_range b
  unfold pickG
  split
  · omega
  · split <;> omega
set_option maxHeartbeats 1000000 in
theorem rnext9_any (a b : ByteArray) (ha : a.size ≤ 4611686018427387904) (hb : b.size ≤ 4611686018427387904) (w : World) :
    Calls Tryd.prog 10 #[.string a, .string b] w fun e w' => e = .returned (.tuple #[.int .i64 (nextG a.data.toList b.data.toList), .int .i64 (nextS a.data.toList b.data.toList)]) ∧ Below w.heap.size w w' := by
  have hc := fun W => rchoose9_any a b ha hb W
  have hpk := pick_cases a.data.toList b.data.toList
  have hr := pick_range a.data.toList b.data.toList
  have hg : nextG a.data.toList b.data.toList = if pickI a.data.toList b.data.toList = -1 then 1 else if pickG a.data.toList b.data.toList = 1000000000 then 0 else pickG a.data.toList b.data.toList + 1 := rfl
  have hsl : nextS a.data.toList b.data.toList = if pickI a.data.toList b.data.toList = -1 then 0 else 1 - pickI a.data.toList b.data.toList := rfl
  rw [hg, hsl]
  generalize pickI a.data.toList b.data.toList = I at *
  generalize pickG a.data.toList b.data.toList = G at *
  have hI : I = -1 ∨ I = 0 ∨ I = 1 := by omega
  clear hpk hg hsl
  by_cases q : I = -1
  · rw [if_pos q, if_pos q]
    have e1 : decide (I < 0) = true := decide_eq_true (by omega)
    clear q hI hr
    go_enter Tryd.func10, Tryd.ntmps10
    go_wp2_with (go_at_call 8; refine (hc _).mono ?_; rintro e w1 ⟨t, rfl, _, hb1⟩; have HB1 := Lib.hid hb1; clear hb1)
    go_ret2
    exact ⟨rfl, HB1.out.alloc HB1.out.size _⟩
  · rw [if_neg q, if_neg q]
    have e1 : decide (I < 0) = false := decide_eq_false (by omega)
    have i1 : IntKind.i64.wrap (1 - I) = 1 - I := IntWalk.i64_in _ (by omega)
    have i2 : IntKind.i64.wrap (G + 1) = G + 1 := IntWalk.i64_in _ (by omega)
    by_cases qg : G = 1000000000
    · rw [if_pos qg]
      have e2 : (G == 1000000000) = true := beq_iff_eq.2 qg
      clear q hI hr qg
      go_enter Tryd.func10, Tryd.ntmps10
      go_wp2_with (go_at_call 8; refine (hc _).mono ?_; rintro e w1 ⟨t, rfl, _, hb1⟩; have HB1 := Lib.hid hb1; clear hb1)
      go_ret2
      exact ⟨rfl, HB1.out.alloc HB1.out.size _⟩
    · rw [if_neg qg]
      have e2 : (G == 1000000000) = false := beq_eq_false_iff_ne.2 qg
      clear q hI hr qg
      go_enter Tryd.func10, Tryd.ntmps10
      go_wp2_with (go_at_call 8; refine (hc _).mono ?_; rintro e w1 ⟨t, rfl, _, hb1⟩; have HB1 := Lib.hid hb1; clear hb1)
      go_ret2
      exact ⟨rfl, HB1.out.alloc HB1.out.size _⟩
end Go.Proofs.YtkmkohpdldamhaaDoor
