/- The program's Get, for every text, in every world in which the table lies. -/
import Derived.Test.YtkmkohpdldamhaaDoorSlotA9
import Derived.BigRegion
import Derived.BigQuiet
namespace Go.Proofs.YtkmkohpdldamhaaDoor
open Go.RowKit

theorem psnap_load {w : World} {g : Nat} {t : TypeId} {x y : Value} {fr : Nat × Nat} (h : w.heap[g]? = some (.cells #[x, y] t fr)) : (loadVar 24 ⟨g, 0, none⟩).run Tryd.prog w = .ok (.agg #[x, y]) w :=
  run_loadVar_row (P := Tryd.prog) w g t 24 #[x, y] fr _ h Tryd.underlying24 rfl (by kernel_rfl)
/-- Behind the beginning: the text's box, the result, the place up to which was read. -/
structure GetAt (w : World) (s : ByteArray) (x : Int) (W : World) : Prop where
  old : Below w.heap.size w W
  box : W.heap[w.heap.size]? = some (.cells #[.string s] 9 (0, 0))
  res : W.heap[w.heap.size + 1]? = some (.cells #[.int .i64 0, .string ⟨#[]⟩] 24 (0, 0))
  pos : W.heap[w.heap.size + 2]? = some (.cells #[.int .i64 x] 3 (0, 0))
theorem GetAt.boxC {w W : World} {s : ByteArray} {x : Int} (h : GetAt w s x W) : W.cell? ⟨w.heap.size, 0, none⟩ = some (.string s) := cell_of (j := 0) h.box rfl
theorem GetAt.posC {w W : World} {s : ByteArray} {x : Int} (h : GetAt w s x W) : W.cell? ⟨w.heap.size + 2, 0, none⟩ = some (.int .i64 x) := cell_of (j := 0) h.pos rfl
theorem GetAt.posF {w W : World} {s : ByteArray} {x : Int} (h : GetAt w s x W) : W.frozen? ⟨w.heap.size + 2, 0, none⟩ = false := frozen_of_row W _ 0 _ _ h.pos
theorem GetAt.resF {w W : World} {s : ByteArray} {x : Int} (h : GetAt w s x W) : W.frozen? ⟨w.heap.size + 1, 0, none⟩ = false ∧ W.frozen? ⟨w.heap.size + 1, 1, none⟩ = false := ⟨frozen_of_row W _ 0 _ _ h.res, frozen_of_row W _ 1 _ _ h.res⟩
theorem GetAt.resC {w W : World} {s : ByteArray} {x : Int} (h : GetAt w s x W) : W.cell? ⟨w.heap.size + 1, 0, none⟩ = some (.int .i64 0) ∧ W.cell? ⟨w.heap.size + 1, 1, none⟩ = some (.string ⟨#[]⟩) := ⟨cell_of (j := 0) h.res rfl, cell_of (j := 1) h.res rfl⟩
theorem GetAt.on {w W W1 : World} {s : ByteArray} {x : Int} (h : GetAt w s x W) (b : Below W.heap.size W W1) : GetAt w s x W1 :=
  ⟨h.old.trans (b.mono h.old.size), old_obj b h.box, old_obj b h.res, old_obj b h.pos⟩
theorem heap_set_other (w : World) (g k : Nat) (v : Value) (h : k ≠ g) : (w.setCell ⟨g, 0, none⟩ v).heap[k]? = w.heap[k]? := by
  simp [World.setCell, Array.getElem?_modify, Ne.symm h]
theorem GetAt.put {w W : World} {s : ByteArray} {x : Int} (h : GetAt w s x W) (y : Int) : GetAt w s y (W.setCell ⟨w.heap.size + 2, 0, none⟩ (.int .i64 y)) :=
  ⟨h.old.setCell (p := ⟨w.heap.size + 2, 0, none⟩) (by simp) _, by rw [heap_set_other _ _ _ _ (by omega)]; exact h.box, by rw [heap_set_other _ _ _ _ (by omega)]; exact h.res, heap_setCell_same _ _ 0 _ _ _ h.pos⟩
theorem GetAt.num {w W : World} {s : ByteArray} {x : Int} (h : GetAt w s x W) (hs : s.size ≤ 4611686018427387904) (h0 : -9223372036854775808 ≤ x) (h1 : x ≤ 9223372036854775807) (k : Int) :
    Calls Tryd.prog 20 #[.int .i64 k, .pointer (some ⟨w.heap.size, 0, none⟩), .pointer (some ⟨w.heap.size + 2, 0, none⟩)] W fun e w' => e = .returned (.tuple #[.int .i64 (getV s.data.toList x k), .int .i64 (getE s.data.toList x k)]) ∧ GetAt w s (getT s.data.toList x k) w' := by
  refine (number_any s hs x k h0 h1 w.heap.size (w.heap.size + 2) W h.boxC h.posC h.posF (obj_lt h.pos)).mono ?_
  rintro e w' ⟨rfl, W1, hb, rfl⟩
  exact ⟨rfl, (h.on hb).put _⟩

theorem drop_all {l : List UInt8} {c : UInt8} (h : ∀ x ∈ l.dropWhile (· == c), x = c) : ∀ x ∈ l, x = c := by
  induction l with
  | nil => intro x hx; simp at hx
  | cons a l ih =>
    by_cases q : a = c
    · subst q
      have e1 : (a :: l).dropWhile (· == a) = l.dropWhile (· == a) := by simp
      rw [e1] at h
      intro x hx
      rcases List.mem_cons.1 hx with r | r
      · exact r
      · exact ih h x r
    · have e1 : (a :: l).dropWhile (· == c) = a :: l := by simp [q]
      rw [e1] at h
      exact h
/-- What is left of a row of bytes, trimmed of one of them at both ends, is nothing just if all are that one. -/
theorem trim_none (l : List UInt8) (c : UInt8) : Lib.trimB l c = [] ↔ ∀ x ∈ l, x = c := by
  unfold Lib.trimB Lib.trimLeftB Lib.trimRightB
  constructor
  · intro h
    have h1 : ∀ x ∈ (l.reverse.dropWhile (· == c)).reverse, x = c := by
      refine drop_all (c := c) ?_
      rw [h]
      intro x hx
      simp at hx
    have h2 : ∀ x ∈ l.reverse, x = c := drop_all (c := c) (fun x hx => h1 x (by simpa using hx))
    intro x hx
    exact h2 x (by simpa using hx)
  · intro h
    have h2 : ∀ m : List UInt8, (∀ x ∈ m, x = c) → m.dropWhile (· == c) = [] := by
      intro m
      induction m with
      | nil => intro _; rfl
      | cons a m ih =>
        intro hm
        obtain rfl := hm a (by simp)
        rw [List.dropWhile_cons_of_pos (by simp)]
        exact ih fun x hx => hm x (by simp [hx])
    have h1 := h2 l.reverse fun x hx => h x (by simpa using hx)
    rw [h1]
    rfl

set_option maxHeartbeats 2000000 in
theorem pget9_any (s : ByteArray) (hs : s.size ≤ 281474976710656) (w : World) (hT : Tab w) :
    Calls Tryd.prog 13 #[.string s] w fun e w' => ∃ t : ByteArray, e = .returned (.tuple #[.agg #[.int .i64 (getG9 s.data.toList), .string t], .int .i64 (getE9 s.data.toList)]) ∧ Hid (t.data.toList = getT9 s.data.toList) ∧ Below w.heap.size w w' := by
  have hz := text_size s
  by_cases q1 : s.size < 16
  · have e1 : decide ((s.size : Int) < 16) = true := decide_eq_true (by omega)
    have hE : getE9 s.data.toList = 4 := by unfold getE9; rw [if_pos (by omega)]
    have HR := Lib.hid (bad9 (l := s.data.toList) (by omega))
    have HE := Lib.hid hE
    have hN := heap_alloc2_new w (.cells #[.string s] 9 (0, 0)) (.cells #[.int .i64 0, .string ⟨#[]⟩] 24 (0, 0))
    have hB : Below w.heap.size w ((w.alloc (.cells #[.string s] 9 (0, 0))).alloc (.cells #[.int .i64 0, .string ⟨#[]⟩] 24 (0, 0))) := ((Below.refl _ w).alloc (Nat.le_refl _) _).alloc (by simp) _
    obtain ⟨c0, c1, f0, f1⟩ := two_cells9 hN
    have HN := Lib.hid hN
    have HB := Lib.hid hB
    clear q1 hE hz hN hB
    go_enter Tryd.func13, Tryd.ntmps13
    go_wp2
    refine bodyPost_ret (results_row_slot rfl _ _ (w.heap.size + 1) _ rfl (psnap_load HN.out)) rfl ?_
    refine ⟨⟨#[]⟩, ?_, Lib.hid HR.out.2.symm, HB.out⟩
    rw [HR.out.1, HE.out]; rfl
  have e1 : decide ((s.size : Int) < 16) = false := decide_eq_false (by omega)
  obtain ⟨k1, k2, k3, k4⟩ := head9 s.data.toList (by omega)
  have kt : getT s.data.toList 8 4 = 12 := by unfold getT; rw [k3]; rfl
  have n1 := fun (W : World) (g : GetAt w s 0 W) => g.num (by omega) (by omega) (by omega) 8
  have n2 := fun (W : World) (g : GetAt w s 8 W) => g.num (by omega) (by omega) (by omega) 4
  rw [k3, k4, kt] at n2
  obtain ⟨W, hW⟩ : ∃ W, W = (((w.alloc (.cells #[.string s] 9 (0, 0))).alloc (.cells #[.int .i64 0, .string ⟨#[]⟩] 24 (0, 0))).alloc (.cells #[.int .i64 0] 3 (0, 0))) := ⟨_, rfl⟩
  have hG0 : GetAt w s 0 W := by
    obtain ⟨p1, p2, p3, p4⟩ := below_three (Below.refl _ (((w.alloc (.cells #[.string s] 9 (0, 0))).alloc (.cells #[.int .i64 0, .string ⟨#[]⟩] 24 (0, 0))).alloc (.cells #[.int .i64 0] 3 (0, 0))))
    rw [hW]
    exact ⟨p1, p2, p3, p4⟩
  have N1 := Lib.hid (n1 W hG0)
  have N2 := Lib.hid n2
  clear n1 n2
  go_enter Tryd.func13, Tryd.ntmps13
  go_upto_region 5 with fail
  rw [← hW]
  clear hW hG0
  by_cases q2 : 127 < (s.data.toList.getD 0 0).toNat
  · have hE : getE9 s.data.toList = 8 := by unfold getE9; rw [if_neg (by omega), if_pos q2]
    have HR := Lib.hid (bad9 (l := s.data.toList) (by omega))
    have HE := Lib.hid hE
    rw [k1, if_pos q2] at N1
    clear q1 q2 hE hz k1 k2 k3 k4 kt N2
    go_upto_region 6 with (go_at_call 20; refine N1.out.mono ?_; rintro e w1 ⟨rfl, g1⟩)
    have HG1 := Lib.hid g1
    clear g1
    obtain ⟨f0, f1⟩ := HG1.out.resF
    obtain ⟨c0, c1⟩ := HG1.out.resC
    go_wp2
    refine bodyPost_ret (results_row_slot rfl _ _ (w.heap.size + 1) _ rfl (psnap_load (two_stored9 HG1.out.res _ _))) rfl ?_
    refine ⟨⟨#[]⟩, ?_, Lib.hid HR.out.2.symm, two_below9 HG1.out.old (by omega) _ _⟩
    rw [HR.out.1, HE.out]; rfl
  have kt1 : getT s.data.toList 0 8 = 8 := by unfold getT; rw [k1, if_neg q2]; rfl
  rw [k1, if_neg q2, k2 q2, kt1] at N1
  clear k1 k2 k3 k4 kt kt1
  have hEa : getE9 s.data.toList = if 1 ≤ gen9 s.data.toList ∧ gen9 s.data.toList ≤ 1000000000 then
    (if 100000 < len9 s.data.toList then 3
     else if s.data.toList.length < 64 * sect9 (len9 s.data.toList) then 4
     else if unE (s.data.toList.take (len9 s.data.toList + 16)) = 0 then (if ∀ c ∈ pad9 s.data.toList, c = 0 then 0 else 5)
     else unE (s.data.toList.take (len9 s.data.toList + 16)))
    else 2 := by
    unfold getE9; rw [if_neg (by omega), if_neg q2]
  obtain ⟨G, hG⟩ : ∃ G, gen9 s.data.toList = G := ⟨_, rfl⟩
  obtain ⟨n, hn⟩ : ∃ n, len9 s.data.toList = n := ⟨_, rfl⟩
  rw [hG] at N1
  rw [hn] at N2
  rw [hG, hn] at hEa
  go_upto_region 6 with (go_at_call 20; refine N1.out.mono ?_; rintro e w1 ⟨rfl, g1⟩)
  have HM := Lib.hid (N2.out _ g1)
  clear N1 N2 g1
  go_upto_region 9 with (go_at_call 20; refine HM.out.mono ?_; rintro e w2 ⟨rfl, g2⟩)
  have HG2 := Lib.hid g2
  have HG := Lib.hid hG
  clear HM g2 hG
  have HO := Lib.hid (outside_any (G : Int) n)
  by_cases q3 : outE9 (G : Int) n ≠ 0
  · have hE : getE9 s.data.toList = outE9 (G : Int) n := by
      rw [hEa]
      unfold outE9 at q3 ⊢
      by_cases a1 : 1 ≤ G ∧ G ≤ 1000000000
      · rw [if_pos a1]
        rw [if_pos (show 1 ≤ (G : Int) ∧ (G : Int) ≤ 1000000000 by omega)] at q3
        by_cases a2 : 100000 < n
        · rw [if_pos a2, if_pos (show 1 ≤ (G : Int) ∧ (G : Int) ≤ 1000000000 by omega), if_neg (by omega)]
        · rw [if_pos (show n ≤ 100000 by omega)] at q3
          exact absurd rfl q3
      · rw [if_neg a1, if_neg (by omega)]
    have HR := Lib.hid (bad9 (l := s.data.toList) (by omega))
    have HE := Lib.hid hE
    have e3 : (outE9 (G : Int) n != 0) = true := by simpa using q3
    obtain ⟨f0, f1⟩ := HG2.out.resF
    obtain ⟨c0, c1⟩ := HG2.out.resC
    clear hE hEa hz q1 q2 q3
    go_wp2_with (go_at_call 16; refine (HO.out _).mono ?_; rintro e w3 ⟨rfl, rfl⟩)
    refine bodyPost_ret (results_row_slot rfl _ _ (w.heap.size + 1) _ rfl (psnap_load (two_stored9 HG2.out.res _ _))) rfl ?_
    refine ⟨⟨#[]⟩, ?_, Lib.hid HR.out.2.symm, two_below9 HG2.out.old (by omega) _ _⟩
    rw [HR.out.1, HE.out]; rfl
  have q3 := Decidable.not_not.1 q3
  rw [q3] at HO
  have hgn : (1 ≤ G ∧ G ≤ 1000000000) ∧ n ≤ 100000 := by
    unfold outE9 at q3
    split at q3
    · split at q3
      · omega
      · omega
    · omega
  rw [if_pos hgn.1, if_neg (show ¬ 100000 < n by omega)] at hEa
  have hse := fun W => secof_any n (by omega) W
  have hsu := sect_up n
  obtain ⟨m, hm⟩ : ∃ m, 64 * sect9 n = m := ⟨_, rfl⟩
  rw [hm] at hEa hsu
  have i1 : IntKind.i64.wrap (((sect9 n : Nat) : Int) * 64) = (m : Int) := by rw [show ((sect9 n : Nat) : Int) * 64 = m by omega]; exact IntWalk.i64_in _ (by omega)
  have cb := HG2.out.boxC
  by_cases q5 : s.size < m
  · have e7 : decide ((s.size : Int) < (m : Int)) = true := decide_eq_true (by omega)
    have e8 : decide (s.size < m) = true := decide_eq_true (by omega)
    have hE : getE9 s.data.toList = 4 := by rw [hEa, if_pos (by omega)]
    have HR := Lib.hid (bad9 (l := s.data.toList) (by omega))
    have HE := Lib.hid hE
    obtain ⟨f0, f1⟩ := HG2.out.resF
    obtain ⟨c0, c1⟩ := HG2.out.resC
    clear hE hEa hz q1 q2 q3 q5 hsu hm hgn
    go_wp2_with (first
      | (go_at_call 16; refine (HO.out _).mono ?_; rintro e w3 ⟨rfl, rfl⟩)
      | (go_at_call 22; refine (hse _).mono ?_; rintro e w3 ⟨rfl, rfl⟩))
    refine bodyPost_ret (results_row_slot rfl _ _ (w.heap.size + 1) _ rfl (psnap_load (two_stored9 HG2.out.res _ _))) rfl ?_
    refine ⟨⟨#[]⟩, ?_, Lib.hid HR.out.2.symm, two_below9 HG2.out.old (by omega) _ _⟩
    rw [HR.out.1, HE.out]; rfl
  have e7 : decide ((s.size : Int) < (m : Int)) = false := decide_eq_false (by omega)
  have e8 : decide (s.size < m) = false := decide_eq_false (by omega)
  rw [if_neg (by omega)] at hEa
  obtain ⟨p, hp⟩ : ∃ p, n + 16 = p := ⟨_, rfl⟩
  have i2 : IntKind.i64.wrap (16 + (n : Int)) = (p : Int) := by rw [show 16 + (n : Int) = p by omega]; exact IntWalk.i64_in _ (by omega)
  have hcl : (s.extract 0 p).data.toList = s.data.toList.take p := by rw [cut_list]; simp
  have hcd : (s.extract p m).data.toList = pad9 s.data.toList := by rw [cut_list]; unfold pad9; rw [hn, hp, hm]
  have hun := fun W => cunseal_any (s.extract 0 p) (by rw [ByteArray.size_extract]; omega) W
  have htr := fun W => Tryd.strings_Trim_one (s.extract p m) 0 (by decide) W (by rw [ByteArray.size_extract]; omega)
  rw [hcl] at hun
  rw [hcd] at htr
  have hs1 := cut_to s (p : Int) (by omega) (by omega)
  have hs2 := cut_mid s (p : Int) (m : Int) (by omega) (by omega) (by omega)
  simp only [Int.toNat_natCast] at hs1 hs2
  rw [hp] at hEa
  obtain ⟨U, hU⟩ : ∃ U, s.extract 0 p = U := ⟨_, rfl⟩
  obtain ⟨D, hD⟩ : ∃ D, s.extract p m = D := ⟨_, rfl⟩
  obtain ⟨R, hR⟩ : ∃ R, (⟨(Lib.trimB (pad9 s.data.toList) 0).toArray⟩ : ByteArray) = R := ⟨_, rfl⟩
  rw [hU] at hun hs1
  rw [hD] at htr hs2
  rw [hR] at htr
  clear hcl hcd hU hD
  go_upto_region 17 with (first
    | (go_at_call 16; refine (HO.out _).mono ?_; rintro e w3 ⟨rfl, rfl⟩)
    | (go_at_call 22; refine (hse _).mono ?_; rintro e w3 ⟨rfl, rfl⟩))
  have HUn := Lib.hid hun
  have HTr := Lib.hid htr
  have HRr := Lib.hid hR
  clear hun htr hse HO hR
  go_quiet (fail)
  have G3 := Lib.hid (HG2.out.on (below_drewN w2 nq))
  have HNP := Lib.hid (show n + 16 = p ∧ p ≤ s.size ∧ 1 ≤ G ∧ s.size ≤ 281474976710656 by omega)
  have HN := Lib.hid hn
  have HEa := Lib.hid hEa
  clear q5 q2 q1 hsu hp hgn hm hz hEa hn q3 cb HG2 e1 e7 e8 i1 i2 hs1 hs2
  by_cases q6 : unE (s.data.toList.take p) ≠ 0
  · have hE : getE9 s.data.toList = unE (s.data.toList.take p) := by rw [HEa.out, if_neg q6]
    have HR := Lib.hid (bad9 (l := s.data.toList) (by rw [hE]; exact q6))
    have HE := Lib.hid hE
    have e6 : (unE (s.data.toList.take p) != 0) = true := by simpa using q6
    go_upto_region 19 with (go_at_call 23; refine (HUn.out _ (hT.below G3.out.old)).mono ?_; rintro e w4 ⟨t, rfl, ht, hb⟩)
    have HG4 := Lib.hid (G3.out.on hb)
    clear hE q6 ht hb
    obtain ⟨f0, f1⟩ := HG4.out.resF
    obtain ⟨c0, c1⟩ := HG4.out.resC
    go_wp2
    refine bodyPost_ret (results_row_slot rfl _ _ (w.heap.size + 1) _ rfl (psnap_load (two_stored9 HG4.out.res _ _))) rfl ?_
    refine ⟨⟨#[]⟩, ?_, Lib.hid HR.out.2.symm, two_below9 HG4.out.old (by omega) _ _⟩
    rw [HR.out.1, HE.out]; rfl
  have q6 := Decidable.not_not.1 q6
  rw [q6] at HUn
  rw [if_pos q6] at HEa
  go_upto_region 19 with (go_at_call 23; refine (HUn.out _ (hT.below G3.out.old)).mono ?_; rintro e w4 ⟨t, rfl, ht, hb⟩)
  have HG4 := Lib.hid (G3.out.on hb)
  have HT := Lib.hid ht.out
  clear ht hb
  have HQ := Lib.hid q6
  clear q6
  by_cases q7 : ∀ c ∈ pad9 s.data.toList, c = 0
  · have hE : getE9 s.data.toList = 0 := by rw [HEa.out, if_pos q7]
    obtain rfl : R = ⟨#[]⟩ := by
      rw [← HRr.out, (trim_none _ _).2 q7]
    have htl : t.data.toList = s.data.toList.take (n + 12) := by
      rw [HT.out]
      unfold unL
      rw [if_pos HQ.out, List.length_take, text_size, Nat.min_eq_left HNP.out.2.1, List.take_take]
      congr 1
      have := HNP.out
      omega
    have hts : t.size = n + 12 := by
      rw [← text_size, htl, List.length_take, text_size]
      have := HNP.out
      omega
    have hs3 := cut_from t (12 : Int) (by omega) (by omega)
    have hfin : (t.extract 12 t.size).data.toList = getT9 s.data.toList := by
      unfold getT9
      rw [if_pos hE, cut_list, htl, hts, HN.out, List.drop_take, List.take_take]
      congr 1
      omega
    have hgv : getG9 s.data.toList = (G : Int) := by unfold getG9; rw [if_pos hE, HG.out]
    simp only [show (12 : Int).toNat = 12 from rfl] at hs3
    obtain ⟨X, hX⟩ : ∃ X, t.extract 12 t.size = X := ⟨_, rfl⟩
    rw [hX] at hs3 hfin
    have HF := Lib.hid hfin
    have HGV := Lib.hid hgv
    have HE := Lib.hid hE
    clear q7 hX hfin hgv hE htl hts
    go_upto_region 23 with (go_at_call 24; refine (HTr.out _).mono ?_; rintro e w5 ⟨rfl, hb⟩)
    have HG5 : Hid (GetAt w s 12 w5) := by
      rcases hb with rfl | rfl
      · exact HG4
      · exact Lib.hid (HG4.out.on ((Below.refl _ _).drew))
    clear hb
    obtain ⟨f0, f1⟩ := HG5.out.resF
    obtain ⟨c0, c1⟩ := HG5.out.resC
    have cp : w5.cell? ⟨w.heap.size + 1 + 1, 0, none⟩ = some (.int .i64 12) := HG5.out.posC
    go_wp2
    refine bodyPost_ret (results_row_slot rfl _ _ (w.heap.size + 1) _ rfl (psnap_load (two_stored9 HG5.out.res _ _))) rfl ?_
    refine ⟨X, ?_, HF, two_below9 HG5.out.old (by omega) _ _⟩
    rw [HGV.out, HE.out]; rfl
  · have hE : getE9 s.data.toList = 5 := by rw [HEa.out, if_neg q7]
    have hRn : R ≠ ⟨#[]⟩ := fun h => q7 ((trim_none _ _).1 (by
      have h1 := congrArg (fun x : ByteArray => x.data.toList) HRr.out
      rw [h] at h1
      simpa using h1))
    have HR := Lib.hid (bad9 (l := s.data.toList) (by rw [hE]; omega))
    have HE := Lib.hid hE
    have e7 : (R.toList == []) = false := by
      rw [beq_eq_false_iff_ne]
      intro h
      apply hRn
      apply text_eq
      rw [← ByteArray.toList_eq, h]
    clear hE q7 hRn
    go_upto_region 22 with (go_at_call 24; refine (HTr.out _).mono ?_; rintro e w5 ⟨rfl, hb⟩)
    have HG5 : Hid (GetAt w s 12 w5) := by
      rcases hb with rfl | rfl
      · exact HG4
      · exact Lib.hid (HG4.out.on ((Below.refl _ _).drew))
    clear hb
    obtain ⟨f0, f1⟩ := HG5.out.resF
    obtain ⟨c0, c1⟩ := HG5.out.resC
    go_wp2
    refine bodyPost_ret (results_row_slot rfl _ _ (w.heap.size + 1) _ rfl (psnap_load (two_stored9 HG5.out.res _ _))) rfl ?_
    refine ⟨⟨#[]⟩, ?_, Lib.hid HR.out.2.symm, two_below9 HG5.out.old (by omega) _ _⟩
    rw [HR.out.1, HE.out]; rfl
end Go.Proofs.YtkmkohpdldamhaaDoor
