/- The program's number of sectors, its limits, the closure that decodes one number, and Put, in every world in which the table lies. -/
import Derived.Test.YtcbmecpeockdeaaGreatDoorCrc
import Derived.Test.YtcbmecpeockdeaaGreatDoorMOcount
import Derived.Test.YtcbmecpeockdeaaGreatDoorMRef9
import Derived.Test.YtcbmecpeockdeaaGreatDoorMRow5
import Derived.Lib.TrimByte
import Derived.Lib.Repeat
import Derived.BigRegion
import Derived.BigQuiet
namespace Go.Proofs.YtcbmecpeockdeaaGreatDoor
open Go.RowKit

theorem secof_any (n : Nat) (hn : n ≤ 281474976710656) (w : World) :
    Calls Tryz.prog 45 #[.int .i64 n] w fun e w' => e = .returned (.int .i64 (sect9 n : Nat)) ∧ w = w' := by
  have HS : Hid ((16 + (n : Int) + 64 - 1) / 64 = (sect9 n : Nat)) := Lib.hid (by unfold sect9; omega)
  have i1 : IntKind.i64.wrap (16 + (n : Int)) = 16 + (n : Int) := IntWalk.i64_in _ (by omega)
  have i2 : IntKind.i64.wrap (16 + (n : Int) + 64) = 16 + (n : Int) + 64 := IntWalk.i64_in _ (by omega)
  have i3 : IntKind.i64.wrap (16 + (n : Int) + 64 - 1) = 16 + (n : Int) + 64 - 1 := IntWalk.i64_in _ (by omega)
  go_enter Tryz.func45, Tryz.ntmps45
  go_wp2
  go_ret
  refine ⟨?_, rfl⟩
  rw [← HS.out]; rfl
theorem sects_any (t : ByteArray) (hn : t.size ≤ 281474976710656) (w : World) :
    Calls Tryz.prog 24 #[.string t] w fun e w' => e = .returned (.int .i64 (sect9 t.size : Nat)) ∧ w = w' := by
  have HS := Lib.hid (secof_any t.size hn w)
  go_enter Tryz.func24, Tryz.ntmps24
  go_wp2_with (go_at_call 45; refine HS.out.mono ?_; rintro e w1 ⟨rfl, rfl⟩)
  go_ret
  exact ⟨rfl, rfl⟩
def outE9 (g : Int) (n : Nat) : Int := if 1 ≤ g ∧ g ≤ 1000000000 then (if n ≤ 100000 then 0 else 3) else 2
theorem outside_any (g : Int) (n : Nat) (w : World) :
    Calls Tryz.prog 55 #[.int .i64 g, .int .i64 n] w fun e w' => e = .returned (.int .i64 (outE9 g n)) ∧ w = w' := by
  by_cases h1 : g < 1
  · have d1 : decide (g < 1) = true := decide_eq_true h1
    have he : outE9 g n = 2 := by unfold outE9; rw [if_neg (by omega)]
    rw [he]
    clear he h1
    go_enter Tryz.func55, Tryz.ntmps55
    go_wp2
    go_ret
    exact ⟨rfl, rfl⟩
  · have d1 : decide (g < 1) = false := decide_eq_false h1
    by_cases h2 : 1000000000 < g
    · have d2 : decide (1000000000 < g) = true := decide_eq_true h2
      have he : outE9 g n = 2 := by unfold outE9; rw [if_neg (by omega)]
      rw [he]
      clear he h1 h2
      go_enter Tryz.func55, Tryz.ntmps55
      go_wp2
      go_ret
      exact ⟨rfl, rfl⟩
    · have d2 : decide (1000000000 < g) = false := decide_eq_false h2
      by_cases h3 : 100000 < n
      · have d3 : decide ((100000 : Int) < (n : Int)) = true := decide_eq_true (by omega)
        have he : outE9 g n = 3 := by unfold outE9; rw [if_pos (by omega), if_neg (by omega)]
        rw [he]
        clear he h1 h2
        go_enter Tryz.func55, Tryz.ntmps55
        go_wp2
        go_ret
        exact ⟨rfl, rfl⟩
      · have d3 : decide ((100000 : Int) < (n : Int)) = false := decide_eq_false (by omega)
        have he : outE9 g n = 0 := by unfold outE9; rw [if_pos (by omega), if_pos (by omega)]
        rw [he]
        clear he h1 h2
        go_enter Tryz.func55, Tryz.ntmps55
        go_wp2
        go_ret
        exact ⟨rfl, rfl⟩

/-- The closure that decodes the next number: the variable of the place is moved on. -/
theorem number_any (s : ByteArray) (hs : s.size ≤ 4611686018427387904) (p x : Int) (hp0 : -9223372036854775808 ≤ p) (hp1 : p ≤ 9223372036854775807) (b1 b2 : Nat) (w : World) (h1 : w.cell? ⟨b1, 0, none⟩ = some (.string s)) (h2 : w.cell? ⟨b2, 0, none⟩ = some (.int .i64 p)) (hf : w.frozen? ⟨b2, 0, none⟩ = false) (hb : b2 < w.heap.size) :
    Calls Tryz.prog 64 #[.int .i64 x, .pointer (some ⟨b1, 0, none⟩), .pointer (some ⟨b2, 0, none⟩)] w fun e w' => e = .returned (.tuple #[.int .i64 (getV s.data.toList p x), .int .i64 (getE s.data.toList p x)]) ∧ ∃ W, Below w.heap.size w W ∧ w' = W.setCell ⟨b2, 0, none⟩ (.int .i64 (getT s.data.toList p x)) := by
  have HG := Lib.hid (oget_any s hs p x hp0 hp1)
  generalize getV s.data.toList p x = V at *
  generalize getE s.data.toList p x = E at *
  generalize getT s.data.toList p x = T at *
  clear hp0 hp1
  go_enter Tryz.func64, Tryz.ntmps64
  go_upto_region 2 with (go_at_call 65; refine (HG.out _).mono ?_; rintro e w1 ⟨rfl, hb1⟩)
  obtain ⟨W, hW, hbW, c0, c1, k2, f2⟩ : ∃ W, W = w1.alloc (.cells #[.int .i64 V, .int .i64 T] 109) ∧ Below w.heap.size w W ∧ W.cell? ⟨w1.heap.size, 0, none⟩ = some (.int .i64 V) ∧ W.cell? ⟨w1.heap.size, 1, none⟩ = some (.int .i64 T) ∧ W.cell? ⟨b2, 0, none⟩ = some (.int .i64 p) ∧ W.frozen? ⟨b2, 0, none⟩ = false := by
    have hbW : Below w.heap.size w (w1.alloc (.cells #[.int .i64 V, .int .i64 T] 109)) := hb1.alloc hb1.size _
    obtain ⟨q0, q1, _, _⟩ := two_cells (heap_alloc_new w1 (.cells #[.int .i64 V, .int .i64 T] 109))
    exact ⟨_, rfl, hbW, q0, q1, (hbW.cell (p := ⟨b2, 0, none⟩) hb).trans h2, by rw [hbW.frozen (p := ⟨b2, 0, none⟩) hb]; exact hf⟩
  have hne : w1.heap.size ≠ b2 := by have := hb1.size; omega
  have hne2 : b2 ≠ w1.heap.size := fun h => hne h.symm
  rw [← hW]
  clear hW h1 h2 hf hb1
  have HBW := Lib.hid hbW
  clear hbW
  go_wp2
  go_ret2
  exact ⟨rfl, W, HBW.out, rfl⟩

theorem rep_nul (c : Nat) : Lib.repeatL [0] c = List.replicate c (0 : UInt8) := by
  have := Lib.repeatL_replicate 0 1 c
  rw [Nat.mul_one] at this
  exact this
theorem be_putL (n : Int) (x : Nat) (hx : wideW x) (h0 : 0 ≤ n) (h1 : n < (256 : Int) ^ x) : putE n x = 0 ∧ putL n x = be x n.toNat := by
  have he : putE n x = 0 := by unfold putE; rw [if_pos hx, if_pos ⟨h0, by simpa using h1⟩]
  exact ⟨he, by unfold putL; rw [if_pos he, Int.toNat_natCast]⟩
end Go.Proofs.YtcbmecpeockdeaaGreatDoor
namespace Go.Proofs.YtcbmecpeockdeaaGreatDoor
open Go.RowKit

theorem psnap_load {w : World} {g : Nat} {t : TypeId} {x y : Value} {fr : Nat × Nat} (h : w.heap[g]? = some (.cells #[x, y] t fr)) : (loadVar 62 ⟨g, 0, none⟩).run Tryz.prog w = .ok (.agg #[x, y]) w :=
  run_loadVar_row (P := Tryz.prog) w g t 62 #[x, y] fr _ h Tryz.underlying62 rfl (by kernel_rfl)
/-- Behind the beginning: the text's box, the result, the place up to which was read. -/
structure GetAt (w : World) (s : ByteArray) (x : Int) (W : World) : Prop where
  old : Below w.heap.size w W
  box : W.heap[w.heap.size]? = some (.cells #[.string s] 9 (0, 0))
  res : W.heap[w.heap.size + 1]? = some (.cells #[.int .i64 0, .string ⟨#[]⟩] 62 (0, 0))
  pos : W.heap[w.heap.size + 2]? = some (.cells #[.int .i64 x] 3 (0, 0))
theorem GetAt.boxC {w W : World} {s : ByteArray} {x : Int} (h : GetAt w s x W) : W.cell? ⟨w.heap.size, 0, none⟩ = some (.string s) := cell_of (j := 0) h.box rfl
theorem GetAt.posC {w W : World} {s : ByteArray} {x : Int} (h : GetAt w s x W) : W.cell? ⟨w.heap.size + 2, 0, none⟩ = some (.int .i64 x) := cell_of (j := 0) h.pos rfl
theorem GetAt.posF {w W : World} {s : ByteArray} {x : Int} (h : GetAt w s x W) : W.frozen? ⟨w.heap.size + 2, 0, none⟩ = false := frozen_of_row W _ 0 _ _ h.pos
theorem GetAt.resF {w W : World} {s : ByteArray} {x : Int} (h : GetAt w s x W) : W.frozen? ⟨w.heap.size + 1, 0, none⟩ = false ∧ W.frozen? ⟨w.heap.size + 1, 1, none⟩ = false := ⟨frozen_of_row W _ 0 _ _ h.res, frozen_of_row W _ 1 _ _ h.res⟩
theorem GetAt.resC {w W : World} {s : ByteArray} {x : Int} (h : GetAt w s x W) : W.cell? ⟨w.heap.size + 1, 0, none⟩ = some (.int .i64 0) ∧ W.cell? ⟨w.heap.size + 1, 1, none⟩ = some (.string ⟨#[]⟩) := ⟨cell_of (j := 0) h.res rfl, cell_of (j := 1) h.res rfl⟩
theorem GetAt.on {w W W1 : World} {s : ByteArray} {x : Int} (h : GetAt w s x W) (b : Below W.heap.size W W1) : GetAt w s x W1 :=
  ⟨h.old.trans (b.mono h.old.size), old_obj b h.box, old_obj b h.res, old_obj b h.pos⟩
theorem heap_set_other (w : World) (g k : Nat) (v : Value) (h : k ≠ g) : (w.setCell ⟨g, 0, none⟩ v).heap[k]? = w.heap[k]? := by
  simp [World.setCell, Array.getElem?_modify, Ne.symm h]
theorem GetAt.put {w W : World} {s : ByteArray} {x : Int} (h : GetAt w s x W) (y : Int) : GetAt w s y (W.setCell ⟨w.heap.size + 2, 0, none⟩ (.int .i64 y)) :=
  ⟨h.old.setCell (p := ⟨w.heap.size + 2, 0, none⟩) (by simp) _, by rw [heap_set_other _ _ _ _ (by omega)]; exact h.box, by rw [heap_set_other _ _ _ _ (by omega)]; exact h.res, heap_setCell_same _ _ 0 _ _ _ h.pos⟩
theorem GetAt.num {w W : World} {s : ByteArray} {x : Int} (h : GetAt w s x W) (hs : s.size ≤ 4611686018427387904) (h0 : -9223372036854775808 ≤ x) (h1 : x ≤ 9223372036854775807) (k : Int) :
    Calls Tryz.prog 64 #[.int .i64 k, .pointer (some ⟨w.heap.size, 0, none⟩), .pointer (some ⟨w.heap.size + 2, 0, none⟩)] W fun e w' => e = .returned (.tuple #[.int .i64 (getV s.data.toList x k), .int .i64 (getE s.data.toList x k)]) ∧ GetAt w s (getT s.data.toList x k) w' := by
  refine (number_any s hs x k h0 h1 w.heap.size (w.heap.size + 2) W h.boxC h.posC h.posF (obj_lt h.pos)).mono ?_
  rintro e w' ⟨rfl, W1, hb, rfl⟩
  exact ⟨rfl, (h.on hb).put _⟩

theorem drop_all {l : List UInt8} {c : UInt8} (h : ∀ x ∈ l.dropWhile (· == c), x = c) : ∀ x ∈ l, x = c := by
  induction l with
  | nil => intro x hx; simp at hx
  | cons a l ih =>
    by_cases q : a = c
    · subst q
      have e1 : (a :: l).dropWhile (· == a) = l.dropWhile (· == a) := by simp
      rw [e1] at h
      intro x hx
      rcases List.mem_cons.1 hx with r | r
      · exact r
      · exact ih h x r
    · have e1 : (a :: l).dropWhile (· == c) = a :: l := by simp [q]
      rw [e1] at h
      exact h
/-- What is left of a row of bytes, trimmed of one of them at both ends, is nothing just if all are that one. -/
theorem trim_none (l : List UInt8) (c : UInt8) : Lib.trimB l c = [] ↔ ∀ x ∈ l, x = c := by
  unfold Lib.trimB Lib.trimLeftB Lib.trimRightB
  constructor
  · intro h
    have h1 : ∀ x ∈ (l.reverse.dropWhile (· == c)).reverse, x = c := by
      refine drop_all (c := c) ?_
      rw [h]
      intro x hx
      simp at hx
    have h2 : ∀ x ∈ l.reverse, x = c := drop_all (c := c) (fun x hx => h1 x (by simpa using hx))
    intro x hx
    exact h2 x (by simpa using hx)
  · intro h
    have h2 : ∀ m : List UInt8, (∀ x ∈ m, x = c) → m.dropWhile (· == c) = [] := by
      intro m
      induction m with
      | nil => intro _; rfl
      | cons a m ih =>
        intro hm
        obtain rfl := hm a (by simp)
        rw [List.dropWhile_cons_of_pos (by simp)]
        exact ih fun x hx => hm x (by simp [hx])
    have h1 := h2 l.reverse fun x hx => h x (by simpa using hx)
    rw [h1]
    rfl

set_option maxHeartbeats 2000000 in
theorem pget9_any (s : ByteArray) (hs : s.size ≤ 281474976710656) (w : World) (hT : Tab w) :
    Calls Tryz.prog 47 #[.string s] w fun e w' => ∃ t : ByteArray, e = .returned (.tuple #[.agg #[.int .i64 (getG9 s.data.toList), .string t], .int .i64 (getE9 s.data.toList)]) ∧ Hid (t.data.toList = getT9 s.data.toList) ∧ Below w.heap.size w w' := by
  have hz := text_size s
  by_cases q1 : s.size < 16
  · have e1 : decide ((s.size : Int) < 16) = true := decide_eq_true (by omega)
    have hE : getE9 s.data.toList = 4 := by unfold getE9; rw [if_pos (by omega)]
    have HR := Lib.hid (bad9 (l := s.data.toList) (by omega))
    have HE := Lib.hid hE
    have hN := heap_alloc2_new w (.cells #[.string s] 9 (0, 0)) (.cells #[.int .i64 0, .string ⟨#[]⟩] 62 (0, 0))
    have hB : Below w.heap.size w ((w.alloc (.cells #[.string s] 9 (0, 0))).alloc (.cells #[.int .i64 0, .string ⟨#[]⟩] 62 (0, 0))) := ((Below.refl _ w).alloc (Nat.le_refl _) _).alloc (by simp) _
    obtain ⟨c0, c1, f0, f1⟩ := two_cells9 hN
    have HN := Lib.hid hN
    have HB := Lib.hid hB
    clear q1 hE hz hN hB
    go_enter Tryz.func47, Tryz.ntmps47
    go_wp2
    refine bodyPost_ret (results_row_slot rfl _ _ (w.heap.size + 1) _ rfl (psnap_load HN.out)) rfl ?_
    refine ⟨⟨#[]⟩, ?_, Lib.hid HR.out.2.symm, HB.out⟩
    rw [HR.out.1, HE.out]; rfl
  have e1 : decide ((s.size : Int) < 16) = false := decide_eq_false (by omega)
  obtain ⟨k1, k2, k3, k4⟩ := head9 s.data.toList (by omega)
  have kt : getT s.data.toList 8 4 = 12 := by unfold getT; rw [k3]; rfl
  have n1 := fun (W : World) (g : GetAt w s 0 W) => g.num (by omega) (by omega) (by omega) 8
  have n2 := fun (W : World) (g : GetAt w s 8 W) => g.num (by omega) (by omega) (by omega) 4
  rw [k3, k4, kt] at n2
  obtain ⟨W, hW⟩ : ∃ W, W = (((w.alloc (.cells #[.string s] 9 (0, 0))).alloc (.cells #[.int .i64 0, .string ⟨#[]⟩] 62 (0, 0))).alloc (.cells #[.int .i64 0] 3 (0, 0))) := ⟨_, rfl⟩
  have hG0 : GetAt w s 0 W := by
    obtain ⟨p1, p2, p3, p4⟩ := below_three (Below.refl _ (((w.alloc (.cells #[.string s] 9 (0, 0))).alloc (.cells #[.int .i64 0, .string ⟨#[]⟩] 62 (0, 0))).alloc (.cells #[.int .i64 0] 3 (0, 0))))
    rw [hW]
    exact ⟨p1, p2, p3, p4⟩
  have N1 := Lib.hid (n1 W hG0)
  have N2 := Lib.hid n2
  clear n1 n2
  go_enter Tryz.func47, Tryz.ntmps47
  go_upto_region 5 with fail
  rw [← hW]
  clear hW hG0
  by_cases q2 : 127 < (s.data.toList.getD 0 0).toNat
  · have hE : getE9 s.data.toList = 8 := by unfold getE9; rw [if_neg (by omega), if_pos q2]
    have HR := Lib.hid (bad9 (l := s.data.toList) (by omega))
    have HE := Lib.hid hE
    rw [k1, if_pos q2] at N1
    clear q1 q2 hE hz k1 k2 k3 k4 kt N2
    go_upto_region 6 with (go_at_call 64; refine N1.out.mono ?_; rintro e w1 ⟨rfl, g1⟩)
    have HG1 := Lib.hid g1
    clear g1
    obtain ⟨f0, f1⟩ := HG1.out.resF
    obtain ⟨c0, c1⟩ := HG1.out.resC
    go_wp2
    refine bodyPost_ret (results_row_slot rfl _ _ (w.heap.size + 1) _ rfl (psnap_load (two_stored9 HG1.out.res _ _))) rfl ?_
    refine ⟨⟨#[]⟩, ?_, Lib.hid HR.out.2.symm, two_below9 HG1.out.old (by omega) _ _⟩
    rw [HR.out.1, HE.out]; rfl
  have kt1 : getT s.data.toList 0 8 = 8 := by unfold getT; rw [k1, if_neg q2]; rfl
  rw [k1, if_neg q2, k2 q2, kt1] at N1
  clear k1 k2 k3 k4 kt kt1
  have hEa : getE9 s.data.toList = if 1 ≤ gen9 s.data.toList ∧ gen9 s.data.toList ≤ 1000000000 then
    (if 100000 < len9 s.data.toList then 3
     else if s.data.toList.length < 64 * sect9 (len9 s.data.toList) then 4
     else if unE (s.data.toList.take (len9 s.data.toList + 16)) = 0 then (if ∀ c ∈ pad9 s.data.toList, c = 0 then 0 else 5)
     else unE (s.data.toList.take (len9 s.data.toList + 16)))
    else 2 := by
    unfold getE9; rw [if_neg (by omega), if_neg q2]
  obtain ⟨G, hG⟩ : ∃ G, gen9 s.data.toList = G := ⟨_, rfl⟩
  obtain ⟨n, hn⟩ : ∃ n, len9 s.data.toList = n := ⟨_, rfl⟩
  rw [hG] at N1
  rw [hn] at N2
  rw [hG, hn] at hEa
  go_upto_region 6 with (go_at_call 64; refine N1.out.mono ?_; rintro e w1 ⟨rfl, g1⟩)
  have HM := Lib.hid (N2.out _ g1)
  clear N1 N2 g1
  go_upto_region 9 with (go_at_call 64; refine HM.out.mono ?_; rintro e w2 ⟨rfl, g2⟩)
  have HG2 := Lib.hid g2
  have HG := Lib.hid hG
  clear HM g2 hG
  have HO := Lib.hid (outside_any (G : Int) n)
  by_cases q3 : outE9 (G : Int) n ≠ 0
  · have hE : getE9 s.data.toList = outE9 (G : Int) n := by
      rw [hEa]
      unfold outE9 at q3 ⊢
      by_cases a1 : 1 ≤ G ∧ G ≤ 1000000000
      · rw [if_pos a1]
        rw [if_pos (show 1 ≤ (G : Int) ∧ (G : Int) ≤ 1000000000 by omega)] at q3
        by_cases a2 : 100000 < n
        · rw [if_pos a2, if_pos (show 1 ≤ (G : Int) ∧ (G : Int) ≤ 1000000000 by omega), if_neg (by omega)]
        · rw [if_pos (show n ≤ 100000 by omega)] at q3
          exact absurd rfl q3
      · rw [if_neg a1, if_neg (by omega)]
    have HR := Lib.hid (bad9 (l := s.data.toList) (by omega))
    have HE := Lib.hid hE
    have e3 : (outE9 (G : Int) n != 0) = true := by simpa using q3
    obtain ⟨f0, f1⟩ := HG2.out.resF
    obtain ⟨c0, c1⟩ := HG2.out.resC
    clear hE hEa hz q1 q2 q3
    go_wp2_with (go_at_call 55; refine (HO.out _).mono ?_; rintro e w3 ⟨rfl, rfl⟩)
    refine bodyPost_ret (results_row_slot rfl _ _ (w.heap.size + 1) _ rfl (psnap_load (two_stored9 HG2.out.res _ _))) rfl ?_
    refine ⟨⟨#[]⟩, ?_, Lib.hid HR.out.2.symm, two_below9 HG2.out.old (by omega) _ _⟩
    rw [HR.out.1, HE.out]; rfl
  have q3 := Decidable.not_not.1 q3
  rw [q3] at HO
  have hgn : (1 ≤ G ∧ G ≤ 1000000000) ∧ n ≤ 100000 := by
    unfold outE9 at q3
    split at q3
    · split at q3
      · omega
      · omega
    · omega
  rw [if_pos hgn.1, if_neg (show ¬ 100000 < n by omega)] at hEa
  have hse := fun W => secof_any n (by omega) W
  have hsu := sect_up n
  obtain ⟨m, hm⟩ : ∃ m, 64 * sect9 n = m := ⟨_, rfl⟩
  rw [hm] at hEa hsu
  have i1 : IntKind.i64.wrap (((sect9 n : Nat) : Int) * 64) = (m : Int) := by rw [show ((sect9 n : Nat) : Int) * 64 = m by omega]; exact IntWalk.i64_in _ (by omega)
  have cb := HG2.out.boxC
  by_cases q5 : s.size < m
  · have e7 : decide ((s.size : Int) < (m : Int)) = true := decide_eq_true (by omega)
    have e8 : decide (s.size < m) = true := decide_eq_true (by omega)
    have hE : getE9 s.data.toList = 4 := by rw [hEa, if_pos (by omega)]
    have HR := Lib.hid (bad9 (l := s.data.toList) (by omega))
    have HE := Lib.hid hE
    obtain ⟨f0, f1⟩ := HG2.out.resF
    obtain ⟨c0, c1⟩ := HG2.out.resC
    clear hE hEa hz q1 q2 q3 q5 hsu hm hgn
    go_wp2_with (first
      | (go_at_call 55; refine (HO.out _).mono ?_; rintro e w3 ⟨rfl, rfl⟩)
      | (go_at_call 45; refine (hse _).mono ?_; rintro e w3 ⟨rfl, rfl⟩))
    refine bodyPost_ret (results_row_slot rfl _ _ (w.heap.size + 1) _ rfl (psnap_load (two_stored9 HG2.out.res _ _))) rfl ?_
    refine ⟨⟨#[]⟩, ?_, Lib.hid HR.out.2.symm, two_below9 HG2.out.old (by omega) _ _⟩
    rw [HR.out.1, HE.out]; rfl
  have e7 : decide ((s.size : Int) < (m : Int)) = false := decide_eq_false (by omega)
  have e8 : decide (s.size < m) = false := decide_eq_false (by omega)
  rw [if_neg (by omega)] at hEa
  obtain ⟨p, hp⟩ : ∃ p, n + 16 = p := ⟨_, rfl⟩
  have i2 : IntKind.i64.wrap (16 + (n : Int)) = (p : Int) := by rw [show 16 + (n : Int) = p by omega]; exact IntWalk.i64_in _ (by omega)
  have hcl : (s.extract 0 p).data.toList = s.data.toList.take p := by rw [cut_list]; simp
  have hcd : (s.extract p m).data.toList = pad9 s.data.toList := by rw [cut_list]; unfold pad9; rw [hn, hp, hm]
  have hun := fun W => cunseal_any (s.extract 0 p) (by rw [ByteArray.size_extract]; omega) W
  have htr := fun W => Tryz.strings_Trim_one (s.extract p m) 0 (by decide) W (by rw [ByteArray.size_extract]; omega)
  rw [hcl] at hun
  rw [hcd] at htr
  have hs1 := cut_to s (p : Int) (by omega) (by omega)
  have hs2 := cut_mid s (p : Int) (m : Int) (by omega) (by omega) (by omega)
  simp only [Int.toNat_natCast] at hs1 hs2
  rw [hp] at hEa
  obtain ⟨U, hU⟩ : ∃ U, s.extract 0 p = U := ⟨_, rfl⟩
  obtain ⟨D, hD⟩ : ∃ D, s.extract p m = D := ⟨_, rfl⟩
  obtain ⟨R, hR⟩ : ∃ R, (⟨(Lib.trimB (pad9 s.data.toList) 0).toArray⟩ : ByteArray) = R := ⟨_, rfl⟩
  rw [hU] at hun hs1
  rw [hD] at htr hs2
  rw [hR] at htr
  clear hcl hcd hU hD
  go_upto_region 17 with (first
    | (go_at_call 55; refine (HO.out _).mono ?_; rintro e w3 ⟨rfl, rfl⟩)
    | (go_at_call 45; refine (hse _).mono ?_; rintro e w3 ⟨rfl, rfl⟩))
  have HUn := Lib.hid hun
  have HTr := Lib.hid htr
  have HRr := Lib.hid hR
  clear hun htr hse HO hR
  go_quiet (fail)
  have G3 := Lib.hid (HG2.out.on (below_drewN w2 nq))
  have HNP := Lib.hid (show n + 16 = p ∧ p ≤ s.size ∧ 1 ≤ G ∧ s.size ≤ 281474976710656 by omega)
  have HN := Lib.hid hn
  have HEa := Lib.hid hEa
  clear q5 q2 q1 hsu hp hgn hm hz hEa hn q3 cb HG2 e1 e7 e8 i1 i2 hs1 hs2
  by_cases q6 : unE (s.data.toList.take p) ≠ 0
  · have hE : getE9 s.data.toList = unE (s.data.toList.take p) := by rw [HEa.out, if_neg q6]
    have HR := Lib.hid (bad9 (l := s.data.toList) (by rw [hE]; exact q6))
    have HE := Lib.hid hE
    have e6 : (unE (s.data.toList.take p) != 0) = true := by simpa using q6
    go_upto_region 19 with (go_at_call 66; refine (HUn.out _ (hT.below G3.out.old)).mono ?_; rintro e w4 ⟨t, rfl, ht, hb⟩)
    have HG4 := Lib.hid (G3.out.on hb)
    clear hE q6 ht hb
    obtain ⟨f0, f1⟩ := HG4.out.resF
    obtain ⟨c0, c1⟩ := HG4.out.resC
    go_wp2
    refine bodyPost_ret (results_row_slot rfl _ _ (w.heap.size + 1) _ rfl (psnap_load (two_stored9 HG4.out.res _ _))) rfl ?_
    refine ⟨⟨#[]⟩, ?_, Lib.hid HR.out.2.symm, two_below9 HG4.out.old (by omega) _ _⟩
    rw [HR.out.1, HE.out]; rfl
  have q6 := Decidable.not_not.1 q6
  rw [q6] at HUn
  rw [if_pos q6] at HEa
  go_upto_region 19 with (go_at_call 66; refine (HUn.out _ (hT.below G3.out.old)).mono ?_; rintro e w4 ⟨t, rfl, ht, hb⟩)
  have HG4 := Lib.hid (G3.out.on hb)
  have HT := Lib.hid ht.out
  clear ht hb
  have HQ := Lib.hid q6
  clear q6
  by_cases q7 : ∀ c ∈ pad9 s.data.toList, c = 0
  · have hE : getE9 s.data.toList = 0 := by rw [HEa.out, if_pos q7]
    obtain rfl : R = ⟨#[]⟩ := by
      rw [← HRr.out, (trim_none _ _).2 q7]
    have htl : t.data.toList = s.data.toList.take (n + 12) := by
      rw [HT.out]
      unfold unL
      rw [if_pos HQ.out, List.length_take, text_size, Nat.min_eq_left HNP.out.2.1, List.take_take]
      congr 1
      have := HNP.out
      omega
    have hts : t.size = n + 12 := by
      rw [← text_size, htl, List.length_take, text_size]
      have := HNP.out
      omega
    have hs3 := cut_from t (12 : Int) (by omega) (by omega)
    have hfin : (t.extract 12 t.size).data.toList = getT9 s.data.toList := by
      unfold getT9
      rw [if_pos hE, cut_list, htl, hts, HN.out, List.drop_take, List.take_take]
      congr 1
      omega
    have hgv : getG9 s.data.toList = (G : Int) := by unfold getG9; rw [if_pos hE, HG.out]
    simp only [show (12 : Int).toNat = 12 from rfl] at hs3
    obtain ⟨X, hX⟩ : ∃ X, t.extract 12 t.size = X := ⟨_, rfl⟩
    rw [hX] at hs3 hfin
    have HF := Lib.hid hfin
    have HGV := Lib.hid hgv
    have HE := Lib.hid hE
    clear q7 hX hfin hgv hE htl hts
    go_upto_region 23 with (go_at_call 67; refine (HTr.out _).mono ?_; rintro e w5 ⟨rfl, hb⟩)
    have HG5 : Hid (GetAt w s 12 w5) := by
      rcases hb with rfl | rfl
      · exact HG4
      · exact Lib.hid (HG4.out.on ((Below.refl _ _).drew))
    clear hb
    obtain ⟨f0, f1⟩ := HG5.out.resF
    obtain ⟨c0, c1⟩ := HG5.out.resC
    have cp : w5.cell? ⟨w.heap.size + 1 + 1, 0, none⟩ = some (.int .i64 12) := HG5.out.posC
    go_wp2
    refine bodyPost_ret (results_row_slot rfl _ _ (w.heap.size + 1) _ rfl (psnap_load (two_stored9 HG5.out.res _ _))) rfl ?_
    refine ⟨X, ?_, HF, two_below9 HG5.out.old (by omega) _ _⟩
    rw [HGV.out, HE.out]; rfl
  · have hE : getE9 s.data.toList = 5 := by rw [HEa.out, if_neg q7]
    have hRn : R ≠ ⟨#[]⟩ := fun h => q7 ((trim_none _ _).1 (by
      have h1 := congrArg (fun x : ByteArray => x.data.toList) HRr.out
      rw [h] at h1
      simpa using h1))
    have HR := Lib.hid (bad9 (l := s.data.toList) (by rw [hE]; omega))
    have HE := Lib.hid hE
    have e7 : (R.toList == []) = false := by
      rw [beq_eq_false_iff_ne]
      intro h
      apply hRn
      apply text_eq
      rw [← ByteArray.toList_eq, h]
    clear hE q7 hRn
    go_upto_region 22 with (go_at_call 67; refine (HTr.out _).mono ?_; rintro e w5 ⟨rfl, hb⟩)
    have HG5 : Hid (GetAt w s 12 w5) := by
      rcases hb with rfl | rfl
      · exact HG4
      · exact Lib.hid (HG4.out.on ((Below.refl _ _).drew))
    clear hb
    obtain ⟨f0, f1⟩ := HG5.out.resF
    obtain ⟨c0, c1⟩ := HG5.out.resC
    go_wp2
    refine bodyPost_ret (results_row_slot rfl _ _ (w.heap.size + 1) _ rfl (psnap_load (two_stored9 HG5.out.res _ _))) rfl ?_
    refine ⟨⟨#[]⟩, ?_, Lib.hid HR.out.2.symm, two_below9 HG5.out.old (by omega) _ _⟩
    rw [HR.out.1, HE.out]; rfl
end Go.Proofs.YtcbmecpeockdeaaGreatDoor
namespace Go.Proofs.YtcbmecpeockdeaaGreatDoor
open Go.RowKit

theorem rep_any (c : Nat) (hc : c ≤ 4096) (W : World) :
    Calls Tryz.prog 58 #[.string ⟨#[0]⟩, .int .i64 c] W fun e w' => e = .returned (.string ⟨(List.replicate c (0 : UInt8)).toArray⟩) ∧ Below W.heap.size W w' := by
  have h1 : (⟨#[0]⟩ : ByteArray).size * c ≤ 140737488355328 := by
    have : (⟨#[0]⟩ : ByteArray).size * c = c := Nat.one_mul c
    omega
  have h := Tryz.strings_Repeat ⟨#[0]⟩ c W (by omega) h1
  rw [show (⟨#[0]⟩ : ByteArray).data.toList = [0] from rfl, rep_nul] at h
  exact h
theorem out_put (g : Int) (t : ByteArray) : outE9 g t.size = putE9 g t.data.toList := by
  unfold outE9 putE9; rw [text_size]
set_option maxRecDepth 100000 in
set_option maxHeartbeats 1000000 in
theorem pput9_any (g : Int) (t : ByteArray) (hg : g ≤ 9223372036854775807) (hs : t.size ≤ 281474976710656) (w : World) (hT : Tab w) :
    Calls Tryz.prog 39 #[.agg #[.int .i64 g, .string t]] w fun e w' => ∃ u : ByteArray, e = .returned (.tuple #[.string u, .int .i64 (putE9 g t.data.toList)]) ∧ Hid (u.data.toList = putL9 g t.data.toList) ∧ Below w.heap.size w w' := by
  have hN := heap_alloc_new w (.cells #[.int .i64 g, .string t] 62 (0, 0))
  have hB : Below w.heap.size w (w.alloc (.cells #[.int .i64 g, .string t] 62 (0, 0))) := (Below.refl _ w).alloc (Nat.le_refl _) _
  have HO := Lib.hid (outside_any g t.size)
  rw [out_put] at HO
  by_cases q1 : putE9 g t.data.toList ≠ 0
  · have e1 : (putE9 g t.data.toList != 0) = true := by simpa using q1
    have hL : putL9 g t.data.toList = [] := by unfold putL9; rw [if_neg q1]
    have HL := Lib.hid hL
    have HB := Lib.hid hB
    clear q1 hL hB hN
    go_enter Tryz.func39, Tryz.ntmps39
    go_wp2_with (go_at_call 55; refine (HO.out _).mono ?_; rintro e w3 ⟨rfl, rfl⟩)
    go_ret2
    exact ⟨⟨#[]⟩, rfl, Lib.hid HL.out.symm, HB.out⟩
  have q1 := Decidable.not_not.1 q1
  have hL : putL9 g t.data.toList = put9 g t.data.toList := by unfold putL9; rw [if_pos q1]
  have hgt : (1 ≤ g ∧ g ≤ 1000000000) ∧ t.size ≤ 100000 := by
    have h := q1
    unfold putE9 at h
    rw [text_size] at h
    split at h
    · split at h
      · omega
      · omega
    · omega
  obtain ⟨p1, p2⟩ := be_putL g 8 (by unfold wideW; omega) (by omega) (by omega)
  obtain ⟨p3, p4⟩ := be_putL (t.size : Int) 4 (by unfold wideW; omega) (by omega) (by omega)
  have hp8 := fun W => oput_any g 8 (by omega) W
  have hp4 := fun W => oput_any (t.size : Int) 4 (by omega) W
  rw [show ((8 : Nat) : Int) = 8 from rfl] at p1 p2
  rw [show ((4 : Nat) : Int) = 4 from rfl] at p3 p4
  rw [Int.toNat_natCast] at p4
  rw [p1, p2] at hp8
  rw [p3, p4] at hp4
  rw [q1] at HO ⊢
  obtain ⟨W, hW⟩ : ∃ W, W = w.alloc (.cells #[.int .i64 g, .string t] 62 (0, 0)) := ⟨_, rfl⟩
  rw [← hW] at hN hB
  go_enter Tryz.func39, Tryz.ntmps39
  go_upto_region 1 with fail
  rw [← hW]
  clear hW
  obtain ⟨c0, c1, _, _⟩ := two_cells9 hN
  go_upto_region 4 with (go_at_call 55; refine (HO.out _).mono ?_; rintro e w3 ⟨rfl, rfl⟩)
  go_upto_region 5 with (go_at_call 56; refine (hp8 _).mono ?_; rintro e w4 ⟨a, rfl, ha, hb4⟩)
  obtain ⟨c0, c1, _, _⟩ := two_cells9 (old_obj hb4 hN)
  have hN4 := old_obj hb4 hN
  have hB4 := hB.trans (hb4.mono hB.size)
  have a8 : a.size = 8 := by rw [← text_size, ha.out, be_len]
  go_upto_region 6 with (go_at_call 56; refine (hp4 _).mono ?_; rintro e w5 ⟨b, rfl, hb, hb5⟩)
  have hN5 := old_obj hb5 hN4
  have hB5 := hB4.trans (hb5.mono hB4.size)
  have b4 : b.size = 4 := by rw [← text_size, hb.out, be_len]
  obtain ⟨c0, c1, _, _⟩ := two_cells9 hN5
  have i1 : ¬ (9223372036854775807 < a.size + b.size) := by omega
  have i2 : ¬ (9223372036854775807 < (a ++ b).size + t.size) := by rw [ByteArray.size_append]; omega
  obtain ⟨K, hK⟩ : ∃ K, a ++ b ++ t = K := ⟨_, rfl⟩
  have hKl : K.data.toList = body9 g t.data.toList := by
    rw [← hK, ByteArray.data_append, ByteArray.data_append, Array.toList_append, Array.toList_append, ha.out, hb.out, List.append_assoc]
    unfold body9
    rw [text_size]
  have hKs : K.size = t.size + 12 := by rw [← text_size, hKl, body_len, text_size]
  have hse := fun W h => cseal_any K (by omega) W h
  have hT5 := hT.below hB5
  obtain ⟨S, hS⟩ : ∃ S, K ++ fourT (ofN K.data.toList) = S := ⟨_, rfl⟩
  have hSl : S.data.toList = sealL (body9 g t.data.toList) := by rw [← hS, cat_four, hKl]; rfl
  have hSs : S.size = t.size + 16 := by rw [← text_size, hSl, seal_len9, body_len, text_size]
  rw [hS] at hse
  have HSe := Lib.hid (hse w5 hT5)
  have HK := Lib.hid hK
  have HHB := Lib.hid hB5
  have HN5 := Lib.hid hN5
  have HT5 := Lib.hid hT5
  have HSl := Lib.hid hSl
  have HQ := Lib.hid q1
  clear hse hS hKl ha hb hb4 hb5 hN hN4 hN5 hB hB4 hB5 hT hT5 hp8 hp4 HO p1 p2 p3 p4 hSl q1
  go_upto_region 7 with (go_at_call 57; first | rw [HK.out] | skip; refine HSe.out.mono ?_; rintro e w6 ⟨rfl, hb6⟩)
  have HN6 := Lib.hid (old_obj hb6 HN5.out)
  have HB6 := Lib.hid (HHB.out.trans (hb6.mono HHB.out.size))
  clear hb6 HSe HN5 HHB HT5
  obtain ⟨c0, c1, _, _⟩ := two_cells9 HN6.out
  have hsc := fun W => sects_any t (by omega) W
  have hup := sect_up t.size
  obtain ⟨m, hm⟩ : ∃ m, 64 * sect9 t.size = m := ⟨_, rfl⟩
  rw [hm] at hup
  obtain ⟨c, hc⟩ : ∃ c, m - (t.size + 16) = c := ⟨_, rfl⟩
  have i3 : IntKind.i64.wrap (((sect9 t.size : Nat) : Int) * 64) = (m : Int) := by rw [show ((sect9 t.size : Nat) : Int) * 64 = m by omega]; exact IntWalk.i64_in _ (by omega)
  have i4 : IntKind.i64.wrap ((m : Int) - (S.size : Int)) = (c : Int) := by rw [show (m : Int) - (S.size : Int) = c by omega]; exact IntWalk.i64_in _ (by omega)
  have hre := fun W => rep_any c (by omega) W
  obtain ⟨R, hR⟩ : ∃ R, (⟨(List.replicate c (0 : UInt8)).toArray⟩ : ByteArray) = R := ⟨_, rfl⟩
  rw [hR] at hre
  have hRl : R.data.toList = List.replicate c 0 := by rw [← hR]
  have hRs : R.size = c := by rw [← text_size, hRl, List.length_replicate]
  have i5 : ¬ (9223372036854775807 < S.size + R.size) := by omega
  have hfin : (S ++ R).data.toList = put9 g t.data.toList := by
    rw [ByteArray.data_append, Array.toList_append, HSl.out, hRl]
    unfold put9
    rw [text_size, hm, hc]
  have HF := Lib.hid (hfin.trans hL.symm)
  clear hRl hR hfin HSl hm hc hup hL hRs hSs hKs i1 i2 a8 b4
  go_wp2_with (first
    | (go_at_call 24; refine (hsc _).mono ?_; rintro e w7 ⟨rfl, rfl⟩)
    | (go_at_call 58; refine (hre _).mono ?_; rintro e w8 ⟨rfl, hb8⟩))
  go_ret2
  exact ⟨_, rfl, HF, HB6.out.trans (hb8.mono HB6.out.size)⟩

theorem gen_least {l : List UInt8} : (getE9 l = 0 → 1 ≤ getG9 l) ∧ (getE9 l ≠ 0 → getG9 l = 0) := by
  refine ⟨fun h => ?_, fun h => (bad9 h).1⟩
  have h1 := (get_parts h).2.2.1
  unfold getG9
  rw [if_pos h]
  omega
/-- Which of two counts, by the generations alone. -/
theorem pick_gen (a b : List UInt8) : pickI a b = if getG9 a < getG9 b then 1 else if getG9 a = 0 then -1 else 0 := by
  have ha := @gen_least a
  have hb := @gen_least b
  rcases pick_cases a b with ⟨h, h1, h2⟩ | ⟨h, h1, h2⟩ | ⟨h, h1, h2⟩
  · rw [h, if_neg (by rw [ha.2 h1, hb.2 h2]; omega), if_pos (ha.2 h1)]
  · have := ha.1 h1
    rw [h, if_neg (by
      rcases h2 with h2 | h2
      · rw [hb.2 h2]; omega
      · omega), if_neg (by omega)]
  · have := hb.1 h1
    rw [h, if_pos (by
      rcases h2 with h2 | h2
      · rw [ha.2 h2]; omega
      · omega)]

/-- Behind k rounds: the result's block, and both snapshots, of which the first k were taken. -/
structure Held9 (w : World) (a b : List UInt8) (k : Nat) (ta tb : ByteArray) (ga gb : Int) (W : World) : Prop where
  old : Below w.heap.size w W
  res : W.heap[w.heap.size]? = some (.cells #[.int .i64 0, .string ⟨#[]⟩] 62 (0, 0))
  arr : W.heap[w.heap.size + 1]? = some (.cells #[.int .i64 ga, .string ta, .int .i64 gb, .string tb] 90 (0, 0))
  one : 0 < k → ga = getG9 a ∧ ta.data.toList = getT9 a
  two : 1 < k → gb = getG9 b ∧ tb.data.toList = getT9 b
theorem four_cells9 {w : World} {g : Nat} {x y z u : Value} {t : TypeId} (h : w.heap[g]? = some (.cells #[x, y, z, u] t (0, 0))) :
    (w.cell? ⟨g, 0, none⟩ = some x ∧ w.cell? ⟨g, 1, none⟩ = some y ∧ w.cell? ⟨g, 2, none⟩ = some z ∧ w.cell? ⟨g, 3, none⟩ = some u) ∧ w.frozen? ⟨g, 0, none⟩ = false ∧ w.frozen? ⟨g, 1, none⟩ = false ∧ w.frozen? ⟨g, 2, none⟩ = false ∧ w.frozen? ⟨g, 3, none⟩ = false :=
  ⟨⟨cell_of (j := 0) h rfl, cell_of (j := 1) h rfl, cell_of (j := 2) h rfl, cell_of (j := 3) h rfl⟩, frozen_of_row w g 0 _ _ h, frozen_of_row w g 1 _ _ h, frozen_of_row w g 2 _ _ h, frozen_of_row w g 3 _ _ h⟩
theorem Held9.on {w W W1 : World} {a b : List UInt8} {k : Nat} {ta tb : ByteArray} {ga gb : Int} (h : Held9 w a b k ta tb ga gb W) (hb : Below W.heap.size W W1) : Held9 w a b k ta tb ga gb W1 :=
  ⟨h.old.trans (hb.mono h.old.size), old_obj hb h.res, old_obj hb h.arr, h.one, h.two⟩
theorem heap_set_off9 (w : World) (g o k : Nat) (v : Value) (h : k ≠ g) : (w.setCell ⟨g, o, none⟩ v).heap[k]? = w.heap[k]? := by
  simp [World.setCell, Array.getElem?_modify, Ne.symm h]
theorem Held9.first {w W : World} {a b : List UInt8} {ta tb t : ByteArray} {ga gb : Int} (h : Held9 w a b 0 ta tb ga gb W) (ht : t.data.toList = getT9 a) :
    Held9 w a b 1 t tb (getG9 a) gb ((W.setCell ⟨w.heap.size + 1, 0, none⟩ (.int .i64 (getG9 a))).setCell ⟨w.heap.size + 1, 1, none⟩ (.string t)) :=
  ⟨two_below9 h.old (by omega) _ _, by rw [heap_set_off9 _ _ _ _ _ (by omega), heap_set_off9 _ _ _ _ _ (by omega)]; exact h.res,
    by
      have h0 := heap_setCell_same W (w.heap.size + 1) 0 _ _ (.int .i64 (getG9 a)) h.arr
      exact heap_setCell_same _ (w.heap.size + 1) 1 _ _ (.string t) h0, fun _ => ⟨rfl, ht⟩, fun h => absurd h (by omega)⟩
theorem Held9.second {w W : World} {a b : List UInt8} {ta tb t : ByteArray} {ga gb : Int} (h : Held9 w a b 1 ta tb ga gb W) (ht : t.data.toList = getT9 b) :
    Held9 w a b 2 ta t ga (getG9 b) ((W.setCell ⟨w.heap.size + 1, 2, none⟩ (.int .i64 (getG9 b))).setCell ⟨w.heap.size + 1, 3, none⟩ (.string t)) :=
  ⟨(h.old.setCell (p := ⟨w.heap.size + 1, 2, none⟩) (by simp) _).setCell (p := ⟨w.heap.size + 1, 3, none⟩) (by simp) _, by rw [heap_set_off9 _ _ _ _ _ (by omega), heap_set_off9 _ _ _ _ _ (by omega)]; exact h.res,
    by
      have h0 := heap_setCell_same W (w.heap.size + 1) 2 _ _ (.int .i64 (getG9 b)) h.arr
      exact heap_setCell_same _ (w.heap.size + 1) 3 _ _ (.string t) h0, fun _ => h.one (by omega), fun _ => ⟨rfl, ht⟩⟩

theorem pair_index0 (a b : ByteArray) (W : World) : (Instr.index 91 (.agg #[.string a, .string b]) (.int .i64 0)).run Tryz.prog W = .ok (.string a) W := by kernel_rfl
theorem pair_index1 (a b : ByteArray) (W : World) : (Instr.index 91 (.agg #[.string a, .string b]) (.int .i64 1)).run Tryz.prog W = .ok (.string b) W := by kernel_rfl
set_option maxRecDepth 100000 in
set_option maxHeartbeats 1000000 in
theorem pchoose9_any (a b : ByteArray) (ha : a.size ≤ 281474976710656) (hb : b.size ≤ 281474976710656) (w : World) (hT : Tab w) :
    Calls Tryz.prog 28 #[.string a, .string b] w fun e w' => ∃ t : ByteArray, e = .returned (.tuple #[.agg #[.int .i64 (pickG a.data.toList b.data.toList), .string t], .int .i64 (pickI a.data.toList b.data.toList)]) ∧ Hid (t.data.toList = pickT a.data.toList b.data.toList) ∧ Below w.heap.size w w' := by
  have HGA : Hid (∀ v, Tab v → Calls Tryz.prog 47 #[.string a] v fun e w' => ∃ t : ByteArray, e = .returned (.tuple #[.agg #[.int .i64 (getG9 a.data.toList), .string t], .int .i64 (getE9 a.data.toList)]) ∧ Hid (t.data.toList = getT9 a.data.toList) ∧ Below v.heap.size v w') := Lib.hid fun v h => pget9_any a ha v h
  have HGB : Hid (∀ v, Tab v → Calls Tryz.prog 47 #[.string b] v fun e w' => ∃ t : ByteArray, e = .returned (.tuple #[.agg #[.int .i64 (getG9 b.data.toList), .string t], .int .i64 (getE9 b.data.toList)]) ∧ Hid (t.data.toList = getT9 b.data.toList) ∧ Below v.heap.size v w') := Lib.hid fun v h => pget9_any b hb v h
  have HT := Lib.hid hT
  clear hT
  obtain ⟨W, hW⟩ : ∃ W, W = ((w.alloc (.cells #[.int .i64 0, .string ⟨#[]⟩] 62 (0, 0))).alloc (.cells #[.int .i64 0, .string ⟨#[]⟩, .int .i64 0, .string ⟨#[]⟩] 90 (0, 0))) := ⟨_, rfl⟩
  have H0 : Hid (Held9 w a.data.toList b.data.toList 0 ⟨#[]⟩ ⟨#[]⟩ 0 0 W) := Lib.hid (by
    rw [hW]
    exact ⟨((Below.refl _ w).alloc (Nat.le_refl _) _).alloc (by simp) _, heap_alloc2_old _ _ _, heap_alloc2_new _ _ _, fun h => absurd h (by omega), fun h => absurd h (by omega)⟩)
  go_enter Tryz.func28, Tryz.ntmps28
  go_upto_region 2 with fail
  rw [← hW]
  clear hW
  go_wp2
  go_loopw [13] (fun i' wr => ∃ k : Nat, i' = .int .i64 k ∧ k ≤ 2 ∧ ∃ ta tb ga gb, Hid (Held9 w a.data.toList b.data.toList k ta tb ga gb wr)) (fun i _ => 2 - (intOf i).toNat)
  case atStart => exact ⟨0, rfl, by omega, _, _, _, _, H0⟩
  case round =>
    clear H0
    obtain ⟨k, rfl, hk, ta, tb, ga, gb, hH⟩ := hrel
    obtain ⟨⟨c0, c1, c2, c3⟩, f0, f1, f2, f3⟩ := four_cells9 hH.out.arr
    have x0 := pair_index0 a b
    have x1 := pair_index1 a b
    rcases (by omega : k = 0 ∨ k = 1 ∨ k = 2) with rfl | rfl | rfl
    · go_wp2_with (go_at_call 47; refine (HGA.out _ (HT.out.below hH.out.old)).mono ?_; rintro e w1 ⟨t, rfl, ht, hb1⟩; have hH1 := Lib.hid (hH.out.on hb1); clear hH hb1 c0 c1 c2 c3 f0 f1 f2 f3; obtain ⟨⟨c0, c1, c2, c3⟩, f0, f1, f2, f3⟩ := four_cells9 hH1.out.arr)
      go_roundw
      case rel => exact ⟨1, by go_num, by omega, _, _, _, _, Lib.hid (hH1.out.first ht.out)⟩
      case measure => simp [intOf]
    · go_wp2_with (go_at_call 47; refine (HGB.out _ (HT.out.below hH.out.old)).mono ?_; rintro e w1 ⟨t, rfl, ht, hb1⟩; have hH1 := Lib.hid (hH.out.on hb1); clear hH hb1 c0 c1 c2 c3 f0 f1 f2 f3; obtain ⟨⟨c0, c1, c2, c3⟩, f0, f1, f2, f3⟩ := four_cells9 hH1.out.arr)
      go_roundw
      case rel => exact ⟨2, by go_num, by omega, _, _, _, _, Lib.hid (hH1.out.second ht.out)⟩
      case measure => simp [intOf]
    · clear HGA HGB HT
      obtain ⟨rfl, h1⟩ := hH.out.one (by omega)
      obtain ⟨rfl, h2⟩ := hH.out.two (by omega)
      have r0 := hH.out.res
      obtain ⟨d0, d1, g0, g1⟩ := two_cells9 r0
      have HO := Lib.hid hH.out.old
      have R0 := Lib.hid r0
      have H1 := Lib.hid h1
      have H2 := Lib.hid h2
      have hp := pick_gen a.data.toList b.data.toList
      have hpg : pickG a.data.toList b.data.toList = if pickI a.data.toList b.data.toList = -1 then 0 else if pickI a.data.toList b.data.toList = 0 then getG9 a.data.toList else getG9 b.data.toList := rfl
      have hpt : pickT a.data.toList b.data.toList = if pickI a.data.toList b.data.toList = -1 then [] else if pickI a.data.toList b.data.toList = 0 then getT9 a.data.toList else getT9 b.data.toList := rfl
      clear hH h1 h2 r0
      by_cases q1 : getG9 a.data.toList < getG9 b.data.toList
      · have e1 : decide (getG9 a.data.toList < getG9 b.data.toList) = true := decide_eq_true q1
        rw [if_pos q1] at hp
        rw [hp, if_neg (by omega), if_neg (by omega)] at hpg hpt
        have e2 : (getG9 b.data.toList == 0) = false := by
          have : 0 ≤ getG9 a.data.toList := by unfold getG9; split <;> omega
          rw [beq_eq_false_iff_ne]; omega
        have HP := Lib.hid hp
        have HPG := Lib.hid hpg
        have HPT := Lib.hid hpt
        clear hp hpg hpt q1
        go_wp2
        refine bodyPost_ret (results_row_slot rfl _ _ w.heap.size _ rfl (psnap_load (two_stored9 R0.out _ _))) rfl ?_
        refine ⟨tb, by rw [HP.out, HPG.out]; rfl, Lib.hid (by rw [HPT.out]; exact H2.out), two_below9 HO.out (by omega) _ _⟩
      · have e1 : decide (getG9 a.data.toList < getG9 b.data.toList) = false := decide_eq_false q1
        rw [if_neg q1] at hp
        by_cases q2 : getG9 a.data.toList = 0
        · have e2 : (getG9 a.data.toList == 0) = true := beq_iff_eq.2 q2
          rw [if_pos q2] at hp
          rw [hp, if_pos rfl] at hpg hpt
          have HP := Lib.hid hp
          have HPG := Lib.hid hpg
          have HPT := Lib.hid hpt
          clear hp hpg hpt q1 q2
          go_wp2
          refine bodyPost_ret (results_row_slot rfl _ _ w.heap.size _ rfl (psnap_load (two_stored9 R0.out _ _))) rfl ?_
          refine ⟨⟨#[]⟩, by rw [HP.out, HPG.out]; rfl, Lib.hid (by rw [HPT.out]), two_below9 HO.out (by omega) _ _⟩
        · have e2 : (getG9 a.data.toList == 0) = false := beq_eq_false_iff_ne.2 q2
          rw [if_neg q2] at hp
          rw [hp, if_neg (by omega), if_pos rfl] at hpg hpt
          have HP := Lib.hid hp
          have HPG := Lib.hid hpg
          have HPT := Lib.hid hpt
          clear hp hpg hpt q1 q2
          go_wp2
          refine bodyPost_ret (results_row_slot rfl _ _ w.heap.size _ rfl (psnap_load (two_stored9 R0.out _ _))) rfl ?_
          refine ⟨ta, by rw [HP.out, HPG.out]; rfl, Lib.hid (by rw [HPT.out]; exact H1.out), two_below9 HO.out (by omega) _ _⟩
theorem pick_span (a b : List UInt8) : (pickI a b = -1 ∧ pickG a b = 0) ∨ ((pickI a b = 0 ∨ pickI a b = 1) ∧ 1 ≤ pickG a b ∧ pickG a b ≤ 1000000000) := by
  have hr : ∀ l, getE9 l = 0 → 1 ≤ getG9 l ∧ getG9 l ≤ 1000000000 := fun l h => by
    have h1 := (get_parts h).2.2.1
    unfold getG9
    rw [if_pos h]
    omega
  unfold pickG
  rcases pick_cases a b with ⟨h, h1, h2⟩ | ⟨h, h1, h2⟩ | ⟨h, h1, h2⟩
  · exact Or.inl ⟨h, by rw [h]; rfl⟩
  · exact Or.inr ⟨Or.inl h, by rw [h]; exact hr _ h1⟩
  · exact Or.inr ⟨Or.inr h, by rw [h]; exact hr _ h1⟩
set_option maxHeartbeats 1000000 in
theorem pnext9_any (a b : ByteArray) (ha : a.size ≤ 281474976710656) (hb : b.size ≤ 281474976710656) (w : World) (hT : Tab w) :
    Calls Tryz.prog 38 #[.string a, .string b] w fun e w' => e = .returned (.tuple #[.int .i64 (nextG a.data.toList b.data.toList), .int .i64 (nextS a.data.toList b.data.toList)]) ∧ Below w.heap.size w w' := by
  have hc := pchoose9_any a b ha hb w hT
  have hG : nextG a.data.toList b.data.toList = if pickI a.data.toList b.data.toList = -1 then 1 else if pickG a.data.toList b.data.toList = 1000000000 then 0 else pickG a.data.toList b.data.toList + 1 := rfl
  have hS : nextS a.data.toList b.data.toList = if pickI a.data.toList b.data.toList = -1 then 0 else 1 - pickI a.data.toList b.data.toList := rfl
  have hr := pick_span a.data.toList b.data.toList
  generalize nextG a.data.toList b.data.toList = NG at *
  generalize nextS a.data.toList b.data.toList = NS at *
  generalize pickI a.data.toList b.data.toList = PI at *
  generalize pickG a.data.toList b.data.toList = PG at *
  generalize pickT a.data.toList b.data.toList = PT at *
  clear hT ha hb
  go_enter Tryz.func38, Tryz.ntmps38
  go_upto_region 2 with (go_at_call 28; refine hc.mono ?_; rintro e w1 ⟨t, rfl, ht, hb1⟩)
  have hB : Below w.heap.size w (w1.alloc (.cells #[.int .i64 PG, .string t] 62 (0, 0))) := hb1.alloc hb1.size _
  clear hc ht hb1
  have HB := Lib.hid hB
  clear hB
  rcases hr with ⟨h1, h2⟩ | ⟨h1, h2, h3⟩
  · subst h1 h2
    rw [if_pos rfl] at hG hS
    subst hG hS
    go_wp2
    go_ret2
    exact ⟨rfl, HB.out⟩
  · have d1 : decide (PI < 0) = false := decide_eq_false (by omega)
    have i1 : IntKind.i64.wrap (1 - PI) = 1 - PI := IntWalk.i64_in _ (by omega)
    have i2 : IntKind.i64.wrap (PG + 1) = PG + 1 := IntWalk.i64_in _ (by omega)
    rw [if_neg (by omega)] at hG hS
    by_cases q : PG = 1000000000
    · have d2 : (PG == 1000000000) = true := beq_iff_eq.2 q
      rw [if_pos q] at hG
      subst hG hS
      clear h1 h2 h3 q
      go_wp2
      go_ret2
      exact ⟨rfl, HB.out⟩
    · have d2 : (PG == 1000000000) = false := beq_eq_false_iff_ne.2 q
      rw [if_neg q] at hG
      subst hG hS
      clear h1 h2 h3 q
      go_wp2
      go_ret2
      exact ⟨rfl, HB.out⟩

/-- The program's slot does all that layer 9's walks want of it. -/
theorem slot9 : Slot9 Tab where
  below := fun h hb => h.below hb
  sect := fun t ht w => (sects_any t ht w).mono fun e w' h => ⟨h.1, by rw [← h.2]; exact Below.refl _ _⟩
  put := fun g t hg ht w hT => pput9_any g t hg ht w hT
  get := fun s hs w hT => pget9_any s hs w hT
  choose := fun a b ha hb w hT => pchoose9_any a b ha hb w hT
  next := fun a b ha hb w hT => pnext9_any a b ha hb w hT
end Go.Proofs.YtcbmecpeockdeaaGreatDoor
