/- The walk of the law SerialMarks: it returns true in every world and leaves what lay there. -/
import Derived.Test.YtjkdfagkdgghpaaMath
import Derived.Deep.QuietTactic
import Derived.BigQuiet
namespace Go.Proofs.Ytjkdfagkdgghpaa
open Go.RowKit

theorem mark_shut (s : ByteArray) (w : World) : Calls Try.prog 15 #[.string s] w fun e w' => ∃ (m f : Int), e = .returned (.tuple #[.int .i32 m, .int .i64 f]) ∧ Hid (m = markR s.data.toList ∧ f = checkOf s.data.toList) ∧ Below w.heap.size w w' :=
  (mark_any s w).mono fun _ _ ⟨he, hb⟩ => ⟨_, _, he, Lib.hid ⟨rfl, rfl⟩, hb⟩
theorem changed_in (s : ByteArray) (n : Nat) (hn : n < s.size) (d : UInt8) (h5 : ¬ (s[n]'hn).toNat = 45) (hd5 : ¬ d.toNat = 45) (hcd : (s[n]'hn) ≠ d) (h1 : checkOf s.data.toList = 0)
    (m f : Int) (hm : m = markR (s.extract 0 n ++ ⟨#[d]⟩ ++ s.extract (n + 1) s.size).data.toList ∧ f = checkOf (s.extract 0 n ++ ⟨#[d]⟩ ++ s.extract (n + 1) s.size).data.toList) : ¬ (f = 0 ∧ m = markR s.data.toList) := by
  rw [spliced] at hm
  rintro ⟨rfl, hq⟩
  have e := take_drop_at s n hn
  rw [e] at h1 hq
  exact mark_changed _ _ _ d h5 hd5 hcd h1 hm.2.symm (hm.1.symm.trans hq)
theorem spliced_two (u : ByteArray) (n : Nat) (c d : UInt8) : (u.extract 0 n ++ ⟨#[c, d]⟩ ++ u.extract (n + 2) u.size).data.toList = u.data.toList.take n ++ c :: d :: u.data.toList.drop (n + 2) := by
  simp [ByteArray.data_append, ByteArray.data_extract, Array.toList_extract, List.extract_eq_take_drop]
  have : u.data.size = u.size := rfl
  rw [List.take_of_length_le (by simp)]
theorem two_at (s : ByteArray) (n : Nat) (hn : n + 1 < s.size) : s.data.toList = s.data.toList.take n ++ (s[n]'(by omega)) :: (s[n + 1]'hn) :: s.data.toList.drop (n + 2) := by
  have h1 := take_drop_at s n (by omega)
  have h2 := take_drop_at s (n + 1) hn
  rw [take_snoc s n (by omega)] at h2
  simpa using h2
theorem swapped_in (s : ByteArray) (n : Nat) (hn : n + 1 < s.size) (h5 : ¬ (s[n]'(by omega)).toNat = 45) (hd5 : ¬ (s[n + 1]'hn).toNat = 45) (hcd : (s[n]'(by omega)) ≠ (s[n + 1]'hn)) (h1 : checkOf s.data.toList = 0)
    (m f : Int) (hm : m = markR (s.extract 0 n ++ ⟨#[s[n + 1]'hn, s[n]'(by omega)]⟩ ++ s.extract (n + 2) s.size).data.toList ∧ f = checkOf (s.extract 0 n ++ ⟨#[s[n + 1]'hn, s[n]'(by omega)]⟩ ++ s.extract (n + 2) s.size).data.toList) : f = 0 ∧ m ≠ markR s.data.toList := by
  rw [spliced_two] at hm
  have e := two_at s n hn
  rw [e] at h1
  obtain ⟨h2, h3⟩ := mark_swapped _ _ _ _ h5 hd5 hcd h1
  refine ⟨hm.2.trans h2, ?_⟩
  rw [e, hm.1]
  exact h3
/-- A text of two bytes, made of a literal of two bytes in the newest block. -/
theorem conv_two (W : World) (q : Nat) (x y : Int) : (convert 44 9 (.slice (some ⟨W.heap.size, 0, none⟩) 2 2)).run Try.prog ((W.drewN q).alloc (.cells #[.int .u8 x, .int .u8 y] 5)) = .ok (.string ⟨#[UInt8.ofNat x.toNat, UInt8.ofNat y.toNat]⟩) ((W.drewN q).alloc (.cells #[.int .u8 x, .int .u8 y] 5)) := by
  rw [run_convert_bytes_string (P := Try.prog) _ 44 9 5 _ _ _ Try.underlying44 Try.underlying5 Try.underlying9]
  have hl : (loadCells ⟨W.heap.size, 0, none⟩ 2).run Try.prog ((W.drewN q).alloc (.cells #[.int .u8 x, .int .u8 y] 5)) = .ok ([x, y].map (Value.int .u8)).toArray ((W.drewN q).alloc (.cells #[.int .u8 x, .int .u8 y] 5)) :=
    run_loadCells_list (P := Try.prog) _ ⟨W.heap.size, 0, none⟩ ([x, y].map (Value.int .u8)) (fun j v hj => by
      have hnew := heap_alloc_new (W.drewN q) (.cells #[.int .u8 x, .int .u8 y] 5)
      match j, hj with
      | 0, hj => simp at hj; subst hj; exact (cell_of_row _ _ _ _ _ _ hnew).trans rfl
      | 1, hj => simp at hj; subst hj; exact (cell_of_row _ _ _ _ _ _ hnew).trans rfl)
  exact (run_bytesToString (P := Try.prog) _ _ 2 2 [x, y] hl).trans rfl

theorem index_at (u : ByteArray) (i : Nat) (hi : i < u.size) (j : Int) (hj : j = (i : Int)) (W : World) : (Instr.index 9 (.string u) (.int .i64 j)).run Try.prog W = .ok (.int .u8 ((u[i]'hi).toNat : Int)) W := by
  subst hj
  rw [run_index_string W 9 u .i64 (i : Int) Try.underlying9, dif_pos ⟨by omega, by omega⟩]
  rfl

set_option maxRecDepth 100000 in
set_option maxHeartbeats 4000000 in
theorem marks_dash (w : World) (s : ByteArray) (n : Nat) (hn : n < s.size) (by8 : UInt8) (h0 : checkOf s.data.toList = 0) (h45 : ¬ (s[n]'hn).toNat = 45) (hd5 : by8.toNat = 45) :
    Calls Try.prog 7 #[.string s, .int .i64 n, .int .u8 (by8.toNat : Int)] w fun e w' => e = .returned (.bool true) ∧ Below w.heap.size w w' := by
  have hb := Below.refl w.heap.size w
  have hms := mark_bd s.data.toList
  have hs16 : s.size ≤ 16 := by
    have := (mark_serial h0).1
    unfold serialB at this
    simp at this
    exact this.1
  have hb8 : (s[n]'hn).toNat < 256 := (s[n]'hn).toNat_lt
  have hy8 : by8.toNat < 256 := by8.toNat_lt
  have e5 : (((s[n]'hn).toNat : Int) == 45) = false := by rw [beq_eq_false_iff_ne]; omega
  have H45 := Lib.hid h45
  have H0 := Lib.hid h0
  clear h0 h45
  have ec : (classOf (by8.toNat : Int) != 3) = false := by rw [hd5]; rfl
  clear hd5
  go_enter Try.func7, Try.ntmps7
  go_wp2_with fail
  refine (mark_shut _ _).mono ?_
  rintro e w1 ⟨m, f, rfl, hmf, b1⟩
  replace hb := hb.trans (b1.mono hb.size)
  obtain rfl : f = 0 := hmf.out.2.trans H0.out
  rw [← hmf.out.1] at hms
  obtain ⟨hm0, hm1⟩ := hms
  go_wp2_with (go_at_call 8; refine (class_any _ _).mono ?_; rintro e w4 ⟨rfl, rfl⟩)
  by_cases h8 : n + 1 < s.size
  · have hb9 : (s[n + 1]'h8).toNat < 256 := (s[n + 1]'h8).toNat_lt
    have e8 : (n : Int) + 1 < (s.size : Int) := by omega
    have qi := index_at s (n + 1) h8 ((n : Int) + 1) (by omega)
    by_cases h9 : (s[n + 1]'h8).toNat = 45
    · have e9 : (((s[n + 1]'h8).toNat : Int) != 45) = false := by simp [h9]
      clear h9
      have q1 : IntKind.i64.wrap ((n : Int) + 1) = (n : Int) + 1 := IntWalk.i64_in _ (by omega)
      have q2 : (0 : Int) ≤ (n : Int) + 1 := by omega
      have q3 : ((n : Int) + 1).toNat = n + 1 := by omega
      go_quiet (fail)
      clear q1 q2 q3
      go_wp2_with (go_at_call 12; refine (awake_any _).mono ?_; rintro e w5 ⟨rfl, b5⟩; replace hb := (below_drewN hb _).trans (b5.mono (below_drewN hb _).size))
      go_ret
      exact ⟨rfl, hb⟩
    · have e9 : (((s[n + 1]'h8).toNat : Int) != 45) = true := by rw [bne_iff_ne]; omega
      by_cases h10 : s[n]'hn = s[n + 1]'h8
      · have e10 : (((s[n]'hn).toNat : Int) != ((s[n + 1]'h8).toNat : Int)) = false := by rw [h10]; simp
        clear h9 h10
        have q1 : IntKind.i64.wrap ((n : Int) + 1) = (n : Int) + 1 := IntWalk.i64_in _ (by omega)
        have q2 : (0 : Int) ≤ (n : Int) + 1 := by omega
        have q3 : ((n : Int) + 1).toNat = n + 1 := by omega
        go_quiet (fail)
        clear q1 q2 q3
        go_wp2_with (go_at_call 12; refine (awake_any _).mono ?_; rintro e w5 ⟨rfl, b5⟩; replace hb := (below_drewN hb _).trans (b5.mono (below_drewN hb _).size))
        go_ret
        exact ⟨rfl, hb⟩
      · have e10 : (((s[n]'hn).toNat : Int) != ((s[n + 1]'h8).toNat : Int)) = true := by
          rw [bne_iff_ne]
          exact fun e => h10 (UInt8.toNat_inj.1 (by omega))
        have Hsw := Lib.hid (fun m f h => swapped_in s n h8 H45.out h9 h10 H0.out m f h)
        clear h9 h10
        have q1 : IntKind.i64.wrap ((n : Int) + 1) = (n : Int) + 1 := IntWalk.i64_in _ (by omega)
        have q2 : (0 : Int) ≤ (n : Int) + 1 := by omega
        have q3 : ((n : Int) + 1).toNat = n + 1 := by omega
        go_quiet (fail)
        clear q1 q2 q3
        have hcv2 := conv_two
        have gs1 := slice_to s (n : Int) (by omega) (by omega)
        have gs2 := slice_from s ((n : Int) + 2) (by omega) (by omega)
        have gn0 : (0 : Int) ≤ (n : Int) := by omega
        have gn1 : (n : Int) < (s.size : Int) := by omega
        have gn2 : (n : Int) + 1 < (s.size : Int) := by omega
        have gsum1 : IntKind.i64.wrap ((n : Int) + 1) = (n : Int) + 1 := IntWalk.i64_in _ (by omega)
        have gsum2 : IntKind.i64.wrap ((n : Int) + 2) = (n : Int) + 2 := IntWalk.i64_in _ (by omega)
        go_wp2_with fail
        go_region_with (go_at_call 15; refine (mark_shut _ _).mono ?_; rintro e w7 ⟨m3, f3, rfl, hm3, b7⟩)
        all_goals
          have hb7 := ((below_drewN hb _).alloc (below_drewN hb _).size (.cells #[.int .u8 ((s[n + 1]'h8).toNat : Int), .int .u8 ((s[n]'hn).toNat : Int)] 5)).trans (b7.mono ((below_drewN hb _).alloc (below_drewN hb _).size _).size)
          have hne := Hsw.out m3 f3 hm3.out
          rw [← hmf.out.1] at hne
          have e11 : (f3 != 0) = false := by rw [hne.1]; rfl
          have e12 : (m3 == m) = false := by rw [beq_eq_false_iff_ne]; exact hne.2
          clear hne
          replace hb := hb7
          go_wp2_with (go_at_call 12; refine (awake_any _).mono ?_; rintro e w5 ⟨rfl, b5⟩; replace hb := hb.trans (b5.mono hb.size))
          go_ret
          exact ⟨rfl, hb⟩
  · have e8 : decide (n + 1 < s.size) = false := by simp; omega
    have e8' : decide ((n : Int) + 1 < (s.size : Int)) = false := by simp; omega
    have e8'' : (s.size : Int) ≤ (n : Int) + 1 := by omega
    have q1 : IntKind.i64.wrap ((n : Int) + 1) = (n : Int) + 1 := IntWalk.i64_in _ (by omega)
    have q2 : (0 : Int) ≤ (n : Int) + 1 := by omega
    have q3 : ((n : Int) + 1).toNat = n + 1 := by omega
    go_quiet (fail)
    clear q1 q2 q3
    go_wp2_with (go_at_call 12; refine (awake_any _).mono ?_; rintro e w5 ⟨rfl, b5⟩; replace hb := (below_drewN hb _).trans (b5.mono (below_drewN hb _).size))
    go_ret
    exact ⟨rfl, hb⟩

set_option maxRecDepth 100000 in
set_option maxHeartbeats 4000000 in
theorem marks_same (w : World) (s : ByteArray) (n : Nat) (hn : n < s.size) (by8 : UInt8) (h0 : checkOf s.data.toList = 0) (h45 : ¬ (s[n]'hn).toNat = 45) (hd5 : ¬ by8.toNat = 45) (hcd : s[n]'hn = by8) :
    Calls Try.prog 7 #[.string s, .int .i64 n, .int .u8 (by8.toNat : Int)] w fun e w' => e = .returned (.bool true) ∧ Below w.heap.size w w' := by
  have hb := Below.refl w.heap.size w
  have hms := mark_bd s.data.toList
  have hs16 : s.size ≤ 16 := by
    have := (mark_serial h0).1
    unfold serialB at this
    simp at this
    exact this.1
  have hb8 : (s[n]'hn).toNat < 256 := (s[n]'hn).toNat_lt
  have hy8 : by8.toNat < 256 := by8.toNat_lt
  have e5 : (((s[n]'hn).toNat : Int) == 45) = false := by rw [beq_eq_false_iff_ne]; omega
  have H45 := Lib.hid h45
  have H0 := Lib.hid h0
  clear h0 h45
  have hcl : ¬ classOf (by8.toNat : Int) = 3 := by
    unfold classOf
    split
    · omega
    · split
      · omega
      · split <;> omega
  have ec : (classOf (by8.toNat : Int) != 3) = true := by rw [bne_iff_ne]; exact hcl
  have eb : ((by8.toNat : Int) != ((s[n]'hn).toNat : Int)) = false := by rw [hcd]; simp
  clear hcd hd5 hcl
  go_enter Try.func7, Try.ntmps7
  go_wp2_with fail
  refine (mark_shut _ _).mono ?_
  rintro e w1 ⟨m, f, rfl, hmf, b1⟩
  replace hb := hb.trans (b1.mono hb.size)
  obtain rfl : f = 0 := hmf.out.2.trans H0.out
  rw [← hmf.out.1] at hms
  obtain ⟨hm0, hm1⟩ := hms
  go_wp2_with (go_at_call 8; refine (class_any _ _).mono ?_; rintro e w4 ⟨rfl, rfl⟩)
  by_cases h8 : n + 1 < s.size
  · have hb9 : (s[n + 1]'h8).toNat < 256 := (s[n + 1]'h8).toNat_lt
    have e8 : (n : Int) + 1 < (s.size : Int) := by omega
    have qi := index_at s (n + 1) h8 ((n : Int) + 1) (by omega)
    by_cases h9 : (s[n + 1]'h8).toNat = 45
    · have e9 : (((s[n + 1]'h8).toNat : Int) != 45) = false := by simp [h9]
      clear h9
      have q1 : IntKind.i64.wrap ((n : Int) + 1) = (n : Int) + 1 := IntWalk.i64_in _ (by omega)
      have q2 : (0 : Int) ≤ (n : Int) + 1 := by omega
      have q3 : ((n : Int) + 1).toNat = n + 1 := by omega
      go_quiet (fail)
      clear q1 q2 q3
      go_wp2_with (go_at_call 12; refine (awake_any _).mono ?_; rintro e w5 ⟨rfl, b5⟩; replace hb := (below_drewN hb _).trans (b5.mono (below_drewN hb _).size))
      go_ret
      exact ⟨rfl, hb⟩
    · have e9 : (((s[n + 1]'h8).toNat : Int) != 45) = true := by rw [bne_iff_ne]; omega
      by_cases h10 : s[n]'hn = s[n + 1]'h8
      · have e10 : (((s[n]'hn).toNat : Int) != ((s[n + 1]'h8).toNat : Int)) = false := by rw [h10]; simp
        clear h9 h10
        have q1 : IntKind.i64.wrap ((n : Int) + 1) = (n : Int) + 1 := IntWalk.i64_in _ (by omega)
        have q2 : (0 : Int) ≤ (n : Int) + 1 := by omega
        have q3 : ((n : Int) + 1).toNat = n + 1 := by omega
        go_quiet (fail)
        clear q1 q2 q3
        go_wp2_with (go_at_call 12; refine (awake_any _).mono ?_; rintro e w5 ⟨rfl, b5⟩; replace hb := (below_drewN hb _).trans (b5.mono (below_drewN hb _).size))
        go_ret
        exact ⟨rfl, hb⟩
      · have e10 : (((s[n]'hn).toNat : Int) != ((s[n + 1]'h8).toNat : Int)) = true := by
          rw [bne_iff_ne]
          exact fun e => h10 (UInt8.toNat_inj.1 (by omega))
        have Hsw := Lib.hid (fun m f h => swapped_in s n h8 H45.out h9 h10 H0.out m f h)
        clear h9 h10
        have q1 : IntKind.i64.wrap ((n : Int) + 1) = (n : Int) + 1 := IntWalk.i64_in _ (by omega)
        have q2 : (0 : Int) ≤ (n : Int) + 1 := by omega
        have q3 : ((n : Int) + 1).toNat = n + 1 := by omega
        go_quiet (fail)
        clear q1 q2 q3
        have hcv2 := conv_two
        have gs1 := slice_to s (n : Int) (by omega) (by omega)
        have gs2 := slice_from s ((n : Int) + 2) (by omega) (by omega)
        have gn0 : (0 : Int) ≤ (n : Int) := by omega
        have gn1 : (n : Int) < (s.size : Int) := by omega
        have gn2 : (n : Int) + 1 < (s.size : Int) := by omega
        have gsum1 : IntKind.i64.wrap ((n : Int) + 1) = (n : Int) + 1 := IntWalk.i64_in _ (by omega)
        have gsum2 : IntKind.i64.wrap ((n : Int) + 2) = (n : Int) + 2 := IntWalk.i64_in _ (by omega)
        go_wp2_with fail
        go_region_with (go_at_call 15; refine (mark_shut _ _).mono ?_; rintro e w7 ⟨m3, f3, rfl, hm3, b7⟩)
        all_goals
          have hb7 := ((below_drewN hb _).alloc (below_drewN hb _).size (.cells #[.int .u8 ((s[n + 1]'h8).toNat : Int), .int .u8 ((s[n]'hn).toNat : Int)] 5)).trans (b7.mono ((below_drewN hb _).alloc (below_drewN hb _).size _).size)
          have hne := Hsw.out m3 f3 hm3.out
          rw [← hmf.out.1] at hne
          have e11 : (f3 != 0) = false := by rw [hne.1]; rfl
          have e12 : (m3 == m) = false := by rw [beq_eq_false_iff_ne]; exact hne.2
          clear hne
          replace hb := hb7
          go_wp2_with (go_at_call 12; refine (awake_any _).mono ?_; rintro e w5 ⟨rfl, b5⟩; replace hb := hb.trans (b5.mono hb.size))
          go_ret
          exact ⟨rfl, hb⟩
  · have e8 : decide (n + 1 < s.size) = false := by simp; omega
    have e8' : decide ((n : Int) + 1 < (s.size : Int)) = false := by simp; omega
    have e8'' : (s.size : Int) ≤ (n : Int) + 1 := by omega
    have q1 : IntKind.i64.wrap ((n : Int) + 1) = (n : Int) + 1 := IntWalk.i64_in _ (by omega)
    have q2 : (0 : Int) ≤ (n : Int) + 1 := by omega
    have q3 : ((n : Int) + 1).toNat = n + 1 := by omega
    go_quiet (fail)
    clear q1 q2 q3
    go_wp2_with (go_at_call 12; refine (awake_any _).mono ?_; rintro e w5 ⟨rfl, b5⟩; replace hb := (below_drewN hb _).trans (b5.mono (below_drewN hb _).size))
    go_ret
    exact ⟨rfl, hb⟩

set_option maxRecDepth 100000 in
set_option maxHeartbeats 4000000 in
theorem marks_other (w : World) (s : ByteArray) (n : Nat) (hn : n < s.size) (by8 : UInt8) (h0 : checkOf s.data.toList = 0) (h45 : ¬ (s[n]'hn).toNat = 45) (hd5 : ¬ by8.toNat = 45) (hcd : ¬ s[n]'hn = by8) :
    Calls Try.prog 7 #[.string s, .int .i64 n, .int .u8 (by8.toNat : Int)] w fun e w' => e = .returned (.bool true) ∧ Below w.heap.size w w' := by
  have hb := Below.refl w.heap.size w
  have hms := mark_bd s.data.toList
  have hs16 : s.size ≤ 16 := by
    have := (mark_serial h0).1
    unfold serialB at this
    simp at this
    exact this.1
  have hb8 : (s[n]'hn).toNat < 256 := (s[n]'hn).toNat_lt
  have hy8 : by8.toNat < 256 := by8.toNat_lt
  have e5 : (((s[n]'hn).toNat : Int) == 45) = false := by rw [beq_eq_false_iff_ne]; omega
  have H45 := Lib.hid h45
  have H0 := Lib.hid h0
  clear h0 h45
  have hcl : ¬ classOf (by8.toNat : Int) = 3 := by
    unfold classOf
    split
    · omega
    · split
      · omega
      · split <;> omega
  have ec : (classOf (by8.toNat : Int) != 3) = true := by rw [bne_iff_ne]; exact hcl
  have eb : ((by8.toNat : Int) != ((s[n]'hn).toNat : Int)) = true := by
    rw [bne_iff_ne]
    exact fun e => hcd (UInt8.toNat_inj.1 (by omega))
  have Hch := Lib.hid (fun m f h => changed_in s n hn by8 H45.out hd5 hcd H0.out m f h)
  clear hcd hd5 hcl
  go_enter Try.func7, Try.ntmps7
  go_wp2_with fail
  refine (mark_shut _ _).mono ?_
  rintro e w1 ⟨m, f, rfl, hmf, b1⟩
  replace hb := hb.trans (b1.mono hb.size)
  obtain rfl : f = 0 := hmf.out.2.trans H0.out
  rw [← hmf.out.1] at hms
  obtain ⟨hm0, hm1⟩ := hms
  go_wp2_with (go_at_call 8; refine (class_any _ _).mono ?_; rintro e w4 ⟨rfl, rfl⟩)
  have hcv := conv_one
  have hs1 := slice_to s (n : Int) (by omega) (by omega)
  have hs2 := slice_from s ((n : Int) + 1) (by omega) (by omega)
  have hn0 : (0 : Int) ≤ (n : Int) := by omega
  have hn1 : (n : Int) < (s.size : Int) := by omega
  have hsum2 : IntKind.i64.wrap ((n : Int) + 1) = (n : Int) + 1 := IntWalk.i64_in _ (by omega)
  go_region_with (go_at_call 15; refine (mark_shut _ _).mono ?_; rintro e w6 ⟨m2, f2, rfl, hm2, b6⟩)
  all_goals
    clear hsum2 hs1 hs2 hcv hn0 hn1
    have hb6 := (hb.alloc hb.size (.cells #[.int .u8 (by8.toNat : Int)] 5)).drew.trans (b6.mono (by have := hb.size; simp; omega))
    replace hb := hb6
    have hne := Hch.out m2 f2 hm2.out
    rw [← hmf.out.1] at hne
    by_cases hf2 : f2 = 0
    · have e6 : (f2 == 0) = true := by simp [hf2]
      have e7 : (m2 == m) = false := by rw [beq_eq_false_iff_ne]; exact fun e => hne ⟨hf2, e⟩
      clear hf2 hne
      go_wp2_with fail
      by_cases h8 : n + 1 < s.size
      · have hb9 : (s[n + 1]'h8).toNat < 256 := (s[n + 1]'h8).toNat_lt
        have e8 : (n : Int) + 1 < (s.size : Int) := by omega
        have qi := index_at s (n + 1) h8 ((n : Int) + 1) (by omega)
        by_cases h9 : (s[n + 1]'h8).toNat = 45
        · have e9 : (((s[n + 1]'h8).toNat : Int) != 45) = false := by simp [h9]
          clear h9
          have q1 : IntKind.i64.wrap ((n : Int) + 1) = (n : Int) + 1 := IntWalk.i64_in _ (by omega)
          have q2 : (0 : Int) ≤ (n : Int) + 1 := by omega
          have q3 : ((n : Int) + 1).toNat = n + 1 := by omega
          go_quiet (fail)
          clear q1 q2 q3
          go_wp2_with (go_at_call 12; refine (awake_any _).mono ?_; rintro e w5 ⟨rfl, b5⟩; replace hb := (below_drewN hb _).trans (b5.mono (below_drewN hb _).size))
          go_ret
          exact ⟨rfl, hb⟩
        · have e9 : (((s[n + 1]'h8).toNat : Int) != 45) = true := by rw [bne_iff_ne]; omega
          by_cases h10 : s[n]'hn = s[n + 1]'h8
          · have e10 : (((s[n]'hn).toNat : Int) != ((s[n + 1]'h8).toNat : Int)) = false := by rw [h10]; simp
            clear h9 h10
            have q1 : IntKind.i64.wrap ((n : Int) + 1) = (n : Int) + 1 := IntWalk.i64_in _ (by omega)
            have q2 : (0 : Int) ≤ (n : Int) + 1 := by omega
            have q3 : ((n : Int) + 1).toNat = n + 1 := by omega
            go_quiet (fail)
            clear q1 q2 q3
            go_wp2_with (go_at_call 12; refine (awake_any _).mono ?_; rintro e w5 ⟨rfl, b5⟩; replace hb := (below_drewN hb _).trans (b5.mono (below_drewN hb _).size))
            go_ret
            exact ⟨rfl, hb⟩
          · have e10 : (((s[n]'hn).toNat : Int) != ((s[n + 1]'h8).toNat : Int)) = true := by
              rw [bne_iff_ne]
              exact fun e => h10 (UInt8.toNat_inj.1 (by omega))
            have Hsw := Lib.hid (fun m f h => swapped_in s n h8 H45.out h9 h10 H0.out m f h)
            clear h9 h10
            have q1 : IntKind.i64.wrap ((n : Int) + 1) = (n : Int) + 1 := IntWalk.i64_in _ (by omega)
            have q2 : (0 : Int) ≤ (n : Int) + 1 := by omega
            have q3 : ((n : Int) + 1).toNat = n + 1 := by omega
            go_quiet (fail)
            clear q1 q2 q3
            have hcv2 := conv_two
            have gs1 := slice_to s (n : Int) (by omega) (by omega)
            have gs2 := slice_from s ((n : Int) + 2) (by omega) (by omega)
            have gn0 : (0 : Int) ≤ (n : Int) := by omega
            have gn1 : (n : Int) < (s.size : Int) := by omega
            have gn2 : (n : Int) + 1 < (s.size : Int) := by omega
            have gsum1 : IntKind.i64.wrap ((n : Int) + 1) = (n : Int) + 1 := IntWalk.i64_in _ (by omega)
            have gsum2 : IntKind.i64.wrap ((n : Int) + 2) = (n : Int) + 2 := IntWalk.i64_in _ (by omega)
            go_wp2_with fail
            go_region_with (go_at_call 15; refine (mark_shut _ _).mono ?_; rintro e w7 ⟨m3, f3, rfl, hm3, b7⟩)
            all_goals
              have hb7 := ((below_drewN hb _).alloc (below_drewN hb _).size (.cells #[.int .u8 ((s[n + 1]'h8).toNat : Int), .int .u8 ((s[n]'hn).toNat : Int)] 5)).trans (b7.mono ((below_drewN hb _).alloc (below_drewN hb _).size _).size)
              have hne := Hsw.out m3 f3 hm3.out
              rw [← hmf.out.1] at hne
              have e11 : (f3 != 0) = false := by rw [hne.1]; rfl
              have e12 : (m3 == m) = false := by rw [beq_eq_false_iff_ne]; exact hne.2
              clear hne
              replace hb := hb7
              go_wp2_with (go_at_call 12; refine (awake_any _).mono ?_; rintro e w5 ⟨rfl, b5⟩; replace hb := hb.trans (b5.mono hb.size))
              go_ret
              exact ⟨rfl, hb⟩
      · have e8 : decide (n + 1 < s.size) = false := by simp; omega
        have e8' : decide ((n : Int) + 1 < (s.size : Int)) = false := by simp; omega
        have e8'' : (s.size : Int) ≤ (n : Int) + 1 := by omega
        have q1 : IntKind.i64.wrap ((n : Int) + 1) = (n : Int) + 1 := IntWalk.i64_in _ (by omega)
        have q2 : (0 : Int) ≤ (n : Int) + 1 := by omega
        have q3 : ((n : Int) + 1).toNat = n + 1 := by omega
        go_quiet (fail)
        clear q1 q2 q3
        go_wp2_with (go_at_call 12; refine (awake_any _).mono ?_; rintro e w5 ⟨rfl, b5⟩; replace hb := (below_drewN hb _).trans (b5.mono (below_drewN hb _).size))
        go_ret
        exact ⟨rfl, hb⟩
    · have e6 : (f2 == 0) = false := by rw [beq_eq_false_iff_ne]; exact hf2
      clear hf2 hne
      go_wp2_with fail
      by_cases h8 : n + 1 < s.size
      · have hb9 : (s[n + 1]'h8).toNat < 256 := (s[n + 1]'h8).toNat_lt
        have e8 : (n : Int) + 1 < (s.size : Int) := by omega
        have qi := index_at s (n + 1) h8 ((n : Int) + 1) (by omega)
        by_cases h9 : (s[n + 1]'h8).toNat = 45
        · have e9 : (((s[n + 1]'h8).toNat : Int) != 45) = false := by simp [h9]
          clear h9
          have q1 : IntKind.i64.wrap ((n : Int) + 1) = (n : Int) + 1 := IntWalk.i64_in _ (by omega)
          have q2 : (0 : Int) ≤ (n : Int) + 1 := by omega
          have q3 : ((n : Int) + 1).toNat = n + 1 := by omega
          go_quiet (fail)
          clear q1 q2 q3
          go_wp2_with (go_at_call 12; refine (awake_any _).mono ?_; rintro e w5 ⟨rfl, b5⟩; replace hb := (below_drewN hb _).trans (b5.mono (below_drewN hb _).size))
          go_ret
          exact ⟨rfl, hb⟩
        · have e9 : (((s[n + 1]'h8).toNat : Int) != 45) = true := by rw [bne_iff_ne]; omega
          by_cases h10 : s[n]'hn = s[n + 1]'h8
          · have e10 : (((s[n]'hn).toNat : Int) != ((s[n + 1]'h8).toNat : Int)) = false := by rw [h10]; simp
            clear h9 h10
            have q1 : IntKind.i64.wrap ((n : Int) + 1) = (n : Int) + 1 := IntWalk.i64_in _ (by omega)
            have q2 : (0 : Int) ≤ (n : Int) + 1 := by omega
            have q3 : ((n : Int) + 1).toNat = n + 1 := by omega
            go_quiet (fail)
            clear q1 q2 q3
            go_wp2_with (go_at_call 12; refine (awake_any _).mono ?_; rintro e w5 ⟨rfl, b5⟩; replace hb := (below_drewN hb _).trans (b5.mono (below_drewN hb _).size))
            go_ret
            exact ⟨rfl, hb⟩
          · have e10 : (((s[n]'hn).toNat : Int) != ((s[n + 1]'h8).toNat : Int)) = true := by
              rw [bne_iff_ne]
              exact fun e => h10 (UInt8.toNat_inj.1 (by omega))
            have Hsw := Lib.hid (fun m f h => swapped_in s n h8 H45.out h9 h10 H0.out m f h)
            clear h9 h10
            have q1 : IntKind.i64.wrap ((n : Int) + 1) = (n : Int) + 1 := IntWalk.i64_in _ (by omega)
            have q2 : (0 : Int) ≤ (n : Int) + 1 := by omega
            have q3 : ((n : Int) + 1).toNat = n + 1 := by omega
            go_quiet (fail)
            clear q1 q2 q3
            have hcv2 := conv_two
            have gs1 := slice_to s (n : Int) (by omega) (by omega)
            have gs2 := slice_from s ((n : Int) + 2) (by omega) (by omega)
            have gn0 : (0 : Int) ≤ (n : Int) := by omega
            have gn1 : (n : Int) < (s.size : Int) := by omega
            have gn2 : (n : Int) + 1 < (s.size : Int) := by omega
            have gsum1 : IntKind.i64.wrap ((n : Int) + 1) = (n : Int) + 1 := IntWalk.i64_in _ (by omega)
            have gsum2 : IntKind.i64.wrap ((n : Int) + 2) = (n : Int) + 2 := IntWalk.i64_in _ (by omega)
            go_wp2_with fail
            go_region_with (go_at_call 15; refine (mark_shut _ _).mono ?_; rintro e w7 ⟨m3, f3, rfl, hm3, b7⟩)
            all_goals
              have hb7 := ((below_drewN hb _).alloc (below_drewN hb _).size (.cells #[.int .u8 ((s[n + 1]'h8).toNat : Int), .int .u8 ((s[n]'hn).toNat : Int)] 5)).trans (b7.mono ((below_drewN hb _).alloc (below_drewN hb _).size _).size)
              have hne := Hsw.out m3 f3 hm3.out
              rw [← hmf.out.1] at hne
              have e11 : (f3 != 0) = false := by rw [hne.1]; rfl
              have e12 : (m3 == m) = false := by rw [beq_eq_false_iff_ne]; exact hne.2
              clear hne
              replace hb := hb7
              go_wp2_with (go_at_call 12; refine (awake_any _).mono ?_; rintro e w5 ⟨rfl, b5⟩; replace hb := hb.trans (b5.mono hb.size))
              go_ret
              exact ⟨rfl, hb⟩
      · have e8 : decide (n + 1 < s.size) = false := by simp; omega
        have e8' : decide ((n : Int) + 1 < (s.size : Int)) = false := by simp; omega
        have e8'' : (s.size : Int) ≤ (n : Int) + 1 := by omega
        have q1 : IntKind.i64.wrap ((n : Int) + 1) = (n : Int) + 1 := IntWalk.i64_in _ (by omega)
        have q2 : (0 : Int) ≤ (n : Int) + 1 := by omega
        have q3 : ((n : Int) + 1).toNat = n + 1 := by omega
        go_quiet (fail)
        clear q1 q2 q3
        go_wp2_with (go_at_call 12; refine (awake_any _).mono ?_; rintro e w5 ⟨rfl, b5⟩; replace hb := (below_drewN hb _).trans (b5.mono (below_drewN hb _).size))
        go_ret
        exact ⟨rfl, hb⟩

set_option maxRecDepth 100000 in
set_option maxHeartbeats 4000000 in
theorem serialMarks_walk (w : World) (s : ByteArray) (_hs : s.size ≤ maxLen) (k : Int) (hk : (Lit.int .i64 k).wf = true) (y : Int) (hy : (Lit.int .u8 y).wf = true) :
    Calls Try.prog 7 #[.string s, .int .i64 k, .int .u8 y] w fun e w' => e = .returned (.bool true) ∧ Below w.heap.size w w' := by
  have hb := Below.refl w.heap.size w
  have hk1 := bounds_i64 hk
  obtain ⟨by8, rfl⟩ : ∃ c : UInt8, y = (c.toNat : Int) := by
    have h2 : 0 ≤ y ∧ y ≤ 255 := by simpa [Lit.wf, IntKind.min, IntKind.max, IntKind.signed, IntKind.bits] using hy
    refine ⟨UInt8.ofNat y.toNat, ?_⟩
    have : (UInt8.ofNat y.toNat).toNat = y.toNat % 256 := rfl
    omega
  clear hk hy
  rcases check_two s.data.toList with h0 | h0
  · by_cases hin : 0 ≤ k ∧ k < s.size
    · obtain ⟨n, rfl⟩ : ∃ n : Nat, k = n := ⟨k.toNat, by omega⟩
      have hn : n < s.size := by omega
      by_cases h45 : (s[n]'hn).toNat = 45
      · have hb8 : (s[n]'hn).toNat < 256 := (s[n]'hn).toNat_lt
        have e5 : (((s[n]'hn).toNat : Int) == 45) = true := by simp [h45]
        clear h45 hin
        have hms := mark_bd s.data.toList
        have hmv := mark_value h0
        have H0 := Lib.hid h0
        clear h0
        go_enter Try.func7, Try.ntmps7
        go_wp2_with fail
        refine (mark_shut _ _).mono ?_
        rintro e w1 ⟨m, f, rfl, hmf, b1⟩
        replace hb := hb.trans (b1.mono hb.size)
        obtain rfl : f = 0 := hmf.out.2.trans H0.out
        rw [← hmf.out.1] at hms hmv
        obtain ⟨hm0, hm1⟩ := hms
        go_wp2_with (first | (go_at_call 10; refine (value_any _ (WalkArith.wf_i32 (by omega)) _).mono ?_; rintro e w4 ⟨rfl, rfl⟩) | (go_at_call 12; refine (awake_any _).mono ?_; rintro e w5 ⟨rfl, b5⟩; replace hb := hb.trans (b5.mono hb.size)))
        go_ret
        exact ⟨rfl, hb⟩
      · by_cases hd5 : by8.toNat = 45
        · exact marks_dash w s n hn by8 h0 h45 hd5
        · by_cases hcd : s[n]'hn = by8
          · exact marks_same w s n hn by8 h0 h45 hd5 hcd
          · exact marks_other w s n hn by8 h0 h45 hd5 hcd
    · have hin' : k < 0 ∨ (s.size : Int) ≤ k := by omega
      clear hin
      rcases hin' with hin' | hin'
      · have hms := mark_bd s.data.toList
        have hmv := mark_value h0
        have H0 := Lib.hid h0
        clear h0
        go_enter Try.func7, Try.ntmps7
        go_wp2_with fail
        refine (mark_shut _ _).mono ?_
        rintro e w1 ⟨m, f, rfl, hmf, b1⟩
        replace hb := hb.trans (b1.mono hb.size)
        obtain rfl : f = 0 := hmf.out.2.trans H0.out
        rw [← hmf.out.1] at hms hmv
        obtain ⟨hm0, hm1⟩ := hms
        go_wp2_with (first | (go_at_call 10; refine (value_any _ (WalkArith.wf_i32 (by omega)) _).mono ?_; rintro e w4 ⟨rfl, rfl⟩) | (go_at_call 12; refine (awake_any _).mono ?_; rintro e w5 ⟨rfl, b5⟩; replace hb := hb.trans (b5.mono hb.size)))
        go_ret
        exact ⟨rfl, hb⟩
      · have hms := mark_bd s.data.toList
        have hmv := mark_value h0
        have H0 := Lib.hid h0
        clear h0
        go_enter Try.func7, Try.ntmps7
        go_wp2_with fail
        refine (mark_shut _ _).mono ?_
        rintro e w1 ⟨m, f, rfl, hmf, b1⟩
        replace hb := hb.trans (b1.mono hb.size)
        obtain rfl : f = 0 := hmf.out.2.trans H0.out
        rw [← hmf.out.1] at hms hmv
        obtain ⟨hm0, hm1⟩ := hms
        go_wp2_with (first | (go_at_call 10; refine (value_any _ (WalkArith.wf_i32 (by omega)) _).mono ?_; rintro e w4 ⟨rfl, rfl⟩) | (go_at_call 12; refine (awake_any _).mono ?_; rintro e w5 ⟨rfl, b5⟩; replace hb := hb.trans (b5.mono hb.size)))
        go_ret
        exact ⟨rfl, hb⟩
  · have hm := mark_none h0
    have H0 := Lib.hid h0
    have Hm := Lib.hid hm
    clear h0 hm
    go_enter Try.func7, Try.ntmps7
    go_wp2_with fail
    refine (mark_shut _ _).mono ?_
    rintro e w1 ⟨m, f, rfl, hmf, b1⟩
    replace hb := hb.trans (b1.mono hb.size)
    obtain rfl : m = 0 := hmf.out.1.trans Hm.out
    obtain rfl : f = 9 := hmf.out.2.trans H0.out
    go_wp2_with (go_at_call 12; refine (awake_any _).mono ?_; rintro e w5 ⟨rfl, b5⟩; replace hb := hb.trans (b5.mono hb.size))
    go_ret
    exact ⟨rfl, hb⟩
end Go.Proofs.Ytjkdfagkdgghpaa
