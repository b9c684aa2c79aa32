/- The program's sums: its closure by the table of sixteen, On, Of, the four bytes, Seal, Unseal, the product of two sums, the move, Both, in every world in which the table lies. -/
import Derived.Test.YtcbmecpeockdeaaGreatDoorMByte
import Derived.Test.YtcbmecpeockdeaaGreatDoorRef7
import Derived.Test.YtcbmecpeockdeaaGreatDoorShelf
import Derived.Deep.LoopGhost
import Derived.Deep.QuietTactic
import Derived.BigQuiet
namespace Go.Proofs.YtcbmecpeockdeaaGreatDoor
open Go.RowKit

/-- The table of sixteen lies where the program's variable lies. -/
def Tab (w : World) : Prop := 0 < w.heap.size ∧ ∀ i, i < 16 → w.cell? ⟨0, i, none⟩ = some (.int .u32 (tabN i : Nat))
theorem Tab.below {w w' : World} (h : Tab w) (hb : Below w.heap.size w w') : Tab w' :=
  ⟨Nat.lt_of_lt_of_le h.1 hb.size, fun i hi => (hb.cell (p := ⟨0, i, none⟩) h.1).trans (h.2 i hi)⟩
theorem Tab.drew {w : World} (h : Tab w) : Tab w.drew := h.below ((Below.refl _ w).drew)
theorem Tab.drewN {w : World} (h : Tab w) (m : Nat) : Tab (w.drewN m) := ⟨h.1, h.2⟩
theorem below_drewN (w : World) (m : Nat) : Below w.heap.size w (w.drewN m) := ⟨rfl, rfl, rfl, Nat.le_refl _, fun _ _ => rfl⟩
theorem Tab.alloc {w : World} (h : Tab w) (o : Obj) : Tab (w.alloc o) := h.below ((Below.refl _ w).alloc (Nat.le_refl _) o)

/-- A variable of the call's own that holds a sum. -/
structure Acc7 (B : Nat) (w : World) (bx N : Nat) (w' : World) : Prop where
  old : Below B w w'
  at' : B ≤ bx
  cell : w'.cell? ⟨bx, 0, none⟩ = some (.int .u32 (N : Nat))
  froz : w'.frozen? ⟨bx, 0, none⟩ = false

theorem Acc7.set {B bx N : Nat} {w0 w : World} (h : Acc7 B w0 bx N w) (M : Nat) : Acc7 B w0 bx M (w.setCell ⟨bx, 0, none⟩ (.int .u32 (M : Nat))) :=
  ⟨h.old.setCell h.at' _, h.at', World.cell?_setCell_same _ _ _ h.cell, by rw [World.frozen?_setCell]; exact h.froz⟩
theorem Acc7.drew {B bx N : Nat} {w0 w : World} (h : Acc7 B w0 bx N w) : Acc7 B w0 bx N w.drew := ⟨h.old.drew, h.at', h.cell, h.froz⟩
theorem not32 (a : Nat) (h : a < 4294967296) : bits BinOp.xor IntKind.u32 IntKind.u32.max (a : Int) = ((4294967295 - a : Nat) : Int) := by
  rw [turn_xor h]; exact xor32 4294967295 a (by omega) h
theorem xor_u8 (a b : Nat) (ha : a < 256) (hb : b < 256) : bits BinOp.xor IntKind.u8 (a : Int) (b : Int) = ((a ^^^ b : Nat) : Int) := by
  have e1 : ∀ c : Nat, c < 256 → (BitVec.ofInt 8 (c : Int)).toNat = c := fun c h => by rw [BitVec.toNat_ofInt]; omega
  show IntKind.u8.wrap ((BitVec.ofInt 8 (a : Int) ^^^ BitVec.ofInt 8 (b : Int)).toNat : Int) = _
  rw [BitVec.toNat_xor, e1 a ha, e1 b hb]
  have := Nat.xor_lt_two_pow (n := 8) (show a < 2 ^ 8 by omega) (show b < 2 ^ 8 by omega)
  exact IntWalk.u8_in _ (by omega)

set_option maxHeartbeats 1000000 in
theorem chalf_any (bx N h : Nat) (hN : N < 4294967296) (hh : h < 16) (w0 w : World) (hT : Tab w0) (hS : Acc7 w0.heap.size w0 bx N w) :
    Calls Tryz.prog 126 #[.int .u8 h, .pointer (some ⟨bx, 0, none⟩)] w fun e w' => e = .returned (.tuple #[]) ∧ Acc7 w0.heap.size w0 bx (runB N (bits4 h)) w' := by
  have hc := hS.cell
  have hf := hS.froz
  have hx8 : bits BinOp.xor IntKind.u8 ((N : Int) % 16) (h : Int) = ((N % 16 ^^^ h : Nat) : Int) := by
    have := xor_u8 (N % 16) h (by omega) (by omega)
    rw [Int.natCast_emod] at this
    exact this
  have hHL : N % 16 ^^^ h < 16 := half_lt hh
  have hTl := tab_lt _ hHL
  have hg := (hT.below hS.old).2 _ hHL
  have HR := Lib.hid (half_step (n := N) hh)
  have hx : bits BinOp.xor IntKind.u32 ((N : Int) / 16) (tabN (N % 16 ^^^ h) : Int) = ((N / 16 ^^^ tabN (N % 16 ^^^ h) : Nat) : Int) := by
    have := xor32 (N / 16) (tabN (N % 16 ^^^ h)) (by omega) hTl
    rw [Int.natCast_ediv] at this
    exact this
  generalize tabN (N % 16 ^^^ h) = V at *
  generalize N % 16 ^^^ h = H at *
  go_enter Tryz.func126, Tryz.ntmps126
  go_wp2
  go_region
  all_goals
    go_end0
    exact ⟨rfl, by rw [HR.out]; exact (hS.set _).drew⟩

set_option maxRecDepth 100000 in
set_option maxHeartbeats 2000000 in
theorem con_any (sum : Nat) (hn : sum < 4294967296) (s : ByteArray) (hs : s.size ≤ 4611686018427387904) (w : World) (hT : Tab w) :
    Calls Tryz.prog 103 #[.int .u32 sum, .string s] w fun e w' => e = .returned (.int .u32 (onN sum s.data.toList : Nat)) ∧ Below w.heap.size w w' := by
  have hmf : ∀ (fn : Fn) (first cap : Array Value) (w : World), (Instr.makeFunc fn first cap).run Tryz.prog w = .ok (.func fn first cap) w := fun _ _ _ _ => rfl
  have hun := not32 sum hn
  have HR : Hid (∀ j, (h : j < s.size) → runB (runB (regOn (4294967295 - sum) (s.data.toList.take j)) (bits4 (s[j].toNat % 16))) (bits4 (s[j].toNat / 16)) = regOn (4294967295 - sum) (s.data.toList.take (j + 1))) := Lib.hid fun j h => by
    rw [reg_halves]; exact (reg_take _ s.data.toList j (by simpa using h)).symm
  have HL : Hid (∀ j, regOn (4294967295 - sum) (s.data.toList.take j) < 4294967296) := Lib.hid fun j => reg_lt (by omega) _
  have HE : Hid (onN sum s.data.toList = 4294967295 - regOn (4294967295 - sum) (s.data.toList.take s.size)) := Lib.hid (by
    unfold onN; rw [List.take_of_length_le (by simp)])
  have H0 : Hid (regOn (4294967295 - sum) (s.data.toList.take 0) = 4294967295 - sum) := Lib.hid rfl
  generalize onN sum s.data.toList = R at *
  generalize (4294967295 - sum : Nat) = T at *
  obtain ⟨W, hW⟩ : ∃ W, W = w.alloc (.cells #[.int .u32 (T : Nat)] 127) := ⟨_, rfl⟩
  have hA : Hid (Acc7 w.heap.size w w.heap.size T W) := Lib.hid (by
    rw [hW]
    exact ⟨(Below.refl _ w).alloc (Nat.le_refl _) _, Nat.le_refl _, by simp, by simp⟩)
  have HC : Hid (∀ (x : Int) (h N : Nat) (v : World), x = h → h < 16 → N < 4294967296 → Hid (Acc7 w.heap.size w w.heap.size N v) → Calls Tryz.prog 126 #[.int .u8 x, .pointer (some ⟨w.heap.size, 0, none⟩)] v fun e w' => e = .returned (.tuple #[]) ∧ Hid (Acc7 w.heap.size w w.heap.size (runB N (bits4 h)) w')) :=
    Lib.hid fun x h N v hx hh hN hS => by
      subst hx
      exact (chalf_any w.heap.size N h hN hh w v hT hS.out).mono fun _ _ h => ⟨h.1, Lib.hid h.2⟩
  clear hn
  go_enter Tryz.func103, Tryz.ntmps103
  go_wp2
  rw [← hW]
  clear hW
  go_loopw [12] (fun i' wr => ∃ j : Nat, i' = .int .i64 j ∧ j ≤ s.size ∧ Hid (Acc7 w.heap.size w w.heap.size (regOn T (s.data.toList.take j)) wr)) (fun i _ => s.size - (intOf i).toNat)
  case atStart => exact ⟨0, rfl, by omega, by rw [H0.out]; exact hA⟩
  case round =>
    clear hA
    obtain ⟨j, rfl, hj, hS⟩ := hrel
    by_cases hlt : j < s.size
    · have HRj := Lib.hid (HR.out j hlt)
      have hNl := HL.out j
      have i1 : (j : Int) < (s.size : Int) := by omega
      have hcb : (s[j]).toNat < 256 := (s[j]).toNat_lt
      generalize regOn T (s.data.toList.take j) = N at *
      go_upto_region 7 with (go_at_call 126; refine (HC.out _ ((s[j]).toNat % 16) N _ (by omega) (by omega) hNl hS).mono ?_; rintro e w1 ⟨rfl, hS1⟩)
      have hN1 : runB N (bits4 ((s[j]).toNat % 16)) < 4294967296 := run_lt hNl
      generalize runB N (bits4 ((s[j]).toNat % 16)) = N1 at *
      go_wp2_with (go_at_call 126; refine (HC.out _ ((s[j]).toNat / 16) N1 _ (by omega) (by omega) hN1 hS1).mono ?_; rintro e w2 ⟨rfl, hS2⟩)
      go_roundw
      case rel => exact ⟨j + 1, by go_num, by omega, by rw [← HRj.out]; exact hS2⟩
      case measure => simp [intOf]; omega
    · obtain rfl : j = s.size := by omega
      have hNl := HL.out s.size
      have HE2 := Lib.hid HE.out
      generalize regOn T (s.data.toList.take s.size) = N at *
      have hc := hS.out.cell
      have hun2 := not32 N hNl
      go_wp2
      go_ret
      exact ⟨by rw [HE2.out]; rfl, hS.out.old⟩

theorem cof_any (s : ByteArray) (hs : s.size ≤ 4611686018427387904) (w : World) (hT : Tab w) :
    Calls Tryz.prog 80 #[.string s] w fun e w' => e = .returned (.int .u32 (ofN s.data.toList : Nat)) ∧ Below w.heap.size w w' := by
  have HC := Lib.hid (con_any 0 (by omega) s hs w hT)
  go_enter Tryz.func80, Tryz.ntmps80
  go_wp2_with (go_at_call 103; refine HC.out.mono ?_; rintro e w1 ⟨rfl, b1⟩)
  go_ret
  exact ⟨rfl, b1⟩

theorem clow_any (n : Nat) (hn : n < 4294967296) (w : World) :
    Calls Tryz.prog 79 #[.int .u32 n] w fun e w' => e = .returned (.string (fourT n)) ∧ Below w.heap.size w w' := by
  have hcv := conv_four
  have u3 : UInt8.ofNat (n / 16777216) = UInt8.ofNat (n / 16777216 % 256) := by rw [Nat.mod_eq_of_lt (by omega)]
  have hf : (⟨#[UInt8.ofNat (n % 256), UInt8.ofNat (n / 256 % 256), UInt8.ofNat (n / 65536 % 256), UInt8.ofNat (n / 16777216)]⟩ : ByteArray) = fourT n := by rw [u3]; rfl
  have HF := Lib.hid hf
  clear u3 hf
  go_enter Tryz.func79, Tryz.ntmps79
  go_wp2
  go_ret
  exact ⟨by rw [← HF.out]; rfl, (Below.refl _ _).alloc (Nat.le_refl _) _⟩

theorem cseal_any (s : ByteArray) (hs : s.size ≤ 4611686018427387904) (w : World) (hT : Tab w) :
    Calls Tryz.prog 57 #[.string s] w fun e w' => e = .returned (.string (s ++ fourT (ofN s.data.toList))) ∧ Below w.heap.size w w' := by
  have HO := Lib.hid (cof_any s hs w hT)
  have HF := Lib.hid (clow_any (ofN s.data.toList) (on_lt 0 _))
  have hsz : ¬ 9223372036854775807 < s.size + (fourT (ofN s.data.toList)).size := by rw [fourT_size]; omega
  generalize fourT (ofN s.data.toList) = F at *
  generalize ofN s.data.toList = O at *
  go_enter Tryz.func57, Tryz.ntmps57
  go_wp2_with (first | (go_at_call 80; refine HO.out.mono ?_; rintro e w1 ⟨rfl, b0⟩) | (go_at_call 79; refine (HF.out _).mono ?_; rintro e w1 ⟨rfl, b1⟩))
  go_ret
  exact ⟨rfl, b0.trans (b1.mono b0.size)⟩

theorem cclone_any (s : ByteArray) (hs : s.size ≤ 281474976710656) (w : World) :
    Calls Tryz.prog 29 #[.string s] w fun e w' => e = .returned (.string s) ∧ Below w.heap.size w w' := by
  have HC : Hid (∀ v, Calls Tryz.prog 48 #[.string s] v fun e w' => e = .returned (.string s) ∧ Below v.heap.size v w') := Lib.hid fun v => Tryz.stringslite_Clone s v hs
  go_enter Tryz.func29, Tryz.ntmps29
  go_wp2_with (go_at_call 48; refine (HC.out _).mono ?_; rintro e w1 ⟨rfl, hb⟩)
  go_ret
  exact ⟨rfl, hb⟩

theorem same_four (n : Nat) (u : ByteArray) : (u.toList == (fourT n).toList) = decide (fourL n = u.data.toList) := by
  rw [← four_same, Bool.eq_iff_iff, beq_iff_eq, beq_iff_eq]; exact ⟨Eq.symm, Eq.symm⟩
set_option maxHeartbeats 1000000 in
theorem cunseal_any (s : ByteArray) (hs : s.size ≤ 281474976710656) (w : World) (hT : Tab w) :
    Calls Tryz.prog 66 #[.string s] w fun e w' => ∃ t : ByteArray, e = .returned (.tuple #[.string t, .int .i64 (unE s.data.toList)]) ∧ Hid (t.data.toList = unL s.data.toList) ∧ Below w.heap.size w w' := by
  have hz := text_size s
  have hbad : unE s.data.toList ≠ 0 → unL s.data.toList = [] := fun h => by unfold unL; rw [if_neg h]
  by_cases h4 : s.size < 4
  · have he : unE s.data.toList = 4 := by unfold unE; rw [hz, if_pos h4]
    have hl := hbad (by omega)
    rw [he, hl]
    clear hbad he hl hz
    go_enter Tryz.func66, Tryz.ntmps66
    go_wp2
    go_ret2
    exact ⟨_, rfl, Lib.hid rfl, Below.refl _ _⟩
  · obtain ⟨n, hn⟩ : ∃ n, s.size = n + 4 := ⟨s.size - 4, by omega⟩
    have ht : (s.extract 0 n).data.toList = s.data.toList.take (s.data.toList.length - 4) := by rw [cut_list, hz, hn]; simp
    have hd : (s.extract n s.size).data.toList = s.data.toList.drop (s.data.toList.length - 4) := by
      rw [cut_list, hz, hn, Nat.add_sub_cancel, List.take_of_length_le (by rw [List.length_drop, hz]; omega)]
    have hts : (s.extract 0 n).size ≤ 281474976710656 := by simp; omega
    have HO : Hid (∀ v, Tab v → Calls Tryz.prog 80 #[.string (s.extract 0 n)] v fun e w' => e = .returned (.int .u32 (ofN (s.extract 0 n).data.toList : Nat)) ∧ Below v.heap.size v w') := Lib.hid fun v h => cof_any (s.extract 0 n) (by omega) v h
    have HF := Lib.hid (clow_any (ofN (s.extract 0 n).data.toList) (on_lt 0 _))
    have HC := Lib.hid (cclone_any (s.extract 0 n) hts)
    have hU : unE s.data.toList = if fourL (ofN (s.extract 0 n).data.toList) = (s.extract n s.size).data.toList then 0 else 7 := by
      unfold unE; rw [if_neg (by omega), ht, hd]
    have hL : unE s.data.toList = 0 → unL s.data.toList = (s.extract 0 n).data.toList := fun h => by unfold unL; rw [if_pos h, ht]
    have hs1 := cut_to s (n : Int) (by omega) (by omega)
    have hs2 := cut_from s (n : Int) (by omega) (by omega)
    have hm4 : IntKind.i64.wrap ((s.size : Int) - 4) = (n : Int) := by rw [IntWalk.i64_in _ (by omega)]; omega
    have hq := same_four (ofN (s.extract 0 n).data.toList) (s.extract n s.size)
    simp only [Int.toNat_natCast] at hs1 hs2
    generalize s.extract 0 n = T at *
    generalize s.extract n s.size = D at *
    generalize fourT (ofN T.data.toList) = F at *
    by_cases he : fourL (ofN T.data.toList) = D.data.toList
    · rw [if_pos he] at hU
      rw [decide_eq_true he] at hq
      have hL2 := Lib.hid (hL hU).symm
      rw [hU]
      clear hbad hz hU hL ht hd he
      go_enter Tryz.func66, Tryz.ntmps66
      go_wp2
      go_quiet (fail)
      go_wp2_with (first
        | (go_at_call 80; refine (HO.out _ (hT.drewN nq)).mono ?_; rintro e w1 ⟨rfl, b0⟩)
        | (go_at_call 79; refine (HF.out _).mono ?_; rintro e w2 ⟨rfl, b1⟩)
        | (go_at_call 29; refine (HC.out _).mono ?_; rintro e w3 ⟨rfl, b2⟩))
      go_ret2
      exact ⟨_, rfl, hL2, (below_drewN w nq).trans ((b0.trans (b1.mono b0.size)).trans (b2.mono (b0.trans (b1.mono b0.size)).size))⟩
    · rw [if_neg he] at hU
      rw [decide_eq_false he] at hq
      have hl := hbad (by omega)
      rw [hU, hl]
      clear hbad hz hU hL ht hd he hl
      go_enter Tryz.func66, Tryz.ntmps66
      go_wp2
      go_quiet (fail)
      go_wp2_with (first
        | (go_at_call 80; refine (HO.out _ (hT.drewN nq)).mono ?_; rintro e w1 ⟨rfl, b0⟩)
        | (go_at_call 79; refine (HF.out _).mono ?_; rintro e w2 ⟨rfl, b1⟩))
      go_ret2
      exact ⟨_, rfl, Lib.hid rfl, (below_drewN w nq).trans (b0.trans (b1.mono b0.size))⟩

end Go.Proofs.YtcbmecpeockdeaaGreatDoor
