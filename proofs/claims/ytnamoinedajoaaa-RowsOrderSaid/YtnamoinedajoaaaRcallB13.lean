/- The program's lists with one less, and their last ones: slices.Grow and slices.Concat of two by hand, slices.Clone by its contract. -/
import Derived.Test.YtnamoinedajoaaaRcall13
import Derived.Test.YtnamoinedajoaaaRef13
import Derived.Test.YtnamoinedajoaaaShelf
import Derived.Lib.AppendZeros
namespace Go.Proofs.Ytnamoinedajoaaa
open Go.RowKit

theorem run_grow (n : Nat) (h0 : 0 < n) (hn : n ≤ 200000) (ty : TypeId) (w : World) : ∃ (c : Nat) (V : World), (Builtin.append_ #[30, 3] ty #[.slice none 0 0, .int .i64 n]).run Try.prog w = .ok (.slice (some ⟨w.heap.size, 0, none⟩) n c) V ∧ n ≤ c ∧
    V.ownsRow w.heap.size 9 1 (.slice (some ⟨w.heap.size, 0, none⟩) 0 c) 0 [] ∧ Below w.heap.size w V := by
  obtain ⟨i0, hi, hz0, hz1, hz2⟩ := info_parts infoTx
  have hb : n * i0.bytes ≤ 281474976710656 := by rw [hz2]; omega
  have hr := Lib.run_append_nil_zeros (P := Try.prog) w 30 3 ty 9 i0 _ .i64 .i64 Try.underlying30 Try.underlying3 hi hz0 n h0 (by omega) (by omega) hb
  have hge := grownCap_ge w n 0 9
  have hcm : grownCap w n 0 9 ≤ maxLen := grownCap_le_maxLen w n 0 _ (by unfold maxLen; omega)
  refine ⟨_, _, hr, hge, ⟨by simp, .inr ⟨w.heap.size, _, _, rfl, Nat.le_refl _, heap_alloc_new w.drew _, Nat.zero_le _, hcm, ?_, by simp⟩⟩, (Below.refl _ w).drew.alloc (by simp) _⟩
  simp only [Array.size_append, size_zeroCells]
  show n * 1 + (grownCap w n 0 9 - n) * 1 = grownCap w n 0 9 * 1
  omega
set_option maxHeartbeats 1000000 in
theorem pgrow_any (n : Nat) (hn : n ≤ 200000) (w : World) :
    Calls Try.prog 35 #[.slice none 0 0, .int .i64 n] w fun e w' => ∃ v, e = .returned v ∧ w'.ownsRow w.heap.size 9 1 v 0 [] ∧ Below w.heap.size w w' := by
  have d0 : decide ((n : Int) < 0) = false := decide_eq_false (by omega)
  have i1 : IntKind.i64.wrap (n : Int) = (n : Int) := IntWalk.i64_in _ (by omega)
  rcases Nat.eq_zero_or_pos n with h0 | h0
  · subst h0
    go_enter Try.func35, Try.ntmps35
    go_wp2
    go_ret
    exact ⟨.slice none 0 0, rfl, World.ownsRow_nil _ _ _ _, Below.refl _ _⟩
  · have d1 : decide ((0 : Int) < (n : Int)) = true := decide_eq_true (by omega)
    have d1' : decide (0 < n) = true := decide_eq_true h0
    obtain ⟨c, V, hr, hc, ho, hb⟩ := run_grow n h0 hn 30 w
    have hs0 : ∀ W, (Instr.slice 30 (.slice none 0 0) none (some (.int .i64 0)) none).run Try.prog W = .ok (.slice none 0 0) W := fun W => row_to sl_tx sz_tx none 0 0 0 (Nat.le_refl _) (Nat.le_refl _) W
    have hs1 : ∀ W, (Instr.slice 30 (.slice (some ⟨w.heap.size, 0, none⟩) n c) none (some (.int .i64 0)) none).run Try.prog W = .ok (.slice (some ⟨w.heap.size, 0, none⟩) 0 c) W := fun W => row_to sl_tx sz_tx _ n c 0 (Nat.zero_le _) hc W
    have HR := Lib.hid hr
    have HO := Lib.hid (And.intro ho hb)
    clear hr ho hb
    go_enter Try.func35, Try.ntmps35
    go_wp2_with (at_builtin; refine Lib.wpList_append_run w rfl _ _ 30 3 rfl _ _ rfl rfl _ _ HR.out ?_)
    go_ret
    exact ⟨_, rfl, HO.out.1, HO.out.2⟩
set_option maxHeartbeats 4000000 in
theorem pconcat_two (b n1 n2 c1 c2 : Nat) (a1 a2 : Option Addr) (cs1 cs2 : List Value) (A B : Nat) (w : World) (h0 : w.cell? ⟨b, 0, none⟩ = some (.slice a1 n1 c1)) (h1 : w.cell? ⟨b, 1, none⟩ = some (.slice a2 n2 c2)) (hl1 : cs1.length = n1) (hl2 : cs2.length = n2)
    (hn : n1 + n2 ≤ 100000) (hx1 : Rw A B w a1 cs1) (hx2 : Rw A B w a2 cs2) (hB : B ≤ w.heap.size) (ho1 : ∀ u ∈ cs1, u.oneCell' = true) (ho2 : ∀ u ∈ cs2, u.oneCell' = true) :
    Calls Try.prog 29 #[.slice (some ⟨b, 0, none⟩) 2 2] w fun e w' => ∃ v, e = .returned v ∧ w'.ownsRow w.heap.size 9 1 v (n1 + n2) (cs1 ++ cs2) ∧ Below w.heap.size w w' := by
  have hb := World.block_lt_of_cell? w _ h0
  have HC : Hid (∀ V, Below w.heap.size w V → V.cell? ⟨b, 0, none⟩ = some (.slice a1 n1 c1) ∧ V.cell? ⟨b, 1, none⟩ = some (.slice a2 n2 c2)) := Lib.hid fun V hV => ⟨(hV.cell (p := ⟨b, 0, none⟩) hb).trans h0, (hV.cell (p := ⟨b, 1, none⟩) hb).trans h1⟩
  have HX : Hid (∀ V, Below w.heap.size w V → Rw A B V a1 cs1 ∧ Rw A B V a2 cs2) := Lib.hid fun V hV => ⟨hx1.below (hV.mono hB), hx2.below (hV.mono hB)⟩
  have HG : Hid (∀ W, Calls Try.prog 35 #[.slice none 0 0, .int .i64 ((n1 : Int) + (n2 : Int))] W fun e w' => ∃ v, e = .returned v ∧ w'.ownsRow W.heap.size 9 1 v 0 [] ∧ Below W.heap.size W w') := Lib.hid fun W => by
    have := pgrow_any (n1 + n2) (by omega) W
    rw [Int.natCast_add] at this
    exact this
  have HO1 := Lib.hid ho1
  have HO2 := Lib.hid ho2
  have HL := Lib.hid (And.intro hl1 hl2)
  have i1 : IntKind.i64.wrap (n1 : Int) = (n1 : Int) := IntWalk.i64_in _ (by omega)
  have i2 : IntKind.i64.wrap ((n1 : Int) + (n2 : Int)) = (n1 : Int) + (n2 : Int) := IntWalk.i64_in _ (by omega)
  have d1 : decide ((n1 : Int) < 0) = false := decide_eq_false (by omega)
  have d2 : decide ((n1 : Int) + (n2 : Int) < 0) = false := decide_eq_false (by omega)
  clear hx1 hx2 hB ho1 ho2 hl1 hl2
  go_enter Try.func29, Try.ntmps29
  go_wp2
  go_loop [3, 11] (fun s3 s11 => (s11 = .int .i64 0 ∧ s3 = .int .i64 0) ∨ (s11 = .int .i64 1 ∧ s3 = .int .i64 (n1 : Int)) ∨ (s11 = .int .i64 2 ∧ s3 = .int .i64 ((n1 : Int) + (n2 : Int)))) (fun _ i => 2 - (intOf i).toNat)
  case atStart => exact Or.inl ⟨rfl, rfl⟩
  case round =>
    rcases hrel with ⟨rfl, rfl⟩ | ⟨rfl, rfl⟩ | ⟨rfl, rfl⟩
    · go_wp2
      go_round
      case rel => exact Or.inr (Or.inl ⟨rfl, rfl⟩)
      case measure => simp [intOf]
    · go_wp2
      go_round
      case rel => exact Or.inr (Or.inr ⟨rfl, rfl⟩)
      case measure => simp [intOf]
    · go_wp2_with (go_at_call 35; refine (HG.out _).mono ?_; rintro e w2 ⟨v0, rfl, ho, hb2⟩)
      have HV0 : Hid (w2.ownsRow w.heap.size 9 1 v0 0 [] ∧ Below w.heap.size w w2) := Lib.hid ⟨ho, hb2⟩
      clear ho hb2
      go_loopw [6, 27] (fun s6 s27 wr => (s27 = .int .i64 0 ∧ Hid (wr.ownsRow w.heap.size 9 1 s6 0 [] ∧ Below w.heap.size w wr)) ∨ (s27 = .int .i64 1 ∧ Hid (wr.ownsRow w.heap.size 9 1 s6 n1 cs1 ∧ Below w.heap.size w wr)) ∨ (s27 = .int .i64 2 ∧ Hid (wr.ownsRow w.heap.size 9 1 s6 (n1 + n2) (cs1 ++ cs2) ∧ Below w.heap.size w wr))) (fun _ i _ => 2 - (intOf i).toNat)
      case atStart => exact Or.inl ⟨rfl, HV0⟩
      case round =>
        rcases hrel with ⟨rfl, hr⟩ | ⟨rfl, hr⟩ | ⟨rfl, hr⟩
        · obtain ⟨q0, q1⟩ := HC.out wr hr.out.2
          have hrw := HX.out wr hr.out.2
          have HRW := Lib.hid hrw.1
          clear hrw
          go_wp2_with (at_builtin; refine append_rw rfl _ _ Try.underlying30 infoTx rfl rfl w.heap.size 0 _ [] cs1 rfl hr.out.1 a1 n1 c1 A B rfl HL.out.1 HRW.out HO1.out (by omega) (by decide) hr.out.2.size ?_)
          intro v3 w3 ho3 hg3
          have HN : Hid (w3.ownsRow w.heap.size 9 1 v3 n1 cs1 ∧ Below w.heap.size w w3) := Lib.hid ⟨ho3, below_own hr.out.2 hr.out.1 (Nat.le_refl _) hg3⟩
          clear ho3 hg3 q0 q1
          go_wp2
          go_roundw
          case rel => exact Or.inr (Or.inl ⟨rfl, HN⟩)
          case measure => simp [intOf]
        · obtain ⟨q0, q1⟩ := HC.out wr hr.out.2
          have hrw := HX.out wr hr.out.2
          have HRW := Lib.hid hrw.2
          clear hrw
          go_wp2_with (at_builtin; refine append_rw rfl _ _ Try.underlying30 infoTx rfl rfl w.heap.size n1 _ cs1 cs2 rfl hr.out.1 a2 n2 c2 A B rfl HL.out.2 HRW.out HO2.out (by omega) (by decide) hr.out.2.size ?_)
          intro v3 w3 ho3 hg3
          have HN : Hid (w3.ownsRow w.heap.size 9 1 v3 (n1 + n2) (cs1 ++ cs2) ∧ Below w.heap.size w w3) := Lib.hid ⟨ho3, below_own hr.out.2 hr.out.1 (Nat.le_refl _) hg3⟩
          clear ho3 hg3 q0 q1
          go_wp2
          go_roundw
          case rel => exact Or.inr (Or.inr ⟨rfl, HN⟩)
          case measure => simp [intOf]
        · go_wp2
          go_ret
          exact ⟨_, rfl, hr.out.1, hr.out.2⟩
end Go.Proofs.Ytnamoinedajoaaa
