/- rows' generic functions at numbers and at slices of numbers: for every row, in every world. (Written by gen_rows14.py.) -/
import Derived.Test.YtnbmccfaomhppaaLess13
import Derived.Test.YtnbmccfaomhppaaRcall13
import Derived.Test.YtnbmccfaomhppaaRcallB13
namespace Go.Proofs.Ytnbmccfaomhppaa
open Go.RowKit

theorem infoLs : (Try.prog.info? 33).map (fun i => (i.zero, i.size, i.bytes)) = some (some (.slice none 0 0), 1, 24) := by kernel_rfl

theorem sl_ls : Try.prog.underlying 23 = some (.slice (Try.prog.elem 23)) := by kernel_rfl
theorem sz_ls (w : World) : (Go.sizeOf (Try.prog.elem 23)).run Try.prog w = .ok 1 w := by
  have h : Try.prog.elem 23 = 33 := by kernel_rfl
  obtain ⟨i, hi, _, h1, _⟩ := info_parts infoLs
  rw [h]
  simp [Go.sizeOf, typeInfo, hi, h1]
set_option maxHeartbeats 2000000 in
theorem upto_ls (ao : Option Addr) (n cap p : Nat) (x : Option Addr × Nat × Nat) (cs : List Value) (A B : Nat) (w : World) (hl : cs.length = n) (hc : n ≤ cap) (hp : p ≤ n) (hn : n ≤ 100000) (hx : Rw A B w ao cs) (hB : B ≤ w.heap.size) :
    Calls Try.prog 68 #[.slice ao n cap, .int .i64 (p : Int), .slice x.1 x.2.1 x.2.2] w fun e w' => ∃ v, e = .returned v ∧ w'.ownsRow w.heap.size 33 1 v (p + 1) (cs.take p ++ [.slice x.1 x.2.1 x.2.2]) ∧ Below w.heap.size w w' := by
  have hs := fun W => row_full sl_ls sz_ls ao n cap p hp hc W
  have HX := Lib.hid (hx.take p)
  have HB := Lib.hid hB
  have HL : Hid ((cs.take p).length = p) := Lib.hid (by rw [List.length_take]; omega)
  clear hx hB hl hc
  generalize cs.take p = ds at *
  go_enter Try.func68, Try.ntmps68
  go_wp2_with (at_builtin; refine append_full rfl _ _ Try.underlying23 infoLs rfl rfl A w.heap.size p ds ao rfl HL.out (HX.out.below ((Below.refl B w).alloc HB.out _) |>.wide (Nat.le_refl _) HB.out) (.slice x.1 x.2.1 x.2.2) w.heap.size rfl (by simp [lit_cell w #[.slice x.1 x.2.1 x.2.2] 33 0 _ rfl]) rfl (by omega) (by decide) ?_)
  intro v' w' ho hg
  have HO := Lib.hid (own_base ho (B' := w.heap.size) (by simp))
  have hb : Below w.heap.size w w' := ((Below.refl w.heap.size w).alloc (Nat.le_refl _) _).grown hg (by simp) fun k hk => by cases hk
  have HB2 := Lib.hid hb
  clear ho hg hb
  go_wp2
  go_ret
  exact ⟨v', rfl, HO.out, HB2.out⟩
theorem has_ls (ao : Option Addr) (n cap : Nat) (p : Int) (w : World) :
    Calls Try.prog 65 #[.slice ao n cap, .int .i64 p] w fun e w' => e = .returned (.bool (decide (0 ≤ p ∧ p < n))) ∧ w = w' := by
  by_cases h0 : 0 ≤ p
  · have d1 : decide (0 ≤ p) = true := decide_eq_true h0
    have HR : Hid (decide (0 ≤ p ∧ p < n) = decide (p < (n : Int))) := Lib.hid (by simp [h0])
    clear h0
    go_enter Try.func65, Try.ntmps65
    go_wp2
    go_ret
    exact ⟨by rw [HR.out]; rfl, rfl⟩
  · have d1 : decide (0 ≤ p) = false := decide_eq_false h0
    have HR : Hid (decide (0 ≤ p ∧ p < n) = false) := Lib.hid (by simp [h0])
    clear h0
    go_enter Try.func65, Try.ntmps65
    go_wp2
    go_ret
    exact ⟨by rw [HR.out]; rfl, rfl⟩
set_option maxHeartbeats 4000000 in
theorem pwith_ls (ao : Option Addr) (n cap : Nat) (p : Int) (x : Option Addr × Nat × Nat) (cs : List Value) (A : Nat) (w : World) (hl : cs.length = n) (hc : n ≤ cap) (hn : n ≤ 100000) (hx : Rw A w.heap.size w ao cs) (hone : ∀ u ∈ cs, u.oneCell' = true) :
    Calls Try.prog 50 #[.slice ao n cap, .int .i64 p, .slice x.1 x.2.1 x.2.2] w fun e w' => GivesC w e w' (withL cs p (.slice x.1 x.2.1 x.2.2)) (withE n p) := by
  by_cases hp : 0 ≤ p ∧ p ≤ n
  · obtain ⟨q, rfl⟩ : ∃ q : Nat, p = q := ⟨p.toNat, by omega⟩
    have hq : q ≤ n := by omega
    have hw := with_ok (l := cs) (p := q) (by omega) (.slice x.1 x.2.1 x.2.2)
    rw [hl] at hw
    rw [hw.1, hw.2]
    have d1 : decide ((q : Int) < 0) = false := decide_eq_false (by omega)
    have d2 : decide ((n : Int) < (q : Int)) = false := decide_eq_false (by omega)
    have d2' : decide (n < q) = false := decide_eq_false (by omega)
    obtain ⟨a', hs, ha⟩ := row_from sl_ls sz_ls ao n cap q hq hc
    have HU : Hid (∀ W, Below w.heap.size w W → Calls Try.prog 68 #[.slice ao n cap, .int .i64 (q : Int), .slice x.1 x.2.1 x.2.2] W fun e w' => ∃ v, e = .returned v ∧ w'.ownsRow W.heap.size 33 1 v (q + 1) (cs.take q ++ [.slice x.1 x.2.1 x.2.2]) ∧ Below W.heap.size W w') := Lib.hid fun W hW => upto_ls ao n cap q x cs A w.heap.size W hl hc hq hn (hx.below hW) hW.size
    have HD : Hid (∀ W, Below w.heap.size w W → Rw A w.heap.size W a' (cs.drop q)) := Lib.hid fun W hW => ha A w.heap.size W cs hl (hx.below hW)
    have HL : Hid ((cs.drop q).length = n - q) := Lib.hid (by rw [List.length_drop, hl])
    have HO : Hid (∀ u ∈ cs.drop q, u.oneCell' = true) := Lib.hid fun u hu => hone u (List.mem_of_mem_drop hu)
    have HC := Lib.hid (with_cut cs q (.slice x.1 x.2.1 x.2.2))
    have hsum : q + 1 + (n - q) = n + 1 := by omega
    clear hp hx hone ha hw hl
    go_enter Try.func50, Try.ntmps50
    go_upto_region 3 with fail
    go_region_held3 (fun _ => True) (trivial) (first
      | (go_at_call 68; refine (HU.out _ (by first | exact Below.refl _ _ | exact (Below.refl _ _).drew | exact drawn_below (Below.refl _ _) _)).mono ?_; rintro e w2 ⟨v, rfl, ho, hb⟩; have HV := Lib.hid (And.intro ho hb); clear ho hb)
      | (refine step_append_rw rfl _ _ Try.underlying23 infoLs rfl rfl w.heap.size (q + 1) v _ (cs.drop q) rfl (own_base HV.out.1 (by first | exact Nat.le_refl _ | simp)) a' (n - q) (cap - q) A w.heap.size rfl HL.out (HD.out _ ((show Below w.heap.size w _ from by first | exact HV.out.2 | exact (Below.refl _ _).drew.trans HV.out.2 | exact (drawn_below (Below.refl _ _) _).trans HV.out.2))) HO.out (by omega) (by decide) (by have := HV.out.2.size; simpa using this) ?_; intro v3 w3 ho3 hg3))
    all_goals (
      have hb3 := below_own (w := w) (by first | exact HV.out.2 | exact (Below.refl _ _).drew.trans HV.out.2 | exact (drawn_below (Below.refl _ _) _).trans HV.out.2) (own_base HV.out.1 (B' := w.heap.size) (by first | exact Nat.le_refl _ | simp)) (Nat.le_refl _) hg3
      rw [HC.out, hsum] at ho3
      obtain ⟨a3, c3, rfl, _, _, _⟩ := rw_own ho3
      have hG := Lib.hid (gives_own (E := 0) ho3 (Nat.le_refl _) hb3)
      clear ho3 hg3 hb3
      go_wp2
      go_ret2
      exact hG.out)
  · have hw := with_no (l := cs) (p := p) (by omega) (.slice x.1 x.2.1 x.2.2)
    rw [hl] at hw
    rw [hw.1, hw.2]
    by_cases h0 : p < 0
    · have d1 : decide (p < 0) = true := decide_eq_true h0
      clear hp h0 hw
      go_enter Try.func50, Try.ntmps50
      go_wp2
      go_ret2
      exact gives_none w 2
    · have d1 : decide (p < 0) = false := decide_eq_false h0
      have d2 : decide ((n : Int) < p) = true := decide_eq_true (by omega)
      clear hp h0 hw
      go_enter Try.func50, Try.ntmps50
      go_wp2
      go_ret2
      exact gives_none w 2
theorem run_grow_in (n : Nat) (h0 : 0 < n) (hn : n ≤ 200000) (ty : TypeId) (w : World) : ∃ (c : Nat) (V : World), (Builtin.append_ #[33, 3] ty #[.slice none 0 0, .int .i64 n]).run Try.prog w = .ok (.slice (some ⟨w.heap.size, 0, none⟩) n c) V ∧ n ≤ c ∧
    V.ownsRow w.heap.size 3 1 (.slice (some ⟨w.heap.size, 0, none⟩) 0 c) 0 [] ∧ Below w.heap.size w V := by
  obtain ⟨i0, hi, hz0, hz1, hz2⟩ := info_parts infoInt
  have hb : n * i0.bytes ≤ 281474976710656 := by rw [hz2]; omega
  have hr := Lib.run_append_nil_zeros (P := Try.prog) w 33 3 ty 3 i0 _ .i64 .i64 Try.underlying33 Try.underlying3 hi hz0 n h0 (by omega) (by omega) hb
  have hge := grownCap_ge w n 0 3
  have hcm : grownCap w n 0 3 ≤ maxLen := grownCap_le_maxLen w n 0 _ (by unfold maxLen; omega)
  refine ⟨_, _, hr, hge, ⟨by simp, .inr ⟨w.heap.size, _, _, rfl, Nat.le_refl _, heap_alloc_new w.drew _, Nat.zero_le _, hcm, ?_, by simp⟩⟩, (Below.refl _ w).drew.alloc (by simp) _⟩
  simp only [Array.size_append, size_zeroCells]
  show n * 1 + (grownCap w n 0 3 - n) * 1 = grownCap w n 0 3 * 1
  omega
set_option maxHeartbeats 1000000 in
theorem pgrow_in (n : Nat) (hn : n ≤ 200000) (w : World) :
    Calls Try.prog 69 #[.slice none 0 0, .int .i64 n] w fun e w' => ∃ v, e = .returned v ∧ w'.ownsRow w.heap.size 3 1 v 0 [] ∧ Below w.heap.size w w' := by
  have d0 : decide ((n : Int) < 0) = false := decide_eq_false (by omega)
  have i1 : IntKind.i64.wrap (n : Int) = (n : Int) := IntWalk.i64_in _ (by omega)
  rcases Nat.eq_zero_or_pos n with h0 | h0
  · subst h0
    go_enter Try.func69, Try.ntmps69
    go_wp2
    go_ret
    exact ⟨.slice none 0 0, rfl, World.ownsRow_nil _ _ _ _, Below.refl _ _⟩
  · have d1 : decide ((0 : Int) < (n : Int)) = true := decide_eq_true (by omega)
    have d1' : decide (0 < n) = true := decide_eq_true h0
    obtain ⟨c, V, hr, hc, ho, hb⟩ := run_grow_in n h0 hn 33 w
    have hs0 : ∀ W, (Instr.slice 33 (.slice none 0 0) none (some (.int .i64 0)) none).run Try.prog W = .ok (.slice none 0 0) W := fun W => row_to sl_in sz_in none 0 0 0 (Nat.le_refl _) (Nat.le_refl _) W
    have hs1 : ∀ W, (Instr.slice 33 (.slice (some ⟨w.heap.size, 0, none⟩) n c) none (some (.int .i64 0)) none).run Try.prog W = .ok (.slice (some ⟨w.heap.size, 0, none⟩) 0 c) W := fun W => row_to sl_in sz_in _ n c 0 (Nat.zero_le _) hc W
    have HR := Lib.hid hr
    have HO := Lib.hid (And.intro ho hb)
    clear hr ho hb
    go_enter Try.func69, Try.ntmps69
    go_wp2_with (at_builtin; refine Lib.wpList_append_run w rfl _ _ 33 3 rfl _ _ rfl rfl _ _ HR.out ?_)
    go_ret
    exact ⟨_, rfl, HO.out.1, HO.out.2⟩
set_option maxHeartbeats 4000000 in
theorem pconcat_in (b n1 n2 c1 c2 : Nat) (a1 a2 : Option Addr) (cs1 cs2 : List Value) (A B : Nat) (w : World) (h0 : w.cell? ⟨b, 0, none⟩ = some (.slice a1 n1 c1)) (h1 : w.cell? ⟨b, 1, none⟩ = some (.slice a2 n2 c2)) (hl1 : cs1.length = n1) (hl2 : cs2.length = n2)
    (hn : n1 + n2 ≤ 100000) (hx1 : Rw A B w a1 cs1) (hx2 : Rw A B w a2 cs2) (hB : B ≤ w.heap.size) (ho1 : ∀ u ∈ cs1, u.oneCell' = true) (ho2 : ∀ u ∈ cs2, u.oneCell' = true) :
    Calls Try.prog 52 #[.slice (some ⟨b, 0, none⟩) 2 2] w fun e w' => ∃ v, e = .returned v ∧ w'.ownsRow w.heap.size 3 1 v (n1 + n2) (cs1 ++ cs2) ∧ Below w.heap.size w w' := by
  have hb := World.block_lt_of_cell? w _ h0
  have HC : Hid (∀ V, Below w.heap.size w V → V.cell? ⟨b, 0, none⟩ = some (.slice a1 n1 c1) ∧ V.cell? ⟨b, 1, none⟩ = some (.slice a2 n2 c2)) := Lib.hid fun V hV => ⟨(hV.cell (p := ⟨b, 0, none⟩) hb).trans h0, (hV.cell (p := ⟨b, 1, none⟩) hb).trans h1⟩
  have HX : Hid (∀ V, Below w.heap.size w V → Rw A B V a1 cs1 ∧ Rw A B V a2 cs2) := Lib.hid fun V hV => ⟨hx1.below (hV.mono hB), hx2.below (hV.mono hB)⟩
  have HG : Hid (∀ W, Calls Try.prog 69 #[.slice none 0 0, .int .i64 ((n1 : Int) + (n2 : Int))] W fun e w' => ∃ v, e = .returned v ∧ w'.ownsRow W.heap.size 3 1 v 0 [] ∧ Below W.heap.size W w') := Lib.hid fun W => by
    have := pgrow_in (n1 + n2) (by omega) W
    rw [Int.natCast_add] at this
    exact this
  have HO1 := Lib.hid ho1
  have HO2 := Lib.hid ho2
  have HL := Lib.hid (And.intro hl1 hl2)
  have i1 : IntKind.i64.wrap (n1 : Int) = (n1 : Int) := IntWalk.i64_in _ (by omega)
  have i2 : IntKind.i64.wrap ((n1 : Int) + (n2 : Int)) = (n1 : Int) + (n2 : Int) := IntWalk.i64_in _ (by omega)
  have d1 : decide ((n1 : Int) < 0) = false := decide_eq_false (by omega)
  have d2 : decide ((n1 : Int) + (n2 : Int) < 0) = false := decide_eq_false (by omega)
  clear hx1 hx2 hB ho1 ho2 hl1 hl2
  go_enter Try.func52, Try.ntmps52
  go_wp2
  go_loop [3, 11] (fun s3 s11 => (s11 = .int .i64 0 ∧ s3 = .int .i64 0) ∨ (s11 = .int .i64 1 ∧ s3 = .int .i64 (n1 : Int)) ∨ (s11 = .int .i64 2 ∧ s3 = .int .i64 ((n1 : Int) + (n2 : Int)))) (fun _ i => 2 - (intOf i).toNat)
  case atStart => exact Or.inl ⟨rfl, rfl⟩
  case round =>
    rcases hrel with ⟨rfl, rfl⟩ | ⟨rfl, rfl⟩ | ⟨rfl, rfl⟩
    · go_wp2
      go_round
      case rel => exact Or.inr (Or.inl ⟨rfl, rfl⟩)
      case measure => simp [intOf]
    · go_wp2
      go_round
      case rel => exact Or.inr (Or.inr ⟨rfl, rfl⟩)
      case measure => simp [intOf]
    · go_wp2_with (go_at_call 69; refine (HG.out _).mono ?_; rintro e w2 ⟨v0, rfl, ho, hb2⟩)
      have HV0 : Hid (w2.ownsRow w.heap.size 3 1 v0 0 [] ∧ Below w.heap.size w w2) := Lib.hid ⟨ho, hb2⟩
      clear ho hb2
      go_loopw [6, 27] (fun s6 s27 wr => (s27 = .int .i64 0 ∧ Hid (wr.ownsRow w.heap.size 3 1 s6 0 [] ∧ Below w.heap.size w wr)) ∨ (s27 = .int .i64 1 ∧ Hid (wr.ownsRow w.heap.size 3 1 s6 n1 cs1 ∧ Below w.heap.size w wr)) ∨ (s27 = .int .i64 2 ∧ Hid (wr.ownsRow w.heap.size 3 1 s6 (n1 + n2) (cs1 ++ cs2) ∧ Below w.heap.size w wr))) (fun _ i _ => 2 - (intOf i).toNat)
      case atStart => exact Or.inl ⟨rfl, HV0⟩
      case round =>
        rcases hrel with ⟨rfl, hr⟩ | ⟨rfl, hr⟩ | ⟨rfl, hr⟩
        · obtain ⟨q0, q1⟩ := HC.out wr hr.out.2
          have hrw := HX.out wr hr.out.2
          have HRW := Lib.hid hrw.1
          clear hrw
          go_wp2_with (at_builtin; refine append_rw rfl _ _ Try.underlying33 infoInt rfl rfl w.heap.size 0 _ [] cs1 rfl hr.out.1 a1 n1 c1 A B rfl HL.out.1 HRW.out HO1.out (by omega) (by decide) hr.out.2.size ?_)
          intro v3 w3 ho3 hg3
          have HN : Hid (w3.ownsRow w.heap.size 3 1 v3 n1 cs1 ∧ Below w.heap.size w w3) := Lib.hid ⟨ho3, below_own hr.out.2 hr.out.1 (Nat.le_refl _) hg3⟩
          clear ho3 hg3 q0 q1
          go_wp2
          go_roundw
          case rel => exact Or.inr (Or.inl ⟨rfl, HN⟩)
          case measure => simp [intOf]
        · obtain ⟨q0, q1⟩ := HC.out wr hr.out.2
          have hrw := HX.out wr hr.out.2
          have HRW := Lib.hid hrw.2
          clear hrw
          go_wp2_with (at_builtin; refine append_rw rfl _ _ Try.underlying33 infoInt rfl rfl w.heap.size n1 _ cs1 cs2 rfl hr.out.1 a2 n2 c2 A B rfl HL.out.2 HRW.out HO2.out (by omega) (by decide) hr.out.2.size ?_)
          intro v3 w3 ho3 hg3
          have HN : Hid (w3.ownsRow w.heap.size 3 1 v3 (n1 + n2) (cs1 ++ cs2) ∧ Below w.heap.size w w3) := Lib.hid ⟨ho3, below_own hr.out.2 hr.out.1 (Nat.le_refl _) hg3⟩
          clear ho3 hg3 q0 q1
          go_wp2
          go_roundw
          case rel => exact Or.inr (Or.inr ⟨rfl, HN⟩)
          case measure => simp [intOf]
        · go_wp2
          go_ret
          exact ⟨_, rfl, hr.out.1, hr.out.2⟩
set_option maxHeartbeats 4000000 in
theorem pless_in (ao : Option Addr) (n cap : Nat) (p : Int) (cs : List Value) (A : Nat) (w : World) (hl : cs.length = n) (hc : n ≤ cap) (hn : n ≤ 100000) (hx : Rw A w.heap.size w ao cs) (hone : ∀ u ∈ cs, u.oneCell' = true) :
    Calls Try.prog 32 #[.slice ao n cap, .int .i64 p] w fun e w' => GivesC w e w' (lessL cs p) (hasE n p) := by
  have HH : Hid (∀ W, Calls Try.prog 51 #[.slice ao n cap, .int .i64 p] W fun e w' => e = .returned (.bool (decide (0 ≤ p ∧ p < n))) ∧ W = w') := Lib.hid fun W => has_in ao n cap p W
  by_cases hp : 0 ≤ p ∧ p < n
  · obtain ⟨q, rfl⟩ : ∃ q : Nat, p = q := ⟨p.toNat, by omega⟩
    have hq : q < n := by omega
    rw [decide_eq_true hp] at HH
    have hw := less_ok (l := cs) (p := q) (by omega)
    rw [hl] at hw
    rw [hw.1, hw.2]
    obtain ⟨a', hs, ha⟩ := row_from sl_in sz_in ao n cap (q + 1) hq hc
    have hs1 := fun W => row_to sl_in sz_in ao n cap q (by omega) hc W
    have i9 : IntKind.i64.wrap ((q : Int) + 1) = (q : Int) + 1 := IntWalk.i64_in _ (by omega)
    simp only [show ((q + 1 : Nat) : Int) = (q : Int) + 1 from rfl] at hs
    have HU : Hid (Calls Try.prog 52 #[.slice (some ⟨w.heap.size, 0, none⟩) 2 2] (w.alloc (.cells #[.slice ao q cap, .slice a' (n - (q + 1)) (cap - (q + 1))] 33)).drew fun e w' => ∃ v, e = .returned v ∧ w'.ownsRow w.heap.size 3 1 v (n - 1) (less13 cs q) ∧ Below w.heap.size w w') := Lib.hid (by
      have hb2 := ((Below.refl w.heap.size w).alloc (Nat.le_refl _) (.cells #[.slice ao q cap, .slice a' (n - (q + 1)) (cap - (q + 1))] 33)).drew
      obtain ⟨h0, h1⟩ := two_new w (.slice ao q cap) (.slice a' (n - (q + 1)) (cap - (q + 1))) 33
      refine (pconcat_in w.heap.size q (n - (q + 1)) cap (cap - (q + 1)) ao a' (cs.take q) (cs.drop (q + 1)) A w.heap.size (w.alloc (.cells #[.slice ao q cap, .slice a' (n - (q + 1)) (cap - (q + 1))] 33)).drew h0 h1 (by rw [List.length_take]; omega) (by rw [List.length_drop, hl]) (by omega) ((hx.below hb2).take q) (ha A w.heap.size _ cs hl (hx.below hb2)) hb2.size (fun u hu => hone u (List.mem_of_mem_take hu)) (fun u hu => hone u (List.mem_of_mem_drop hu))).mono ?_
      rintro e w' ⟨v, rfl, ho, hb⟩
      rw [show q + (n - (q + 1)) = n - 1 by omega] at ho
      exact ⟨v, rfl, own_base ho hb2.size, hb2.trans (hb.mono hb2.size)⟩)
    clear hp hx hone ha hw hl
    go_enter Try.func32, Try.ntmps32
    go_upto_region 3 with (go_at_call 51; refine (HH.out _).mono ?_; rintro e w1 ⟨rfl, rfl⟩)
    go_region_held3 (fun _ => True) (trivial) (first
      | (go_at_call 52; refine HU.out.mono ?_; rintro e w2 ⟨v, rfl, ho, hb⟩; have HV := Lib.hid (And.intro ho hb); clear ho hb)
      | fail)
    all_goals (
      obtain ⟨a3, c3, rfl, _, _, _⟩ := rw_own HV.out.1
      have hlen : (less13 cs q).length = n - 1 := by have := HV.out.1.1; omega
      have hG := Lib.hid (gives_own (E := 0) HV.out.1 (Nat.le_refl _) HV.out.2)
      go_wp2
      go_ret2
      exact hG.out)
  · rw [decide_eq_false hp] at HH
    have hw := less_no (l := cs) (p := p) (by omega)
    rw [hl] at hw
    rw [hw.1, hw.2]
    clear hp hw
    go_enter Try.func32, Try.ntmps32
    go_wp2_with (go_at_call 51; refine (HH.out _).mono ?_; rintro e w1 ⟨rfl, rfl⟩)
    go_ret2
    exact gives_none w 2
theorem run_grow_ls (n : Nat) (h0 : 0 < n) (hn : n ≤ 200000) (ty : TypeId) (w : World) : ∃ (c : Nat) (V : World), (Builtin.append_ #[23, 3] ty #[.slice none 0 0, .int .i64 n]).run Try.prog w = .ok (.slice (some ⟨w.heap.size, 0, none⟩) n c) V ∧ n ≤ c ∧
    V.ownsRow w.heap.size 33 1 (.slice (some ⟨w.heap.size, 0, none⟩) 0 c) 0 [] ∧ Below w.heap.size w V := by
  obtain ⟨i0, hi, hz0, hz1, hz2⟩ := info_parts infoLs
  have hb : n * i0.bytes ≤ 281474976710656 := by rw [hz2]; omega
  have hr := Lib.run_append_nil_zeros (P := Try.prog) w 23 3 ty 33 i0 _ .i64 .i64 Try.underlying23 Try.underlying3 hi hz0 n h0 (by omega) (by omega) hb
  have hge := grownCap_ge w n 0 33
  have hcm : grownCap w n 0 33 ≤ maxLen := grownCap_le_maxLen w n 0 _ (by unfold maxLen; omega)
  refine ⟨_, _, hr, hge, ⟨by simp, .inr ⟨w.heap.size, _, _, rfl, Nat.le_refl _, heap_alloc_new w.drew _, Nat.zero_le _, hcm, ?_, by simp⟩⟩, (Below.refl _ w).drew.alloc (by simp) _⟩
  simp only [Array.size_append, size_zeroCells]
  show n * 1 + (grownCap w n 0 33 - n) * 1 = grownCap w n 0 33 * 1
  omega
set_option maxHeartbeats 1000000 in
theorem pgrow_ls (n : Nat) (hn : n ≤ 200000) (w : World) :
    Calls Try.prog 75 #[.slice none 0 0, .int .i64 n] w fun e w' => ∃ v, e = .returned v ∧ w'.ownsRow w.heap.size 33 1 v 0 [] ∧ Below w.heap.size w w' := by
  have d0 : decide ((n : Int) < 0) = false := decide_eq_false (by omega)
  have i1 : IntKind.i64.wrap (n : Int) = (n : Int) := IntWalk.i64_in _ (by omega)
  rcases Nat.eq_zero_or_pos n with h0 | h0
  · subst h0
    go_enter Try.func75, Try.ntmps75
    go_wp2
    go_ret
    exact ⟨.slice none 0 0, rfl, World.ownsRow_nil _ _ _ _, Below.refl _ _⟩
  · have d1 : decide ((0 : Int) < (n : Int)) = true := decide_eq_true (by omega)
    have d1' : decide (0 < n) = true := decide_eq_true h0
    obtain ⟨c, V, hr, hc, ho, hb⟩ := run_grow_ls n h0 hn 23 w
    have hs0 : ∀ W, (Instr.slice 23 (.slice none 0 0) none (some (.int .i64 0)) none).run Try.prog W = .ok (.slice none 0 0) W := fun W => row_to sl_ls sz_ls none 0 0 0 (Nat.le_refl _) (Nat.le_refl _) W
    have hs1 : ∀ W, (Instr.slice 23 (.slice (some ⟨w.heap.size, 0, none⟩) n c) none (some (.int .i64 0)) none).run Try.prog W = .ok (.slice (some ⟨w.heap.size, 0, none⟩) 0 c) W := fun W => row_to sl_ls sz_ls _ n c 0 (Nat.zero_le _) hc W
    have HR := Lib.hid hr
    have HO := Lib.hid (And.intro ho hb)
    clear hr ho hb
    go_enter Try.func75, Try.ntmps75
    go_wp2_with (at_builtin; refine Lib.wpList_append_run w rfl _ _ 23 3 rfl _ _ rfl rfl _ _ HR.out ?_)
    go_ret
    exact ⟨_, rfl, HO.out.1, HO.out.2⟩
set_option maxHeartbeats 4000000 in
theorem pconcat_ls (b n1 n2 c1 c2 : Nat) (a1 a2 : Option Addr) (cs1 cs2 : List Value) (A B : Nat) (w : World) (h0 : w.cell? ⟨b, 0, none⟩ = some (.slice a1 n1 c1)) (h1 : w.cell? ⟨b, 1, none⟩ = some (.slice a2 n2 c2)) (hl1 : cs1.length = n1) (hl2 : cs2.length = n2)
    (hn : n1 + n2 ≤ 100000) (hx1 : Rw A B w a1 cs1) (hx2 : Rw A B w a2 cs2) (hB : B ≤ w.heap.size) (ho1 : ∀ u ∈ cs1, u.oneCell' = true) (ho2 : ∀ u ∈ cs2, u.oneCell' = true) :
    Calls Try.prog 66 #[.slice (some ⟨b, 0, none⟩) 2 2] w fun e w' => ∃ v, e = .returned v ∧ w'.ownsRow w.heap.size 33 1 v (n1 + n2) (cs1 ++ cs2) ∧ Below w.heap.size w w' := by
  have hb := World.block_lt_of_cell? w _ h0
  have HC : Hid (∀ V, Below w.heap.size w V → V.cell? ⟨b, 0, none⟩ = some (.slice a1 n1 c1) ∧ V.cell? ⟨b, 1, none⟩ = some (.slice a2 n2 c2)) := Lib.hid fun V hV => ⟨(hV.cell (p := ⟨b, 0, none⟩) hb).trans h0, (hV.cell (p := ⟨b, 1, none⟩) hb).trans h1⟩
  have HX : Hid (∀ V, Below w.heap.size w V → Rw A B V a1 cs1 ∧ Rw A B V a2 cs2) := Lib.hid fun V hV => ⟨hx1.below (hV.mono hB), hx2.below (hV.mono hB)⟩
  have HG : Hid (∀ W, Calls Try.prog 75 #[.slice none 0 0, .int .i64 ((n1 : Int) + (n2 : Int))] W fun e w' => ∃ v, e = .returned v ∧ w'.ownsRow W.heap.size 33 1 v 0 [] ∧ Below W.heap.size W w') := Lib.hid fun W => by
    have := pgrow_ls (n1 + n2) (by omega) W
    rw [Int.natCast_add] at this
    exact this
  have HO1 := Lib.hid ho1
  have HO2 := Lib.hid ho2
  have HL := Lib.hid (And.intro hl1 hl2)
  have i1 : IntKind.i64.wrap (n1 : Int) = (n1 : Int) := IntWalk.i64_in _ (by omega)
  have i2 : IntKind.i64.wrap ((n1 : Int) + (n2 : Int)) = (n1 : Int) + (n2 : Int) := IntWalk.i64_in _ (by omega)
  have d1 : decide ((n1 : Int) < 0) = false := decide_eq_false (by omega)
  have d2 : decide ((n1 : Int) + (n2 : Int) < 0) = false := decide_eq_false (by omega)
  clear hx1 hx2 hB ho1 ho2 hl1 hl2
  go_enter Try.func66, Try.ntmps66
  go_wp2
  go_loop [3, 11] (fun s3 s11 => (s11 = .int .i64 0 ∧ s3 = .int .i64 0) ∨ (s11 = .int .i64 1 ∧ s3 = .int .i64 (n1 : Int)) ∨ (s11 = .int .i64 2 ∧ s3 = .int .i64 ((n1 : Int) + (n2 : Int)))) (fun _ i => 2 - (intOf i).toNat)
  case atStart => exact Or.inl ⟨rfl, rfl⟩
  case round =>
    rcases hrel with ⟨rfl, rfl⟩ | ⟨rfl, rfl⟩ | ⟨rfl, rfl⟩
    · go_wp2
      go_round
      case rel => exact Or.inr (Or.inl ⟨rfl, rfl⟩)
      case measure => simp [intOf]
    · go_wp2
      go_round
      case rel => exact Or.inr (Or.inr ⟨rfl, rfl⟩)
      case measure => simp [intOf]
    · go_wp2_with (go_at_call 75; refine (HG.out _).mono ?_; rintro e w2 ⟨v0, rfl, ho, hb2⟩)
      have HV0 : Hid (w2.ownsRow w.heap.size 33 1 v0 0 [] ∧ Below w.heap.size w w2) := Lib.hid ⟨ho, hb2⟩
      clear ho hb2
      go_loopw [6, 27] (fun s6 s27 wr => (s27 = .int .i64 0 ∧ Hid (wr.ownsRow w.heap.size 33 1 s6 0 [] ∧ Below w.heap.size w wr)) ∨ (s27 = .int .i64 1 ∧ Hid (wr.ownsRow w.heap.size 33 1 s6 n1 cs1 ∧ Below w.heap.size w wr)) ∨ (s27 = .int .i64 2 ∧ Hid (wr.ownsRow w.heap.size 33 1 s6 (n1 + n2) (cs1 ++ cs2) ∧ Below w.heap.size w wr))) (fun _ i _ => 2 - (intOf i).toNat)
      case atStart => exact Or.inl ⟨rfl, HV0⟩
      case round =>
        rcases hrel with ⟨rfl, hr⟩ | ⟨rfl, hr⟩ | ⟨rfl, hr⟩
        · obtain ⟨q0, q1⟩ := HC.out wr hr.out.2
          have hrw := HX.out wr hr.out.2
          have HRW := Lib.hid hrw.1
          clear hrw
          go_wp2_with (at_builtin; refine append_rw rfl _ _ Try.underlying23 infoLs rfl rfl w.heap.size 0 _ [] cs1 rfl hr.out.1 a1 n1 c1 A B rfl HL.out.1 HRW.out HO1.out (by omega) (by decide) hr.out.2.size ?_)
          intro v3 w3 ho3 hg3
          have HN : Hid (w3.ownsRow w.heap.size 33 1 v3 n1 cs1 ∧ Below w.heap.size w w3) := Lib.hid ⟨ho3, below_own hr.out.2 hr.out.1 (Nat.le_refl _) hg3⟩
          clear ho3 hg3 q0 q1
          go_wp2
          go_roundw
          case rel => exact Or.inr (Or.inl ⟨rfl, HN⟩)
          case measure => simp [intOf]
        · obtain ⟨q0, q1⟩ := HC.out wr hr.out.2
          have hrw := HX.out wr hr.out.2
          have HRW := Lib.hid hrw.2
          clear hrw
          go_wp2_with (at_builtin; refine append_rw rfl _ _ Try.underlying23 infoLs rfl rfl w.heap.size n1 _ cs1 cs2 rfl hr.out.1 a2 n2 c2 A B rfl HL.out.2 HRW.out HO2.out (by omega) (by decide) hr.out.2.size ?_)
          intro v3 w3 ho3 hg3
          have HN : Hid (w3.ownsRow w.heap.size 33 1 v3 (n1 + n2) (cs1 ++ cs2) ∧ Below w.heap.size w w3) := Lib.hid ⟨ho3, below_own hr.out.2 hr.out.1 (Nat.le_refl _) hg3⟩
          clear ho3 hg3 q0 q1
          go_wp2
          go_roundw
          case rel => exact Or.inr (Or.inr ⟨rfl, HN⟩)
          case measure => simp [intOf]
        · go_wp2
          go_ret
          exact ⟨_, rfl, hr.out.1, hr.out.2⟩
set_option maxHeartbeats 4000000 in
theorem pless_ls (ao : Option Addr) (n cap : Nat) (p : Int) (cs : List Value) (A : Nat) (w : World) (hl : cs.length = n) (hc : n ≤ cap) (hn : n ≤ 100000) (hx : Rw A w.heap.size w ao cs) (hone : ∀ u ∈ cs, u.oneCell' = true) :
    Calls Try.prog 48 #[.slice ao n cap, .int .i64 p] w fun e w' => GivesC w e w' (lessL cs p) (hasE n p) := by
  have HH : Hid (∀ W, Calls Try.prog 65 #[.slice ao n cap, .int .i64 p] W fun e w' => e = .returned (.bool (decide (0 ≤ p ∧ p < n))) ∧ W = w') := Lib.hid fun W => has_ls ao n cap p W
  by_cases hp : 0 ≤ p ∧ p < n
  · obtain ⟨q, rfl⟩ : ∃ q : Nat, p = q := ⟨p.toNat, by omega⟩
    have hq : q < n := by omega
    rw [decide_eq_true hp] at HH
    have hw := less_ok (l := cs) (p := q) (by omega)
    rw [hl] at hw
    rw [hw.1, hw.2]
    obtain ⟨a', hs, ha⟩ := row_from sl_ls sz_ls ao n cap (q + 1) hq hc
    have hs1 := fun W => row_to sl_ls sz_ls ao n cap q (by omega) hc W
    have i9 : IntKind.i64.wrap ((q : Int) + 1) = (q : Int) + 1 := IntWalk.i64_in _ (by omega)
    simp only [show ((q + 1 : Nat) : Int) = (q : Int) + 1 from rfl] at hs
    have HU : Hid (Calls Try.prog 66 #[.slice (some ⟨w.heap.size, 0, none⟩) 2 2] (w.alloc (.cells #[.slice ao q cap, .slice a' (n - (q + 1)) (cap - (q + 1))] 23)).drew fun e w' => ∃ v, e = .returned v ∧ w'.ownsRow w.heap.size 33 1 v (n - 1) (less13 cs q) ∧ Below w.heap.size w w') := Lib.hid (by
      have hb2 := ((Below.refl w.heap.size w).alloc (Nat.le_refl _) (.cells #[.slice ao q cap, .slice a' (n - (q + 1)) (cap - (q + 1))] 23)).drew
      obtain ⟨h0, h1⟩ := two_new w (.slice ao q cap) (.slice a' (n - (q + 1)) (cap - (q + 1))) 23
      refine (pconcat_ls w.heap.size q (n - (q + 1)) cap (cap - (q + 1)) ao a' (cs.take q) (cs.drop (q + 1)) A w.heap.size (w.alloc (.cells #[.slice ao q cap, .slice a' (n - (q + 1)) (cap - (q + 1))] 23)).drew h0 h1 (by rw [List.length_take]; omega) (by rw [List.length_drop, hl]) (by omega) ((hx.below hb2).take q) (ha A w.heap.size _ cs hl (hx.below hb2)) hb2.size (fun u hu => hone u (List.mem_of_mem_take hu)) (fun u hu => hone u (List.mem_of_mem_drop hu))).mono ?_
      rintro e w' ⟨v, rfl, ho, hb⟩
      rw [show q + (n - (q + 1)) = n - 1 by omega] at ho
      exact ⟨v, rfl, own_base ho hb2.size, hb2.trans (hb.mono hb2.size)⟩)
    clear hp hx hone ha hw hl
    go_enter Try.func48, Try.ntmps48
    go_upto_region 3 with (go_at_call 65; refine (HH.out _).mono ?_; rintro e w1 ⟨rfl, rfl⟩)
    go_region_held3 (fun _ => True) (trivial) (first
      | (go_at_call 66; refine HU.out.mono ?_; rintro e w2 ⟨v, rfl, ho, hb⟩; have HV := Lib.hid (And.intro ho hb); clear ho hb)
      | fail)
    all_goals (
      obtain ⟨a3, c3, rfl, _, _, _⟩ := rw_own HV.out.1
      have hlen : (less13 cs q).length = n - 1 := by have := HV.out.1.1; omega
      have hG := Lib.hid (gives_own (E := 0) HV.out.1 (Nat.le_refl _) HV.out.2)
      go_wp2
      go_ret2
      exact hG.out)
  · rw [decide_eq_false hp] at HH
    have hw := less_no (l := cs) (p := p) (by omega)
    rw [hl] at hw
    rw [hw.1, hw.2]
    clear hp hw
    go_enter Try.func48, Try.ntmps48
    go_wp2_with (go_at_call 65; refine (HH.out _).mono ?_; rintro e w1 ⟨rfl, rfl⟩)
    go_ret2
    exact gives_none w 2
end Go.Proofs.Ytnbmccfaomhppaa
