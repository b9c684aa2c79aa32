/- The program's numbers of two words: how large a number is, products, which of two is greater, and rows of them that rise, in every world. -/
import Derived.Test.YtbhdjpohplpjdaaDivs64
import Derived.Test.YtbhdjpohplpjdaaSum
import Derived.ProofKit
import Derived.ChangeOld
import Derived.OpenShut
import Derived.BigCall
import Derived.Lib.SmallJoins
import Derived.StillTailTactics
namespace Go.Proofs.Ytbhdjpohplpjdaa
open Go.RowKit

theorem nan_any (a : Int) (w : World) : Calls Try.prog 38 #[.int .u64 a] w fun e w' => e = .returned (.bool false) ∧ w = w' := by
  go_enter Try.func38, Try.ntmps38
  go_wp2
  go_ret
  exact ⟨by simp, rfl⟩

def ordN (a b : Nat) : Int := if a < b then -1 else if b < a then 1 else 0
theorem cmpu_any (a b : Nat) (w : World) : Calls Try.prog 36 #[.int .u64 a, .int .u64 b] w fun e w' => e = .returned (.int .i64 (ordN a b)) ∧ w = w' := by
  by_cases h1 : a < b
  · have He : Hid (ordN a b = -1) := Lib.hid (by unfold ordN; rw [if_pos h1])
    go_enter Try.func36, Try.ntmps36
    go_wp2_with (go_at_call 38; refine (nan_any _ _).mono ?_; rintro e w' ⟨rfl, rfl⟩)
    go_ret
    exact ⟨by rw [He.out]; rfl, rfl⟩
  · by_cases h2 : b < a
    · have He : Hid (ordN a b = 1) := Lib.hid (by unfold ordN; rw [if_neg h1, if_pos h2])
      go_enter Try.func36, Try.ntmps36
      go_wp2_with (go_at_call 38; refine (nan_any _ _).mono ?_; rintro e w' ⟨rfl, rfl⟩)
      go_ret
      exact ⟨by rw [He.out]; rfl, rfl⟩
    · have He : Hid (ordN a b = 0) := Lib.hid (by unfold ordN; rw [if_neg h1, if_neg h2])
      go_enter Try.func36, Try.ntmps36
      go_wp2_with (go_at_call 38; refine (nan_any _ _).mono ?_; rintro e w' ⟨rfl, rfl⟩)
      go_ret
      exact ⟨by rw [He.out]; rfl, rfl⟩

theorem size_any (n : Int) (h1 : -1000000000000 ≤ n) (h2 : n ≤ 1000000000000) (w : World) : Calls Try.prog 27 #[.int .i64 n] w fun e w' => e = .returned (.int .u64 (n.natAbs : Int)) ∧ w = w' := by
  rcases (by omega : n < 0 ∨ 0 ≤ n) with h | h
  · have He : Hid ((n.natAbs : Int) = -n) := Lib.hid (by omega)
    obtain ⟨m, rfl⟩ : ∃ m, n = -m := ⟨-n, by omega⟩
    go_enter Try.func27, Try.ntmps27
    go_wp2
    go_ret
    exact ⟨congrArg (fun z => Ending.returned (Value.int .u64 z)) (by rw [He.out]; omega), rfl⟩
  · have He : Hid ((n.natAbs : Int) = n) := Lib.hid (by omega)
    go_enter Try.func27, Try.ntmps27
    go_wp2
    go_ret
    exact ⟨congrArg (fun z => Ending.returned (Value.int .u64 z)) (by rw [He.out]; omega), rfl⟩

theorem product_any (x y : Nat) (hx : x < 18446744073709551616) (hy : y < 18446744073709551616) (w : World) :
    Calls Try.prog 26 #[.int .u64 x, .int .u64 y] w fun e w' => e = .returned (.agg #[.int .u64 ((x * y / 18446744073709551616 : Nat) : Int), .int .u64 ((x * y % 18446744073709551616 : Nat) : Int)]) ∧ Below w.heap.size w w' := by
  go_enter Try.func26, Try.ntmps26
  go_wp2_with (go_at_call 31; refine (Try.bits_Mul64 x y hx hy _).mono ?_; rintro e w' ⟨rfl, rfl⟩)
  refine bodyPost_ret (results_cell_row rfl _ _ w.heap.size 52 _ _ _ rfl (heap_alloc_new _ _) Try.underlying52 rfl (by kernel_rfl)) rfl ?_
  exact ⟨rfl, Below.alloc (Below.refl _ _) (Nat.le_refl _) _⟩

def orN2 (x y : Int) : Int := if x = 0 then y else x
theorem or_any (b cap : Nat) (x y : Int) (w : World) (h0 : w.cell? ⟨b, 0, none⟩ = some (.int .i64 x)) (h1 : w.cell? ⟨b, 1, none⟩ = some (.int .i64 y)) :
    Calls Try.prog 35 #[.slice (some ⟨b, 0, none⟩) 2 cap] w fun e w' => e = .returned (.int .i64 (orN2 x y)) ∧ w = w' := by
  go_enter Try.func35, Try.ntmps35
  go_wp2
  go_loop [5, 8] (fun _ i => i = .int .i64 0 ∨ (i = .int .i64 1 ∧ x = 0) ∨ (i = .int .i64 2 ∧ x = 0 ∧ y = 0)) (fun _ i => 2 - (intOf i).toNat)
  case atStart => exact Or.inl rfl
  case round =>
    rcases hrel with rfl | ⟨rfl, hx⟩ | ⟨rfl, hx, hy⟩
    · by_cases hx : x = 0
      · have hd : (x != 0) = false := by rw [hx]; rfl
        go_wp2
        go_round
        case rel => exact Or.inr (Or.inl ⟨rfl, hx⟩)
        case measure => simp [intOf]
      · have hd : (x != 0) = true := by rw [bne_iff_ne]; exact hx
        have He : Hid (orN2 x y = x) := Lib.hid (by unfold orN2; rw [if_neg hx])
        go_wp2
        go_ret
        exact ⟨by rw [He.out]; rfl, rfl⟩
    · by_cases hy : y = 0
      · have hd : (y != 0) = false := by rw [hy]; rfl
        go_wp2
        go_round
        case rel => exact Or.inr (Or.inr ⟨rfl, hx, hy⟩)
        case measure => simp [intOf]
      · have hd : (y != 0) = true := by rw [bne_iff_ne]; exact hy
        have He : Hid (orN2 x y = y) := Lib.hid (by unfold orN2; rw [if_pos hx])
        clear hx
        go_wp2
        go_ret
        exact ⟨by rw [He.out]; rfl, rfl⟩
    · have He : Hid (orN2 x y = 0) := Lib.hid (by unfold orN2; rw [if_pos hx, hy])
      clear hx hy
      go_wp2
      go_ret
      exact ⟨by rw [He.out]; rfl, rfl⟩

def ordW (ah al bh bl : Nat) : Int := orN2 (ordN ah bh) (ordN al bl)
theorem cmpu_same (a b : Nat) (w : World) : Calls Try.prog 36 #[.int .u64 a, .int .u64 b] w fun e w' => e = .returned (.int .i64 (ordN a b)) ∧ w' = w :=
  (cmpu_any a b w).mono fun _ _ h => ⟨h.1, h.2.symm⟩
theorem compare_any (ah al bh bl : Nat) (w : World) :
    Calls Try.prog 33 #[.agg #[.int .u64 ah, .int .u64 al], .agg #[.int .u64 bh, .int .u64 bl]] w fun e w' => e = .returned (.int .i64 (ordW ah al bh bl)) ∧ Below w.heap.size w w' := by
  have Hw : Hid (ordW ah al bh bl = orN2 (ordN ah bh) (ordN al bl)) := Lib.hid rfl
  go_enter Try.func33, Try.ntmps33
  go_upto_region 1 with fail
  obtain ⟨W, hW⟩ : ∃ W, W = (w.alloc (Obj.cells #[Value.int IntKind.u64 ah, Value.int IntKind.u64 al] 52)).alloc (Obj.cells #[Value.int IntKind.u64 bh, Value.int IntKind.u64 bl] 52) := ⟨_, rfl⟩
  have hb : Below w.heap.size w W := by
    rw [hW]
    have hb1 : Below w.heap.size w (w.alloc (Obj.cells #[Value.int IntKind.u64 ah, Value.int IntKind.u64 al] 52)) := (Below.refl _ _).alloc (Nat.le_refl _) _
    exact hb1.alloc hb1.size _
  have c0 : W.drew.cell? ⟨w.heap.size, 0, none⟩ = some (.int .u64 ah) := by rw [hW]; go_simp
  have c1 : W.drew.cell? ⟨w.heap.size, 1, none⟩ = some (.int .u64 al) := by rw [hW]; go_simp
  have c2 : W.drew.cell? ⟨w.heap.size + 1, 0, none⟩ = some (.int .u64 bh) := by rw [hW]; go_simp
  have c3 : W.drew.cell? ⟨w.heap.size + 1, 1, none⟩ = some (.int .u64 bl) := by rw [hW]; go_simp
  rw [← hW]
  refine wp_region_still_tail 10 (by kernel_rfl) (by kernel_rfl) ?_
  change wpStill Try.prog _ W.drew (fun a' => wpList Try.prog _ _ _ a' W.drew) _ _
  have hb2 := hb.drew
  clear hb hW
  generalize W.drew = V at *
  simp only [List.take_succ_cons, List.take_zero, List.drop_succ_cons, List.drop_zero]
  repeat still_step
  still_call (cmpu_same _ _ _)
  repeat still_step
  still_call (cmpu_same _ _ _)
  refine wpStill_nil ?_
  go_wp2_with (go_at_call 35; refine (or_any V.heap.size 2 (ordN ah bh) (ordN al bl) _ (by go_simp) (by go_simp)).mono ?_; rintro e w' ⟨rfl, rfl⟩)
  go_ret
  exact ⟨by rw [Hw.out]; rfl, hb2.alloc hb2.size _⟩

/-- The order of two products told by their words. -/
theorem ord_says (x y : Nat) : decide (0 ≤ ordW (x / 18446744073709551616) (x % 18446744073709551616) (y / 18446744073709551616) (y % 18446744073709551616)) = decide (y ≤ x) := by
  have h : 0 ≤ ordW (x / 18446744073709551616) (x % 18446744073709551616) (y / 18446744073709551616) (y % 18446744073709551616) ↔ y ≤ x := by
    have e1 := Nat.div_add_mod x 18446744073709551616
    have e2 := Nat.div_add_mod y 18446744073709551616
    have e3 := Nat.mod_lt x (show 0 < 18446744073709551616 by omega)
    have e4 := Nat.mod_lt y (show 0 < 18446744073709551616 by omega)
    generalize x / 18446744073709551616 = a at *
    generalize x % 18446744073709551616 = b at *
    generalize y / 18446744073709551616 = c at *
    generalize y % 18446744073709551616 = d at *
    rcases Nat.lt_trichotomy a c with h1 | h1 | h1
    · have e : ordW a b c d = -1 := by unfold ordW orN2 ordN; rw [if_pos h1]; rfl
      rw [e]; constructor <;> intro h <;> omega
    · subst h1
      have e : ordW a b a d = ordN b d := by unfold ordW orN2; rw [show ordN a a = 0 by unfold ordN; rw [if_neg (Nat.lt_irrefl a), if_neg (Nat.lt_irrefl a)], if_pos rfl]
      rw [e]; unfold ordN
      split
      · constructor <;> intro h <;> omega
      · split <;> constructor <;> intro h <;> omega
    · have e0 : ordN a c = 1 := by unfold ordN; rw [if_neg (by omega), if_pos h1]
      have e : ordW a b c d = 1 := by unfold ordW orN2; rw [e0]; rfl
      rw [e]; constructor <;> intro h <;> omega
  exact decide_eq_decide.2 h
/-- A row of two numbers rises just if the second is not less. -/
theorem sorted_two (b cap ah al bh bl : Nat) (w : World) (h0 : w.cell? ⟨b, 0, none⟩ = some (.int .u64 ah)) (h1 : w.cell? ⟨b, 1, none⟩ = some (.int .u64 al)) (h2 : w.cell? ⟨b, 2, none⟩ = some (.int .u64 bh)) (h3 : w.cell? ⟨b, 3, none⟩ = some (.int .u64 bl)) :
    Calls Try.prog 32 #[.slice (some ⟨b, 0, none⟩) 2 cap, .func (.func 33) #[] #[]] w fun e w' => e = .returned (.bool (decide (0 ≤ ordW bh bl ah al))) ∧ Below w.heap.size w w' := by
  go_enter Try.func32, Try.ntmps32
  go_wp2
  go_loopw [5] (fun i wr => (i = .int .i64 1 ∧ w = wr) ∨ (i = .int .i64 0 ∧ Below w.heap.size w wr ∧ 0 ≤ ordW bh bl ah al)) (fun i _ => (intOf i).toNat)
  case atStart => exact Or.inl ⟨rfl, rfl⟩
  case round =>
    rcases hrel with ⟨rfl, rfl⟩ | ⟨rfl, hb, hd⟩
    · go_upto_region 4 with fail
      have c0 : w.drew.cell? ⟨b, 0, none⟩ = some (.int .u64 ah) := h0
      have c1 : w.drew.cell? ⟨b, 1, none⟩ = some (.int .u64 al) := h1
      have c2 : w.drew.cell? ⟨b, 2, none⟩ = some (.int .u64 bh) := h2
      have c3 : w.drew.cell? ⟨b, 3, none⟩ = some (.int .u64 bl) := h3
      have hb := (Below.refl w.heap.size w).drew
      have q0 : IntKind.i64.wrap 0 = 0 := by rw [IntWalk.i64_in _ (by omega)]
      have q1 : IntKind.i64.wrap (1 - 1) = 0 := by rw [IntWalk.i64_in _ (by omega)]; rfl
      refine wp_region_still_tail 10 (by kernel_rfl) (by kernel_rfl) ?_
      change wpStill Try.prog _ w.drew (fun a' => wpList Try.prog _ _ _ a' w.drew) _ _
      generalize w.drew = V at *
      simp only [List.take_succ_cons, List.take_zero, List.drop_succ_cons, List.drop_zero]
      repeat still_step
      refine wpStill_nil ?_
      clear q0 q1
      by_cases hd : 0 ≤ ordW bh bl ah al
      · have hdd : decide (ordW bh bl ah al < 0) = false := decide_eq_false (by omega)
        have Hd := Lib.hid hd
        clear hd
        go_wp2_with (go_at_call 33; refine (compare_any bh bl ah al _).mono ?_; rintro e w' ⟨rfl, b1⟩; replace hb := hb.trans (b1.mono hb.size))
        go_roundw
        case rel => exact Or.inr ⟨rfl, hb, Hd.out⟩
        case measure => simp [intOf]
      · have hdd : decide (ordW bh bl ah al < 0) = true := decide_eq_true (by omega)
        have Hd : Hid (decide (0 ≤ ordW bh bl ah al) = false) := Lib.hid (decide_eq_false hd)
        clear hd
        go_wp2_with (go_at_call 33; refine (compare_any bh bl ah al _).mono ?_; rintro e w' ⟨rfl, b1⟩; replace hb := hb.trans (b1.mono hb.size))
        go_ret
        exact ⟨by rw [Hd.out]; rfl, hb⟩
    · have Hd : Hid (decide (0 ≤ ordW bh bl ah al) = true) := Lib.hid (decide_eq_true hd)
      clear hd
      go_wp2
      go_ret
      exact ⟨by rw [Hd.out]; rfl, hb⟩
theorem rising_any (b cap x y : Nat) (w : World) (h0 : w.cell? ⟨b, 0, none⟩ = some (.int .u64 ((x / 18446744073709551616 : Nat) : Int))) (h1 : w.cell? ⟨b, 1, none⟩ = some (.int .u64 ((x % 18446744073709551616 : Nat) : Int)))
    (h2 : w.cell? ⟨b, 2, none⟩ = some (.int .u64 ((y / 18446744073709551616 : Nat) : Int))) (h3 : w.cell? ⟨b, 3, none⟩ = some (.int .u64 ((y % 18446744073709551616 : Nat) : Int))) :
    Calls Try.prog 28 #[.slice (some ⟨b, 0, none⟩) 2 cap] w fun e w' => e = .returned (.bool (decide (x ≤ y))) ∧ Below w.heap.size w w' := by
  have He := Lib.hid (ord_says y x)
  go_enter Try.func28, Try.ntmps28
  go_wp2_with (go_at_call 32; refine (sorted_two b cap _ _ _ _ _ h0 h1 h2 h3).mono ?_; rintro e w' ⟨rfl, b1⟩)
  go_ret
  exact ⟨by rw [← He.out]; rfl, b1⟩

/-- A product, its two words under names. -/
theorem product_shut (x y : Nat) (hx : x < 18446744073709551616) (hy : y < 18446744073709551616) (w : World) :
    Calls Try.prog 26 #[.int .u64 x, .int .u64 y] w fun e w' => ∃ h l : Nat, e = .returned (.agg #[.int .u64 h, .int .u64 l]) ∧ Hid (h = x * y / 18446744073709551616 ∧ l = x * y % 18446744073709551616) ∧ Below w.heap.size w w' :=
  (product_any x y hx hy w).mono fun _ _ h => ⟨_, _, h.1, Lib.hid ⟨rfl, rfl⟩, h.2⟩
theorem rising_shut (b cap x y h l h' l' : Nat) (w : World) (e1 : h = x / 18446744073709551616 ∧ l = x % 18446744073709551616) (e2 : h' = y / 18446744073709551616 ∧ l' = y % 18446744073709551616)
    (h0 : w.cell? ⟨b, 0, none⟩ = some (.int .u64 h)) (h1 : w.cell? ⟨b, 1, none⟩ = some (.int .u64 l)) (h2 : w.cell? ⟨b, 2, none⟩ = some (.int .u64 h')) (h3 : w.cell? ⟨b, 3, none⟩ = some (.int .u64 l')) :
    Calls Try.prog 28 #[.slice (some ⟨b, 0, none⟩) 2 cap] w fun e w' => e = .returned (.bool (decide (x ≤ y))) ∧ Below w.heap.size w w' := by
  obtain ⟨rfl, rfl⟩ := e1
  obtain ⟨rfl, rfl⟩ := e2
  exact rising_any b cap x y w h0 h1 h2 h3
end Go.Proofs.Ytbhdjpohplpjdaa
