/- The program's indices by descending keys: the closures and greatestFirst, in every world. -/
import Derived.Test.YtmdonhkdkapjpaaStable
import Derived.Test.YtmdonhkdkapjpaaWhole
namespace Go.Proofs.Ytmdonhkdkapjpaa
open Go.RowKit

/-- The keys of the indices. -/
def keyOf (r : Nat → Int) (x : Int) : Int := r x.toNat
/-- The captured row of keys: its box and its cells lie below block B. -/
structure Keys (B : Nat) (w : World) (bx g n : Nat) (r : Nat → Int) : Prop where
  box : w.cell? ⟨bx, 0, none⟩ = some (.slice (some ⟨g, 0, none⟩) n n)
  cell : ∀ j, j < n → w.cell? ⟨g, j, none⟩ = some (.int .i64 (r j))
  lb : bx < B
  lg : g < B
theorem Keys.below {B : Nat} {w w' : World} {bx g n : Nat} {r : Nat → Int} (h : Keys B w bx g n r) (hb : Below B w w') : Keys B w' bx g n r :=
  ⟨(hb.cell (p := ⟨bx, 0, none⟩) h.lb).trans h.box, fun j hj => (hb.cell (p := ⟨g, j, none⟩) h.lg).trans (h.cell j hj), h.lb, h.lg⟩
theorem Keys.up {B B' : Nat} {w : World} {bx g n : Nat} {r : Nat → Int} (h : Keys B w bx g n r) (hB : B ≤ B') : Keys B' w bx g n r := ⟨h.box, h.cell, Nat.lt_of_lt_of_le h.lb hB, Nat.lt_of_lt_of_le h.lg hB⟩

theorem key_any {B : Nat} {w : World} {bx g n : Nat} {r : Nat → Int} (h : Keys B w bx g n r) (x : Int) (h0 : 0 ≤ x) (h1 : x < n) :
    Calls Try.prog 28 #[.int .i64 x, .pointer (some ⟨bx, 0, none⟩)] w fun e w' => e = .returned (.int .i64 (keyOf r x)) ∧ w' = w := by
  obtain ⟨k, rfl⟩ : ∃ k : Nat, x = k := ⟨x.toNat, by omega⟩
  have c1 := h.box
  have c2 := h.cell k (by omega)
  have hk : Hid (keyOf r (k : Int) = r k) := Lib.hid (by unfold keyOf; rw [Int.toNat_natCast])
  clear h
  go_enter Try.func28, Try.ntmps28
  go_wp2
  go_ret
  exact ⟨by rw [hk.out]; rfl, rfl⟩

set_option maxHeartbeats 2000000 in
theorem cmp_any {B : Nat} {w : World} {bx g n pb : Nat} {r : Nat → Int} (h : Keys B w bx g n r) (hp : w.cell? ⟨pb, 0, none⟩ = some (.func (.func 28) #[] #[.pointer (some ⟨bx, 0, none⟩)])) (x y : Int) (hx0 : 0 ≤ x) (hx1 : x < n) (hy0 : 0 ≤ y) (hy1 : y < n) :
    Calls Try.prog 36 #[.int .i64 x, .int .i64 y, .pointer (some ⟨pb, 0, none⟩)] w fun e w' => e = .returned (.int .i64 (cfOf (keyOf r) x y)) ∧ ∃ q, w' = w.drewN q := by
  have HX : Hid (∀ m, Calls Try.prog 28 #[.int .i64 x, .pointer (some ⟨bx, 0, none⟩)] (w.drewN m) fun e w' => e = .returned (.int .i64 (keyOf r x)) ∧ w' = w.drewN m) :=
    Lib.hid fun m => key_any (B := B) (w := w.drewN m) ⟨h.box, h.cell, h.lb, h.lg⟩ x hx0 hx1
  have HY : Hid (∀ m, Calls Try.prog 28 #[.int .i64 y, .pointer (some ⟨bx, 0, none⟩)] (w.drewN m) fun e w' => e = .returned (.int .i64 (keyOf r y)) ∧ w' = w.drewN m) :=
    Lib.hid fun m => key_any (B := B) (w := w.drewN m) ⟨h.box, h.cell, h.lb, h.lg⟩ y hy0 hy1
  have HC : Hid (∀ v, Calls Try.prog 37 #[.int .i64 (keyOf r y), .int .i64 (keyOf r x)] v fun e w' => e = .returned (.int .i64 (cfOf (keyOf r) x y)) ∧ w' = v) := Lib.hid fun v => Try.cmp_Compare_int _ _ v
  clear h
  go_enter Try.func36, Try.ntmps36
  go_wp2_with fail
  go_quiet (first
    | (go_at_call 28; first | (refine Calls.quiet_of_same (HY.out _)) | (refine Calls.quiet_of_same (HX.out _)))
    | (go_at_call 37; refine Calls.quiet_of_same (HC.out _)))
  go_wp2
  go_ret
  exact ⟨rfl, nq, rfl⟩

/-- The first k places hold their own numbers, the others nothing. -/
def upto (k : Nat) (i : Nat) : Int := if i < k then i else 0
theorem upto_none (n : Nat) : intCells (List.replicate n 0) = intCells ((List.range n).map (upto 0)) := by
  unfold intCells
  refine congrArg _ (List.ext_getElem (by simp) fun i h1 h2 => ?_)
  simp [upto]
theorem upto_more {B g n cap k : Nat} {w : World} (h : RowOf B g n cap (upto k) w) : RowOf B g n cap (upto (k + 1)) (w.setCell ⟨g, k, none⟩ (.int .i64 k)) := by
  have h1 := own_stored h k (f' := upto (k + 1)) (fun i _ hi => by unfold upto; by_cases h2 : i < k <;> simp [h2] <;> omega)
  have h2 : upto (k + 1) k = (k : Int) := by unfold upto; rw [if_pos (by omega)]
  rw [h2] at h1
  exact h1

set_option maxRecDepth 100000 in
set_option maxHeartbeats 2000000 in
theorem firsts_any {w : World} {bx g0 n : Nat} {r : Nat → Int} (h : Keys w.heap.size w bx g0 n r) (hn : n ≤ 1000000) :
    Calls Try.prog 27 #[.int .i64 n, .func (.func 28) #[] #[.pointer (some ⟨bx, 0, none⟩)]] w fun e w' => ∃ g f, e = .returned (.slice (some ⟨g, 0, none⟩) n n) ∧ So (keyOf r) f 0 n ∧ Vals f n ∧ RowOf w.heap.size g n n f w' ∧ Below w.heap.size w w' := by
  obtain ⟨i0, hi, hz0, hz1, hz2⟩ := info_parts infoInt
  have hmf : ∀ (fn : Fn) (first cap : Array Value) (w : World), (Instr.makeFunc fn first cap).run Try.prog w = .ok (.func fn first cap) w := fun _ _ _ _ => rfl
  obtain ⟨W, hW⟩ : ∃ W, W = w.alloc (.cells #[.func (.func 28) #[] #[.pointer (some ⟨bx, 0, none⟩)]] 51) := ⟨_, rfl⟩
  have hb0 : Below w.heap.size w W := by rw [hW]; exact (Below.refl _ w).alloc (Nat.le_refl _) _
  have hs : W.heap.size = w.heap.size + 1 := by rw [hW, World.size_alloc]
  have hp : W.cell? ⟨w.heap.size, 0, none⟩ = some (.func (.func 28) #[] #[.pointer (some ⟨bx, 0, none⟩)]) := by rw [hW]; simp
  have HB0 := Lib.hid hb0
  have HSZ := Lib.hid hs
  have HP := Lib.hid hp
  have HKY := Lib.hid h
  clear h hb0 hs hp
  go_enter Try.func27, Try.ntmps27
  go_upto_region 1 with fail
  rw [← hW]
  clear hW
  go_wp2_with (at_make; refine wpList_make_full _ rfl _ _ 22 rfl W.heap.size 3 i0 (.int .i64 0) 1 Try.underlying22 hi hz0 hz1 .i64 .i64 _ _ n rfl rfl rfl rfl (by rw [hz2]; omega) (by unfold maxLen; omega) (Nat.le_refl _) ?_)
  intro w1 hown hg
  rw [made_zero, upto_none n] at hown
  have HR1 : Hid (RowOf W.heap.size W.heap.size n n (upto 0) w1) := hown
  have HB1 : Hid (Below W.heap.size W w1) := (Below.refl _ W).grown hg (Nat.le_refl _) (by simp)
  clear hown hg hz0 hz1 hz2 hi
  go_wp2
  go_loopw [11] (fun i' wr => ∃ k : Nat, i' = .int .i64 k ∧ k ≤ n ∧ Hid (RowOf W.heap.size W.heap.size n n (upto k) wr) ∧ Hid (Below W.heap.size W wr)) (fun k _ => n - (intOf k).toNat)
  case atStart => exact ⟨0, rfl, by omega, HR1, HB1⟩
  case round =>
    clear HR1 HB1
    obtain ⟨k, rfl, hk, hr, hbl⟩ := hrel
    by_cases hlt : k < n
    · have i1 : (k : Int) < (n : Int) := by omega
      have cA := own_cell hr.out k hlt
      have fA := hr.out.frozenAt k
      have HRN := Lib.hid (upto_more hr.out)
      have HBN : Hid (Below W.heap.size W (wr.setCell ⟨W.heap.size, k, none⟩ (.int .i64 k))) := Lib.hid (hbl.out.setCell (p := ⟨W.heap.size, k, none⟩) (Nat.le_refl _) _)
      clear hr hbl
      go_wp2
      go_roundw
      case rel => exact ⟨k + 1, by go_num, by omega, HRN, HBN⟩
      case measure => simp [intOf]; omega
    · obtain rfl : k = n := by omega
      have HCM : Hid (Cmps (keyOf r) W.heap.size W k ⟨w.heap.size, 0, none⟩) := Lib.hid fun x y hx0 hx1 hy0 hy1 v hv =>
        cmp_any (((HKY.out.below HB0.out).up (by rw [HSZ.out]; omega)).below hv) ((hv.cell (p := ⟨w.heap.size, 0, none⟩) (by show w.heap.size < W.heap.size; rw [HSZ.out]; omega)).trans HP.out) x y hx0 hx1 hy0 hy1
      have hval : Vals (upto k) k := fun j hj => by unfold upto; rw [if_pos hj]; omega
      have hst : St (keyOf r) (upto k) 0 k := fun p q _ h2 h3 _ => by unfold upto; rw [if_pos (by omega), if_pos h3]; omega
      have HSR := Lib.hid (sort_any (keyOf r) W.heap.size W.heap.size k k ⟨w.heap.size, 0, none⟩ (upto k) W wr hr.out hbl.out (by omega) hval hst HCM.out)
      have HVL := Lib.hid hval
      clear hval hst hr hbl HCM
      go_wp2_with (go_at_call 35; refine HSR.out.mono ?_; rintro e w2 ⟨rfl, f, hso, hsub, hrow, hbl⟩)
      go_ret
      exact ⟨W.heap.size, f, rfl, hso, HVL.out.sub hsub (Nat.le_refl _), ⟨hrow.1, by
        rcases hrow.2 with h1 | ⟨g, cap, cur, h1, h2, h3⟩
        · exact Or.inl h1
        · exact Or.inr ⟨g, cap, cur, h1, by have := HSZ.out; omega, h3⟩⟩, HB0.out.trans (hbl.mono (by rw [HSZ.out]; omega))⟩
end Go.Proofs.Ytmdonhkdkapjpaa
