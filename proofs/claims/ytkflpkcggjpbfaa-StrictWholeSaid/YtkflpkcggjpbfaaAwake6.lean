/- The fixed probes of the layer: they all come out true, in every world. -/
import Derived.Test.YtkflpkcggjpbfaaStrict
import Derived.Lib.SmallJoins
namespace Go.Proofs.Ytkflpkcggjpbfaa
open Go.RowKit

theorem rd_lt {w : World} {g : Nat} {s : ByteArray} {r : Rs} (h : Rd w g s r) : g < w.heap.size := by obtain ⟨o, h1, _⟩ := h; exact obj_lt h1
theorem rd_step {w w' : World} {g : Nat} {s : ByteArray} {r : Rs} (h : Rd w g s r) (b : Below w.heap.size w w') : Rd w' g s r := by obtain ⟨o, h1, h2⟩ := h; exact ⟨o, old_obj b h1, h2⟩
theorem grown_below {B g : Nat} {w W W' : World} (h : Below B w W) (hg : W.grownBy W' (some g)) (hB : B ≤ g) (hs : B ≤ W.heap.size) : Below B w W' :=
  ⟨hg.os.trans h.os, hg.tape.trans h.tape, hg.output.trans h.output, Nat.le_trans h.size hg.size, fun k hk => (hg.block k (by omega) (by simp; omega)).trans (h.block k hk)⟩
def s17 : ByteArray := ⟨#[1, 7]⟩
def s01A : ByteArray := ⟨#[0, 1, 65]⟩
theorem same_fault (w : World) : (Op.equalIn 10000 58 (.agg #[.int .i64 3, .int .i64 1]) (.agg #[.int .i64 3, .int .i64 1])).run Try.prog w = .ok true w := by kernel_rfl
set_option maxRecDepth 100000 in
set_option maxHeartbeats 2000000 in
theorem awake6_any (w : World) : Calls Try.prog 6 #[] w fun e w' => e = .returned (.bool true) ∧ Below w.heap.size w w' := by
  have hb := Below.refl w.heap.size w
  have HN := Lib.hid (snew_any s17 (by decide))
  have H1 : Hid (∀ g v, Rd v g s17 ⟨0, 0⟩ → Calls Try.prog 12 #[.pointer (some ⟨g, 0, none⟩), .int .i64 1, .int .i64 9] v fun e w' => e = .returned (.int .i64 1) ∧ Rd w' g s17 ⟨1, 0⟩ ∧ v.grownBy w' (some g)) := Lib.hid fun g v h => snum_any s17 (by decide) ⟨0, 0⟩ ⟨by decide, by decide⟩ g 1 9 v h
  have H2 : Hid (∀ g v, Rd v g s17 ⟨1, 0⟩ → Calls Try.prog 12 #[.pointer (some ⟨g, 0, none⟩), .int .i64 1, .int .i64 6] v fun e w' => e = .returned (.int .i64 0) ∧ Rd w' g s17 ⟨1, 3⟩ ∧ v.grownBy w' (some g)) := Lib.hid fun g v h => snum_any s17 (by decide) ⟨1, 0⟩ ⟨by decide, by decide⟩ g 1 6 v h
  have HE : Hid (∀ g v, Rd v g s17 ⟨1, 3⟩ → Calls Try.prog 10 #[.pointer (some ⟨g, 0, none⟩)] v fun e w' => e = .returned (.iface 58 (.agg #[.int .i64 3, .int .i64 1])) ∧ Below v.heap.size v w') := Lib.hid fun g v h => serr_any s17 ⟨1, 3⟩ g v h
  have HA : Hid (∀ g v, Rd v g s17 ⟨1, 3⟩ → Calls Try.prog 11 #[.pointer (some ⟨g, 0, none⟩)] v fun e w' => e = .returned (.int .i64 1) ∧ w' = v) := Lib.hid fun g v h => sat_any s17 ⟨1, 3⟩ g v h
  have HN2 := Lib.hid (snew_any s01A (by decide))
  have H3 : Hid (∀ g v, Rd v g s01A ⟨0, 0⟩ → Calls Try.prog 14 #[.pointer (some ⟨g, 0, none⟩)] v fun e w' => e = .returned (.string ⟨#[65]⟩) ∧ Rd w' g s01A (serR s01A.data.toList ⟨0, 0⟩) ∧ v.grownBy w' (some g)) := Lib.hid fun g v h => sser_any s01A (by decide) ⟨0, 0⟩ ⟨by decide, by decide⟩ g v h
  unfold s17 at HN
  unfold s01A at HN2
  go_enter Try.func6, Try.ntmps6
  go_wp2_with fail
  refine (HN.out _).mono ?_
  rintro e w1 ⟨g, rfl, hg, hr1, b1⟩
  have HB1 := Lib.hid (hb.trans b1)
  have HR1 : Hid (Rd w1 g s17 ⟨0, 0⟩) := hr1
  have HG := Lib.hid hg
  clear hb b1 hr1 hg
  go_wp2_with fail
  refine (H1.out g _ HR1.out).mono ?_
  rintro e w2 ⟨rfl, hr2, g2⟩
  have HB2 := Lib.hid (grown_below HB1.out g2 HG.out HB1.out.size)
  have HR2 := Lib.hid hr2
  clear hr2 g2 HB1 HR1
  go_wp2_with fail
  refine (H2.out g _ HR2.out).mono ?_
  rintro e w3 ⟨rfl, hr3, g3⟩
  have HB3 := Lib.hid (grown_below HB2.out g3 HG.out HB2.out.size)
  have HR3 := Lib.hid hr3
  clear hr3 g3 HB2 HR2
  go_wp2_with fail
  refine (HE.out g _ HR3.out).mono ?_
  rintro e w4 ⟨rfl, b4⟩
  have HB4 := Lib.hid (HB3.out.trans (b4.mono HB3.out.size))
  have HR4 := Lib.hid (rd_step HR3.out b4)
  clear b4 HB3 HR3
  go_wp2_with fail
  refine (swhy_fault 3 1 _).mono ?_
  rintro e w5 ⟨rfl, b5⟩
  have HB5 := Lib.hid (HB4.out.trans (b5.mono HB4.out.size))
  have HR5 := Lib.hid (rd_step HR4.out b5)
  clear b5 HB4 HR4
  go_wp2_with fail
  refine (HE.out g _ HR5.out).mono ?_
  rintro e w6 ⟨rfl, b6⟩
  have HB6 := Lib.hid (HB5.out.trans (b6.mono HB5.out.size))
  have HR6 := Lib.hid (rd_step HR5.out b6)
  clear b6 HB5 HR5
  go_wp2_with fail
  refine (smust_any 3 1 _).mono ?_
  rintro e w7 ⟨rfl, b7⟩
  have HB7 := Lib.hid (HB6.out.trans (b7.mono HB6.out.size))
  have HR7 := Lib.hid (rd_step HR6.out b7)
  clear b7 HB6 HR6
  go_wp2_with fail
  refine (swhy_errno 3 _).mono ?_
  rintro e w8 ⟨rfl, b8⟩
  have hF : Below w7.heap.size w7 (w7.alloc (.cells #[.int .i64 3, .int .i64 1] 58)) := (Below.refl _ _).alloc (Nat.le_refl _) _
  have hF8 := hF.trans (b8.mono hF.size)
  have HG8 : Hid (w8.heap[w7.heap.size]? = _) := Lib.hid (old_obj b8 (heap_alloc_new w7 (.cells #[.int .i64 3, .int .i64 1] 58)))
  have HB8 := Lib.hid (HB7.out.trans (hF8.mono HB7.out.size))
  have HR8 := Lib.hid (rd_step HR7.out hF8)
  clear b8 hF hF8 HB7 HR7
  go_wp2_with fail
  refine (swhy_nil _).mono ?_
  rintro e w9 ⟨rfl, b9⟩
  have hG9 := old_obj b9 HG8.out
  have c0 := cell_of (j := 0) hG9 rfl
  have c1 := cell_of (j := 1) hG9 rfl
  have HB9 := Lib.hid (HB8.out.trans (b9.mono HB8.out.size))
  have HR9 := Lib.hid (rd_step HR8.out b9)
  have HG9 := Lib.hid hG9
  clear b9 HB8 HR8 HG8 hG9
  go_wp2_with (go_at_call 11; refine (HA.out g _ HR9.out).mono ?_; rintro e w' ⟨rfl, rfl⟩)
  refine (stext3 1 _).mono ?_
  rintro e w10 ⟨rfl, b10⟩
  have HB10 := Lib.hid (HB9.out.trans (b10.mono HB9.out.size))
  clear b10 HB9 HR9 HG9 c0 c1
  go_wp2_with fail
  refine (HN2.out _).mono ?_
  rintro e w11 ⟨g2, rfl, hg2, hr2, b11⟩
  have HB11 := Lib.hid (HB10.out.trans (b11.mono HB10.out.size))
  have HR11 : Hid (Rd w11 g2 s01A ⟨0, 0⟩) := hr2
  have HG2 : Hid (w.heap.size ≤ g2) := Lib.hid (by have := HB10.out.size; omega)
  clear b11 hr2 hg2 HB10
  go_wp2_with fail
  refine (H3.out g2 _ HR11.out).mono ?_
  rintro e w12 ⟨rfl, _, g12⟩
  have HB12 := Lib.hid (grown_below HB11.out g12 HG2.out HB11.out.size)
  clear g12 HB11 HR11
  go_wp2
  go_ret
  exact ⟨rfl, HB12.out⟩
end Go.Proofs.Ytkflpkcggjpbfaa
