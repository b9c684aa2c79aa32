/- The walk of StrictReads: it returns true in every world and leaves what lay there. -/
import Derived.Test.YtkflpkcggjpbfaaAwake6
import Derived.Test.YtkflpkcggjpbfaaRead6
import Derived.Test.YtkflpkcggjpbfaaPieces
namespace Go.Proofs.Ytkflpkcggjpbfaa
open Go.RowKit
attribute [local go_sem ↓] Go.wp_at_zero Go.wp_at_succ

theorem piece_in {S : List UInt8} {r : Rs} {k x m : Int} (h : Within S r) : Within S (pieceR S r k x m) := by
  unfold pieceR
  split; exact num_in h
  split; exact text_in h
  split; exact ser_in h
  split; exact row_in h
  split; exact sers_in h
  split; exact flag_in h
  split; exact end_in h
  exact h
theorem Pieces.below {B : Nat} {w w' : World} {a : Option Addr} {l : List Pce} (h : Pieces B w a l) (hb : Below B w w') : Pieces B w' a l := by
  rcases h with h | ⟨b, off, ha, hB, hc⟩
  · exact Or.inl h
  · refine Or.inr ⟨b, off, ha, hB, fun j hj => ?_⟩
    obtain ⟨c0, c1, c2⟩ := hc j hj
    exact ⟨(hb.cell (p := ⟨b, off + j * 3, none⟩) hB).trans c0, (hb.cell (p := ⟨b, off + j * 3 + 1, none⟩) hB).trans c1, (hb.cell (p := ⟨b, off + j * 3 + 2, none⟩) hB).trans c2⟩

/-- Behind the reading of one piece: the call came ahead of the new variable. -/
theorem way_one {w wr v1 : World} {g T : Nat} {s : ByteArray} {q : Rs} {oT : Obj} (hT : wr.heap[T]? = some oT) (hB : Below w.heap.size w wr) (hg : w.heap.size ≤ g) (hG : wr.grownBy v1 (some g)) (hR : Rd v1 g s q) (hTg : T ≠ g) (o : Obj) :
    (v1.alloc o).heap[T]? = some oT ∧ Rd (v1.alloc o) g s q ∧ Below w.heap.size w (v1.alloc o) := by
  have ha : Below v1.heap.size v1 (v1.alloc o) := (Below.refl _ _).alloc (Nat.le_refl _) _
  have hb := grown_below hB hG hg hB.size
  exact ⟨old_obj ha (grown_obj hG hT hTg), rd_step hR ha, hb.trans (ha.mono hb.size)⟩
/-- The new variable came ahead of the call. -/
theorem way_two {w wr W v1 : World} {g T K : Nat} {s : ByteArray} {q : Rs} {oT : Obj} {a b c x y z : Value} {t : TypeId} (hT : W.heap[T]? = some oT) (hK : W.heap[K]? = some (.cells #[a, b, c] t (0, 0))) (hB : Below w.heap.size w wr) (hg : w.heap.size ≤ g) (hG : W.grownBy v1 (some g)) (hR : Rd v1 g s q) (hTK : T < K) (hTg : T ≠ g) (hKg : K ≠ g) (hW : W = (wr.alloc (.cells #[a, b, c] t)).drew := by rfl) (hwK : K = wr.heap.size := by rfl) :
    (((v1.setCell ⟨K, 0, none⟩ x).setCell ⟨K, 1, none⟩ y).setCell ⟨K, 2, none⟩ z).heap[K]? = some (.cells #[x, y, z] t (0, 0)) ∧ (((v1.setCell ⟨K, 0, none⟩ x).setCell ⟨K, 1, none⟩ y).setCell ⟨K, 2, none⟩ z).heap[T]? = some oT ∧ Rd (((v1.setCell ⟨K, 0, none⟩ x).setCell ⟨K, 1, none⟩ y).setCell ⟨K, 2, none⟩ z) g s q ∧ Below w.heap.size w (((v1.setCell ⟨K, 0, none⟩ x).setCell ⟨K, 1, none⟩ y).setCell ⟨K, 2, none⟩ z) := by
  have hs : ∀ k, k ≠ K → (((v1.setCell ⟨K, 0, none⟩ x).setCell ⟨K, 1, none⟩ y).setCell ⟨K, 2, none⟩ z).heap[k]? = v1.heap[k]? := fun k hk => by
    rw [Below.heap_setCell _ _ _ k hk, Below.heap_setCell _ _ _ k hk, Below.heap_setCell _ _ _ k hk]
  have hbW : Below w.heap.size w W := by rw [hW]; exact (hB.alloc hB.size _).drew
  have hb := grown_below hbW hG hg hbW.size
  refine ⟨three_stored (grown_obj hG hK hKg) x y z, by rw [hs T (by omega)]; exact grown_obj hG hT hTg, ?_, three_below hb (by rw [hwK]; exact hB.size) x y z⟩
  obtain ⟨o, e1, e2⟩ := hR
  exact ⟨o, by rw [hs g (by omega)]; exact e1, e2⟩

theorem stored_all {w W : World} {g T : Nat} {s : ByteArray} {q : Rs} {a b c x y z : Value} {t : TypeId} (hT : W.heap[T]? = some (.cells #[a, b, c] t (0, 0))) (hR : Rd W g s q) (hTg : T ≠ g) (hB : Below w.heap.size w W) (hw : w.heap.size ≤ T) :
    (((W.setCell ⟨T, 0, none⟩ x).setCell ⟨T, 1, none⟩ y).setCell ⟨T, 2, none⟩ z).heap[T]? = some (.cells #[x, y, z] t (0, 0)) ∧ Rd (((W.setCell ⟨T, 0, none⟩ x).setCell ⟨T, 1, none⟩ y).setCell ⟨T, 2, none⟩ z) g s q ∧ Below w.heap.size w (((W.setCell ⟨T, 0, none⟩ x).setCell ⟨T, 1, none⟩ y).setCell ⟨T, 2, none⟩ z) := by
  refine ⟨three_stored hT x y z, ?_, three_below hB hw x y z⟩
  obtain ⟨o, e1, e2⟩ := hR
  exact ⟨o, by rw [Below.heap_setCell _ _ _ g (by simp; omega), Below.heap_setCell _ _ _ g (by simp; omega), Below.heap_setCell _ _ _ g (by simp; omega)]; exact e1, e2⟩

set_option maxRecDepth 100000 in
set_option maxHeartbeats 4000000 in
theorem strictReads_walk (w : World) (s : ByteArray) (_hs : s.size ≤ maxLen) (a : Option Addr) (cap : Nat) (l : List Pce) (_hm : l.length ≤ maxLen) (ht : Pieces w.heap.size w a l) :
    Calls Try.prog 3 #[.string s, .slice a l.length cap] w fun e w' => e = .returned (.bool true) ∧ Below w.heap.size w w' := by
  have HA := Lib.hid awake6_any
  have hb := Below.refl w.heap.size w
  by_cases hs : 2000 < s.size
  · have d1 : decide ((2000 : Int) < (s.size : Int)) = true := decide_eq_true (by omega)
    have d2 : decide (2000 < s.size) = true := decide_eq_true hs
    clear hs
    go_enter Try.func3, Try.ntmps3
    go_wp2_with (go_at_call 6; refine (HA.out _).mono ?_; rintro e w1 ⟨rfl, b1⟩)
    go_ret
    exact ⟨rfl, b1⟩
  · have d1 : decide ((2000 : Int) < (s.size : Int)) = false := decide_eq_false (by omega)
    have d2 : decide (2000 < s.size) = false := decide_eq_false hs
    by_cases hl : 40 < l.length
    · have d3 : decide ((40 : Int) < (l.length : Int)) = true := decide_eq_true (by omega)
      have d4 : decide (40 < l.length) = true := decide_eq_true hl
      clear hs hl
      go_enter Try.func3, Try.ntmps3
      go_wp2_with (go_at_call 6; refine (HA.out _).mono ?_; rintro e w1 ⟨rfl, b1⟩)
      go_ret
      exact ⟨rfl, b1⟩
    · have d3 : decide ((40 : Int) < (l.length : Int)) = false := decide_eq_false (by omega)
      have d4 : decide (40 < l.length) = false := decide_eq_false hl
      have hs2 : s.size ≤ 4611686018427387904 := by omega
      have HP := Lib.hid ht
      have HL : Hid (l.length ≤ 40) := Lib.hid (by omega)
      have HN := Lib.hid (snew_any s (by omega) w)
      have HC := Lib.hid (fun r hr g k x m v h => read_any s hs2 r hr g k x m v h)
      clear hs hl hs2 ht
      go_enter Try.func3, Try.ntmps3
      go_wp2_with fail
      refine HN.out.mono ?_
      rintro e w1 ⟨g, rfl, hg, hr1, b1⟩
      have HB1 := Lib.hid b1
      have HR1 := Lib.hid hr1
      have HG := Lib.hid hg
      have hgl := rd_lt hr1
      clear b1 hr1 hg d1 d2 d3 d4 hb
      go_wp2_with fail
      obtain ⟨T, hT⟩ : ∃ T, T = w1.heap.size := ⟨_, rfl⟩
      have HT0 : Hid ((w1.alloc (.cells #[.string s, .int .i64 0, .int .i64 0] 27)).heap[T]? = some (.cells #[.string s, .int .i64 (⟨0, 0⟩ : Rs).p, .int .i64 (⟨0, 0⟩ : Rs).e] 27 (0, 0))) := Lib.hid (by rw [hT]; exact heap_alloc_new _ _)
      have hbT : Below w1.heap.size w1 (w1.alloc (.cells #[.string s, .int .i64 0, .int .i64 0] 27)) := (Below.refl _ _).alloc (Nat.le_refl _) _
      have HR2 := Lib.hid (rd_step HR1.out hbT)
      have HB2 := Lib.hid (HB1.out.trans (hbT.mono HB1.out.size))
      have HgT : Hid (g < T) := Lib.hid (by omega)
      have HwT : Hid (w.heap.size ≤ T) := Lib.hid (by have := HB1.out.size; omega)
      rw [← hT]
      clear hT hbT hgl HB1 HR1
      go_loopw [7, 8, 9] (fun i _ _ wr => ∃ (k : Nat) (r : Rs), i = .int .i64 k ∧ k ≤ l.length ∧ Hid (Within s.data.toList r) ∧ Hid (wr.heap[T]? = some (.cells #[.string s, .int .i64 r.p, .int .i64 r.e] 27 (0, 0))) ∧ Hid (Rd wr g s r) ∧ Hid (Below w.heap.size w wr)) (fun i _ _ _ => l.length - (intOf i).toNat)
      case atStart => exact ⟨0, ⟨0, 0⟩, rfl, by omega, Lib.hid ⟨by simp, by simp⟩, HT0, HR2, HB2⟩
      case round =>
        clear HT0 HR2 HB2
        obtain ⟨k, r, rfl, hk, hw, hT, hR, hB⟩ := hrel
        by_cases hlt : k < l.length
        · have i1 : (k : Int) < (l.length : Int) := by omega
          have i2 : (0 : Int) ≤ (k : Int) := by omega
          have i3 : k < 40 := by have := HL.out; omega
          rcases HP.out.below hB.out with h0 | ⟨b, off, rfl, hbw, hc⟩
          · rw [h0] at hlt; exact absurd hlt (by simp)
          · obtain ⟨p0, p1, p2⟩ := hc k hlt
            obtain ⟨t0, t1, t2, _, _, _⟩ := three_cells hT.out
            obtain ⟨q, hq⟩ : ∃ q, q = pieceR s.data.toList r (pieceAt l k).k (pieceAt l k).x (pieceAt l k).m := ⟨_, rfl⟩
            have HQ : Hid (Within s.data.toList q) := Lib.hid (by rw [hq]; exact piece_in hw.out)
            have HCk : Hid (∀ v, Rd v g s r → Calls Try.prog 8 #[.pointer (some ⟨g, 0, none⟩), .agg #[.string s, .int .i64 r.p, .int .i64 r.e], .agg #[.int .i64 (pieceAt l k).k, .int .i64 (pieceAt l k).x, .int .i64 (pieceAt l k).m]] v fun e w' => e = .returned (.tuple #[.agg #[.string s, .int .i64 q.p, .int .i64 q.e], .bool true]) ∧ Rd w' g s q ∧ v.grownBy w' (some g)) := Lib.hid fun v h => by rw [hq]; exact HC.out r hw.out g (pieceAt l k).k (pieceAt l k).x (pieceAt l k).m v h
            clear hq
            obtain ⟨pk, hpk⟩ : ∃ q, q = (pieceAt l k).k := ⟨_, rfl⟩
            obtain ⟨px, hpx⟩ : ∃ q, q = (pieceAt l k).x := ⟨_, rfl⟩
            obtain ⟨pm, hpm⟩ : ∃ q, q = (pieceAt l k).m := ⟨_, rfl⟩
            rw [← hpk] at p0 HCk
            rw [← hpx] at p1 HCk
            rw [← hpm] at p2 HCk
            clear hc hpk hpx hpm
            have HRd1 : Hid (Rd wr.drew g s r) := Lib.hid (rd_step hR.out (drew_step wr))
            have HRd2 : Hid (Rd (wr.alloc (.cells #[.string ⟨#[]⟩, .int .i64 0, .int .i64 0] 27)).drew g s r) := Lib.hid (rd_step (rd_step hR.out ((Below.refl _ wr).alloc (Nat.le_refl _) (.cells #[.string ⟨#[]⟩, .int .i64 0, .int .i64 0] 27))) (drew_step _))
            have HPC : Hid ((wr.cell? ⟨b, off + k * 3, none⟩ = some (.int .i64 pk) ∧ wr.cell? ⟨b, off + k * 3 + 1, none⟩ = some (.int .i64 px) ∧ wr.cell? ⟨b, off + k * 3 + 2, none⟩ = some (.int .i64 pm)) ∧ b ≠ g ∧ T ≠ g) := Lib.hid ⟨⟨p0, p1, p2⟩, by have := HG.out; omega, by have := HgT.out; omega⟩
            have HTK : T < wr.heap.size := obj_lt hT.out
            have HbK : b < wr.heap.size := by have := hB.out.size; omega
            have HgK : g < wr.heap.size := rd_lt hR.out
            have n1 : ¬ (wr.heap.size = T) := by omega
            have n2 : ¬ (T = wr.heap.size) := by omega
            have n3 : ¬ (wr.heap.size = b) := by omega
            have n4 : ¬ (b = wr.heap.size) := by omega
            have bZ : Below wr.heap.size wr (wr.alloc (.cells #[.string ⟨#[]⟩, .int .i64 0, .int .i64 0] 27)).drew := ((Below.refl _ wr).alloc (Nat.le_refl _) _).drew
            have HP2 : Hid (((wr.alloc (.cells #[.string ⟨#[]⟩, .int .i64 0, .int .i64 0] 27)).drew.cell? ⟨b, off + k * 3, none⟩ = some (.int .i64 pk) ∧ (wr.alloc (.cells #[.string ⟨#[]⟩, .int .i64 0, .int .i64 0] 27)).drew.cell? ⟨b, off + k * 3 + 1, none⟩ = some (.int .i64 px) ∧ (wr.alloc (.cells #[.string ⟨#[]⟩, .int .i64 0, .int .i64 0] 27)).drew.cell? ⟨b, off + k * 3 + 2, none⟩ = some (.int .i64 pm)) ∧ (wr.alloc (.cells #[.string ⟨#[]⟩, .int .i64 0, .int .i64 0] 27)).drew.heap[T]? = some (.cells #[.string s, .int .i64 r.p, .int .i64 r.e] 27 (0, 0)) ∧ (wr.alloc (.cells #[.string ⟨#[]⟩, .int .i64 0, .int .i64 0] 27)).drew.heap[wr.heap.size]? = some (.cells #[.string ⟨#[]⟩, .int .i64 0, .int .i64 0] 27) ∧ wr.heap.size ≠ g) :=
              Lib.hid ⟨⟨(bZ.cell (p := ⟨b, off + k * 3, none⟩) HbK).trans p0, (bZ.cell (p := ⟨b, off + k * 3 + 1, none⟩) HbK).trans p1, (bZ.cell (p := ⟨b, off + k * 3 + 2, none⟩) HbK).trans p2⟩, old_obj bZ hT.out, heap_alloc_new _ _, by omega⟩
            clear bZ
            go_upto_region 10 with fail
            go_cut [8, 9] (fun s8 s9 wx => s9 = .bool true ∧ ∃ (K : Nat) (q : Rs), s8 = .pointer (some ⟨K, 0, none⟩) ∧ Hid (wx.heap[K]? = some (.cells #[.string s, .int .i64 q.p, .int .i64 q.e] 27 (0, 0))) ∧ Hid (T < K) ∧ Hid (wx.heap[T]? = some (.cells #[.string s, .int .i64 r.p, .int .i64 r.e] 27 (0, 0))) ∧ Hid (Rd wx g s q) ∧ Hid (Below w.heap.size w wx) ∧ Hid (Within s.data.toList q))
            case first =>
              go_region_held3 (fun v => v.cell? ⟨T, 0, none⟩ = some (.string s) ∧ v.cell? ⟨T, 1, none⟩ = some (.int .i64 r.p) ∧ v.cell? ⟨T, 2, none⟩ = some (.int .i64 r.e) ∧ v.cell? ⟨b, off + k * 3, none⟩ = some (.int .i64 pk) ∧ v.cell? ⟨b, off + k * 3 + 1, none⟩ = some (.int .i64 px) ∧ v.cell? ⟨b, off + k * 3 + 2, none⟩ = some (.int .i64 pm)) (first | go_keep)
                (first
                  | (go_at_call 8; refine (HCk.out wr.drew HRd1.out).mono ?_; rintro e v1 ⟨rfl, hR1, hG1⟩; have HR1 := Lib.hid hR1; have HG1 := Lib.hid hG1; obtain ⟨t0, t1, t2, _, _, _⟩ := three_cells (grown_obj hG1 (show wr.drew.heap[T]? = _ from hT.out) HPC.out.2.2); have p0 := World.grownBy.cell hG1 (show wr.drew.cell? ⟨b, off + k * 3, none⟩ = _ from HPC.out.1.1) (by simpa using HPC.out.2.1); have p1 := World.grownBy.cell hG1 (show wr.drew.cell? ⟨b, off + k * 3 + 1, none⟩ = _ from HPC.out.1.2.1) (by simpa using HPC.out.2.1); have p2 := World.grownBy.cell hG1 (show wr.drew.cell? ⟨b, off + k * 3 + 2, none⟩ = _ from HPC.out.1.2.2) (by simpa using HPC.out.2.1); clear hR1 hG1)
                  | (go_at_call 8; refine (HCk.out (wr.alloc (.cells #[.string ⟨#[]⟩, .int .i64 0, .int .i64 0] 27)).drew HRd2.out).mono ?_; rintro e v1 ⟨rfl, hR1, hG1⟩; have HR1 := Lib.hid hR1; have HG1 := Lib.hid hG1; obtain ⟨t0, t1, t2, _, _, _⟩ := three_cells (grown_obj hG1 (show (wr.alloc (.cells #[.string ⟨#[]⟩, .int .i64 0, .int .i64 0] 27)).drew.heap[T]? = _ from HP2.out.2.1) HPC.out.2.2); have p0 := World.grownBy.cell hG1 (show (wr.alloc (.cells #[.string ⟨#[]⟩, .int .i64 0, .int .i64 0] 27)).drew.cell? ⟨b, off + k * 3, none⟩ = _ from HP2.out.1.1) (by simpa using HPC.out.2.1); have p1 := World.grownBy.cell hG1 (show (wr.alloc (.cells #[.string ⟨#[]⟩, .int .i64 0, .int .i64 0] 27)).drew.cell? ⟨b, off + k * 3 + 1, none⟩ = _ from HP2.out.1.2.1) (by simpa using HPC.out.2.1); have p2 := World.grownBy.cell hG1 (show (wr.alloc (.cells #[.string ⟨#[]⟩, .int .i64 0, .int .i64 0] 27)).drew.cell? ⟨b, off + k * 3 + 2, none⟩ = _ from HP2.out.1.2.2) (by simpa using HPC.out.2.1); obtain ⟨z0, z1, z2, y0, y1, y2⟩ := three_cells (grown_obj hG1 HP2.out.2.2.1 HP2.out.2.2.2); clear hR1 hG1))
              · have HW := Lib.hid (way_one (wr := wr.drew) hT.out hB.out.drew HG.out HG1.out HR1.out HPC.out.2.2 (.cells #[.string s, .int .i64 q.p, .int .i64 q.e] 27))
                have HTV : Hid (T < v1.heap.size) := Lib.hid (by have := HG1.out.size; have : wr.drew.heap.size = wr.heap.size := rfl; omega)
                go_wp2_with fail
                go_meet
                exact ⟨rfl, v1.heap.size, q, rfl, Lib.hid (heap_alloc_new _ _), HTV, Lib.hid HW.out.1, Lib.hid HW.out.2.1, Lib.hid HW.out.2.2, HQ⟩
              · have HW := Lib.hid (way_two (x := .string s) (y := .int .i64 q.p) (z := .int .i64 q.e) HP2.out.2.1 HP2.out.2.2.1 hB.out HG.out HG1.out HR1.out HTK HPC.out.2.2 HP2.out.2.2.2)
                go_wp2_with fail
                go_meet
                exact ⟨rfl, wr.heap.size, q, rfl, Lib.hid HW.out.1, Lib.hid HTK, Lib.hid HW.out.2.1, Lib.hid HW.out.2.2.1, Lib.hid HW.out.2.2.2, HQ⟩
            case rest =>
              obtain ⟨rfl, K, q', rfl, hK, hTK, hT2, hR2, hB2, hq2⟩ := hcut
              obtain ⟨c0, c1, c2, _, _, _⟩ := three_cells hK.out
              obtain ⟨t0, t1, t2, f0, f1, f2⟩ := three_cells hT2.out
              have HFin := Lib.hid (stored_all (x := .string s) (y := .int .i64 q'.p) (z := .int .i64 q'.e) hT2.out hR2.out (by have := HPC.out.2.2; exact this) hB2.out HwT.out)
              clear n1 n2 n3 n4 HP2 HPC HRd1 HRd2 HTK HbK HgK hK hT2 hR2 hB2 hTK
              go_wp2
              go_roundw
              case rel => exact ⟨k + 1, q', by go_num, by omega, hq2, Lib.hid HFin.out.1, Lib.hid HFin.out.2.1, Lib.hid HFin.out.2.2⟩
              case measure => simp [intOf]; omega
        · obtain rfl : k = l.length := by omega
          go_wp2_with fail
          refine (HA.out _).mono ?_
          rintro e w9 ⟨rfl, b9⟩
          have HF := Lib.hid (hB.out.trans (b9.mono hB.out.size))
          clear b9
          go_wp2
          go_ret
          exact ⟨rfl, HF.out⟩
end Go.Proofs.Ytkflpkcggjpbfaa
