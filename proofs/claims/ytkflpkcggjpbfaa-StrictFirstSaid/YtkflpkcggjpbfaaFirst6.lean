/- The walk of StrictFirst: it returns true in every world and leaves what lay there. -/
import Derived.Test.YtkflpkcggjpbfaaReads6
import Derived.Deep.RegionWith
namespace Go.Proofs.Ytkflpkcggjpbfaa
open Go.RowKit
attribute [local go_sem ↓] Go.wp_at_zero Go.wp_at_succ

/-- Two readers, a piece, and the document's reader, in memory. -/
structure Two6 (w : World) (g gb T : Nat) (s : ByteArray) (r : Rs) (k x m : Int) (W : World) : Prop where
  rd : Rd W g s r
  no : No W gb
  pc : W.heap[w.heap.size]? = some (.cells #[.int .i64 k, .int .i64 x, .int .i64 m] 31 (0, 0))
  tc : W.heap[T]? = some (.cells #[.string s, .int .i64 r.p, .int .i64 r.e] 27 (0, 0))
  below : Below w.heap.size w W
  far : w.heap.size < g ∧ g ≠ gb ∧ g ≠ T ∧ w.heap.size < gb ∧ w.heap.size < T ∧ gb ≠ T
theorem no_step {w w' : World} {g : Nat} (h : No w g) (b : Below w.heap.size w w') : No w' g := by obtain ⟨o, h1, h2⟩ := h; exact ⟨o, old_obj b h1, h2⟩
theorem Two6.step {w W W' : World} {g gb T : Nat} {s : ByteArray} {r : Rs} {k x m : Int} (h : Two6 w g gb T s r k x m W) (b : Below W.heap.size W W') : Two6 w g gb T s r k x m W' :=
  ⟨rd_step h.rd b, no_step h.no b, old_obj b h.pc, old_obj b h.tc, h.below.trans (b.mono h.below.size), h.far⟩
theorem Two6.moved {w W W' : World} {g gb T : Nat} {s : ByteArray} {r : Rs} {k x m : Int} (h : Two6 w g gb T s r k x m W) (hG : W.grownBy W' (some g)) (hR : Rd W' g s r) : Two6 w g gb T s r k x m W' := by
  obtain ⟨f1, f2, f3, f4, f5, f6⟩ := h.far
  obtain ⟨o, e1, e2⟩ := h.no
  exact ⟨hR, ⟨o, grown_obj hG e1 (fun e => f2 e.symm), e2⟩, grown_obj hG h.pc (by omega), grown_obj hG h.tc (fun e => f3 e.symm), grown_below h.below hG (by omega) h.below.size, h.far⟩
/-- Behind the reading of one piece, told to the document's reader too. -/
theorem Two6.read {w W v1 : World} {g gb T : Nat} {s : ByteArray} {r q : Rs} {k x m : Int} (h : Two6 w g gb T s r k x m W) (hG : W.grownBy v1 (some g)) (hR : Rd v1 g s q) :
    Two6 w g gb T s q k x m (((v1.setCell ⟨T, 0, none⟩ (.string s)).setCell ⟨T, 1, none⟩ (.int .i64 q.p)).setCell ⟨T, 2, none⟩ (.int .i64 q.e)) := by
  obtain ⟨f1, f2, f3, f4, f5, f6⟩ := h.far
  obtain ⟨o, e1, e2⟩ := h.no
  obtain ⟨o', e1', e2'⟩ := hR
  have hs : ∀ k, k ≠ T → (((v1.setCell ⟨T, 0, none⟩ (.string s)).setCell ⟨T, 1, none⟩ (.int .i64 q.p)).setCell ⟨T, 2, none⟩ (.int .i64 q.e)).heap[k]? = v1.heap[k]? := fun k hk => by
    rw [Below.heap_setCell _ _ _ k hk, Below.heap_setCell _ _ _ k hk, Below.heap_setCell _ _ _ k hk]
  exact ⟨⟨o', by rw [hs g f3]; exact e1', e2'⟩, ⟨o, by rw [hs gb f6]; exact grown_obj hG e1 (fun e => f2 e.symm), e2⟩, by rw [hs _ (by omega)]; exact grown_obj hG h.pc (by omega), three_stored (grown_obj hG h.tc (fun e => f3 e.symm)) _ _ _, three_below (grown_below h.below hG (by omega) h.below.size) (by omega) _ _ _, h.far⟩
theorem Two6.cells {w W : World} {g gb T : Nat} {s : ByteArray} {r : Rs} {k x m : Int} (h : Two6 w g gb T s r k x m W) : W.cell? ⟨w.heap.size, 1, none⟩ = some (.int .i64 x) ∧ W.cell? ⟨w.heap.size, 2, none⟩ = some (.int .i64 m) := by
  obtain ⟨_, p1, p2, _, _, _⟩ := three_cells h.pc
  exact ⟨p1, p2⟩
theorem bt_none : bt [] = ⟨#[]⟩ := rfl
/-- What a reader with a fault answers. -/
theorem faulty {S : List UInt8} {r : Rs} (h : r.e ≠ 0) (x m : Int) : (numV S r x m = 0 ∧ numR S r x m = r) ∧ (textL S r m = [] ∧ textR S r m = r) ∧ (serL S r = [] ∧ serR S r = r) ∧ (rowV S r x m = [] ∧ rowR S r x m = r) ∧ (sersL S r m = [] ∧ sersR S r m = r) ∧ (flagB S r = false ∧ flagR S r = r) := by
  have hn : numV S r 1 m = 0 ∧ numR S r 1 m = r := by unfold numV numR; rw [if_neg h, if_neg h]; exact ⟨rfl, rfl⟩
  have hs : sersR S r m = r := by unfold sersR sersAll; rw [hn.1, hn.2]; rfl
  refine ⟨?_, ?_, ?_, ?_, ⟨by unfold sersL; rw [hs, if_neg h], hs⟩, ?_⟩
  · unfold numV numR; rw [if_neg h, if_neg h]; exact ⟨rfl, rfl⟩
  · unfold textL textR; rw [if_neg h, if_neg h]; exact ⟨rfl, rfl⟩
  · unfold serL serR; rw [if_neg h, if_neg h]; exact ⟨rfl, rfl⟩
  · unfold rowV rowR; rw [if_neg h, if_neg h]; exact ⟨rfl, rfl⟩
  · unfold flagB flagR; rw [if_neg h, if_neg h]; exact ⟨rfl, rfl⟩

/-- What a reader with a fault answers, call by call. -/
structure Zeros (s : ByteArray) (r : Rs) (g : Nat) (x m : Int) : Prop where
  num : ∀ v, Rd v g s r → Calls Try.prog 12 #[.pointer (some ⟨g, 0, none⟩), .int .i64 x, .int .i64 m] v fun e w' => e = .returned (.int .i64 0) ∧ Rd w' g s r ∧ v.grownBy w' (some g)
  text : ∀ v, Rd v g s r → Calls Try.prog 13 #[.pointer (some ⟨g, 0, none⟩), .int .i64 m] v fun e w' => e = .returned (.string ⟨#[]⟩) ∧ Rd w' g s r ∧ v.grownBy w' (some g)
  ser : ∀ v, Rd v g s r → Calls Try.prog 14 #[.pointer (some ⟨g, 0, none⟩)] v fun e w' => e = .returned (.string ⟨#[]⟩) ∧ Rd w' g s r ∧ v.grownBy w' (some g)
  row : ∀ v, Rd v g s r → Calls Try.prog 15 #[.pointer (some ⟨g, 0, none⟩), .int .i64 x, .int .i64 m] v fun e w' => ∃ a c, e = .returned (.slice a 0 c) ∧ Rd w' g s r ∧ v.grownBy w' (some g)
  sers : ∀ v, Rd v g s r → Calls Try.prog 16 #[.pointer (some ⟨g, 0, none⟩), .int .i64 m] v fun e w' => ∃ a c, e = .returned (.slice a 0 c) ∧ Rd w' g s r ∧ v.grownBy w' (some g)
  flag : ∀ v, Rd v g s r → Calls Try.prog 17 #[.pointer (some ⟨g, 0, none⟩)] v fun e w' => e = .returned (.bool false) ∧ Rd w' g s r ∧ v.grownBy w' (some g)
theorem zeros (s : ByteArray) (hs : s.size ≤ 4611686018427387904) (r : Rs) (hr : Within s.data.toList r) (g : Nat) (x m : Int) (h : r.e ≠ 0) : Zeros s r g x m := by
  obtain ⟨⟨n1, n2⟩, ⟨t1, t2⟩, ⟨s1, s2⟩, ⟨r1, r2⟩, ⟨l1, l2⟩, ⟨f1, f2⟩⟩ := faulty (S := s.data.toList) h x m
  refine ⟨fun v hv => ?_, fun v hv => ?_, fun v hv => ?_, fun v hv => ?_, fun v hv => ?_, fun v hv => ?_⟩
  · have := snum_any s hs r hr g x m v hv
    rw [n1, n2] at this; exact this
  · have := stext_any s hs r hr g m v hv
    rw [t1, t2] at this; exact this
  · have := sser_any s hs r hr g v hv
    rw [s1, s2] at this; exact this
  · have := srow_any s hs r hr g x m v hv
    rw [r1, r2] at this; exact this.mono fun _ _ ⟨a, c, he, _, h1, h2⟩ => ⟨a, c, he, h1, h2⟩
  · have := ssers_any s hs r hr g m v hv
    rw [l1, l2] at this; exact this.mono fun _ _ ⟨a, c, he, _, h1, h2⟩ => ⟨a, c, he, h1, h2⟩
  · have := sflag_any s hs r hr g v hv
    rw [f1, f2] at this; exact this

set_option maxRecDepth 100000 in
set_option maxHeartbeats 8000000 in
theorem strictFirst_walk (w : World) (s : ByteArray) (_hs : s.size ≤ maxLen) (a : Option Addr) (cap : Nat) (l : List Pce) (_hm : l.length ≤ maxLen) (ht : Pieces w.heap.size w a l) (k0 x0 m0 : Int) :
    Calls Try.prog 4 #[.string s, .slice a l.length cap, .agg #[.int .i64 k0, .int .i64 x0, .int .i64 m0]] w fun e w' => e = .returned (.bool true) ∧ Below w.heap.size w w' := by
  have HA := Lib.hid awake6_any
  have hb := Below.refl w.heap.size w
  have hb1 := hb.alloc hb.size (.cells #[.int .i64 k0, .int .i64 x0, .int .i64 m0] 31)
  by_cases hs : 2000 < s.size
  · have d1 : decide ((2000 : Int) < (s.size : Int)) = true := decide_eq_true (by omega)
    have d2 : decide (2000 < s.size) = true := decide_eq_true hs
    clear hs
    go_enter Try.func4, Try.ntmps4
    go_wp2_with (go_at_call 6; refine (HA.out _).mono ?_; rintro e w1 ⟨rfl, b1⟩)
    go_ret
    exact ⟨rfl, hb1.trans (b1.mono hb1.size)⟩
  · have d1 : decide ((2000 : Int) < (s.size : Int)) = false := decide_eq_false (by omega)
    have d2 : decide (2000 < s.size) = false := decide_eq_false hs
    by_cases hl : 40 < l.length
    · have d3 : decide ((40 : Int) < (l.length : Int)) = true := decide_eq_true (by omega)
      have d4 : decide (40 < l.length) = true := decide_eq_true hl
      clear hs hl
      go_enter Try.func4, Try.ntmps4
      go_wp2_with (go_at_call 6; refine (HA.out _).mono ?_; rintro e w1 ⟨rfl, b1⟩)
      go_ret
      exact ⟨rfl, hb1.trans (b1.mono hb1.size)⟩
    · have d3 : decide ((40 : Int) < (l.length : Int)) = false := decide_eq_false (by omega)
      have d4 : decide (40 < l.length) = false := decide_eq_false hl
      have hs2 : s.size ≤ 4611686018427387904 := by omega
      have HP := Lib.hid ht
      have HL : Hid (l.length ≤ 40) := Lib.hid (by omega)
      have HN := Lib.hid (snew_any s (by omega))
      have HC := Lib.hid (fun r hr g k x m v h => read_any s hs2 r hr g k x m v h)
      have HS2 := Lib.hid hs2
      have HB0 := Lib.hid hb1
      clear hs hl hs2 ht
      go_enter Try.func4, Try.ntmps4
      go_wp2_with fail
      refine (HN.out _).mono ?_
      rintro e w1 ⟨g, rfl, hg, hr1, b1⟩
      have HO : Hid (w1.heap[w.heap.size]? = some (.cells #[.int .i64 k0, .int .i64 x0, .int .i64 m0] 31 (0, 0))) := Lib.hid (old_obj b1 (heap_alloc_new _ _))
      have HB1 := Lib.hid (HB0.out.trans (b1.mono HB0.out.size))
      have HR1 := Lib.hid hr1
      have hgl := rd_lt hr1
      have HG : Hid (w.heap.size < g) := Lib.hid (by simp at hg; omega)
      clear b1 hr1 hg d1 d2 d3 d4 hb hb1
      go_wp2_with fail
      obtain ⟨W0, hW0⟩ : ∃ W0, W0 = (w1.alloc (.cells noCells 35)).alloc (.cells #[.string s, .int .i64 0, .int .i64 0] 27) := ⟨_, rfl⟩
      obtain ⟨gb, hgb⟩ : ∃ gb, gb = w1.heap.size := ⟨_, rfl⟩
      have HT0 : Hid (Two6 w g gb (gb + 1) s ⟨0, 0⟩ k0 x0 m0 W0) := Lib.hid (by
        have h1 : Below w1.heap.size w1 (w1.alloc (.cells noCells 35)) := (Below.refl _ _).alloc (Nat.le_refl _) _
        have h2 : Below (w1.alloc (.cells noCells 35)).heap.size (w1.alloc (.cells noCells 35)) W0 := by rw [hW0]; exact (Below.refl _ _).alloc (Nat.le_refl _) _
        have h3 := h1.trans (h2.mono h1.size)
        have hs1 := HB1.out.size
        have hg := HG.out
        exact ⟨rd_step HR1.out h3, ⟨_, by rw [hgb]; exact old_obj h2 (heap_alloc_new _ _), rfl⟩, old_obj h3 HO.out, by rw [hW0, hgb]; exact heap_alloc2_new _ _ _, HB1.out.trans (h3.mono HB1.out.size), HG.out, by omega, by omega, by have := obj_lt HO.out; omega, by have := obj_lt HO.out; omega, by omega⟩)
      unfold noCells at hW0
      rw [← hW0, ← hgb]
      clear hW0 hgl HR1 HO HB1 hgb
      obtain ⟨T, hT⟩ : ∃ T, T = gb + 1 := ⟨_, rfl⟩
      rw [← hT] at HT0 ⊢
      clear hT
      go_loopw [10] (fun i wr => ∃ (k : Nat) (r : Rs), i = .int .i64 k ∧ k ≤ l.length ∧ Hid (Within s.data.toList r) ∧ Hid (Two6 w g gb T s r k0 x0 m0 wr)) (fun i _ => l.length - (intOf i).toNat)
      case atStart => exact ⟨0, ⟨0, 0⟩, rfl, by omega, Lib.hid ⟨by simp, by simp⟩, HT0⟩
      case round =>
        clear HT0
        obtain ⟨k, r, rfl, hk, hw, hT⟩ := hrel
        by_cases hlt : k < l.length
        · have i1 : (k : Int) < (l.length : Int) := by omega
          have i2 : (0 : Int) ≤ (k : Int) := by omega
          have i3 : k < 40 := by have := HL.out; omega
          rcases HP.out.below hT.out.below with h0 | ⟨b, off, rfl, hbw, hc⟩
          · rw [h0] at hlt; exact absurd hlt (by simp)
          · obtain ⟨p0, p1, p2⟩ := hc k hlt
            obtain ⟨t0, t1, t2, f0, f1, f2⟩ := three_cells hT.out.tc
            obtain ⟨q, hq⟩ : ∃ q, q = pieceR s.data.toList r (pieceAt l k).k (pieceAt l k).x (pieceAt l k).m := ⟨_, rfl⟩
            have HQ : Hid (Within s.data.toList q) := Lib.hid (by rw [hq]; exact piece_in hw.out)
            have HCk : Hid (∀ v, Rd v g s r → Calls Try.prog 8 #[.pointer (some ⟨g, 0, none⟩), .agg #[.string s, .int .i64 r.p, .int .i64 r.e], .agg #[.int .i64 (pieceAt l k).k, .int .i64 (pieceAt l k).x, .int .i64 (pieceAt l k).m]] v fun e w' => e = .returned (.tuple #[.agg #[.string s, .int .i64 q.p, .int .i64 q.e], .bool true]) ∧ Rd w' g s q ∧ v.grownBy w' (some g)) := Lib.hid fun v h => by rw [hq]; exact HC.out r hw.out g (pieceAt l k).k (pieceAt l k).x (pieceAt l k).m v h
            clear hq
            obtain ⟨pk, hpk⟩ : ∃ q, q = (pieceAt l k).k := ⟨_, rfl⟩
            obtain ⟨px, hpx⟩ : ∃ q, q = (pieceAt l k).x := ⟨_, rfl⟩
            obtain ⟨pm, hpm⟩ : ∃ q, q = (pieceAt l k).m := ⟨_, rfl⟩
            rw [← hpk] at p0 HCk
            rw [← hpx] at p1 HCk
            rw [← hpm] at p2 HCk
            clear hc hpk hpx hpm
            have HT1 : Hid (Two6 w g gb T s r k0 x0 m0 wr.drew) := Lib.hid (hT.out.step (drew_step wr))
            have HPC : Hid ((wr.cell? ⟨b, off + k * 3, none⟩ = some (.int .i64 pk) ∧ wr.cell? ⟨b, off + k * 3 + 1, none⟩ = some (.int .i64 px) ∧ wr.cell? ⟨b, off + k * 3 + 2, none⟩ = some (.int .i64 pm)) ∧ b ≠ g ∧ T ≠ g) := Lib.hid ⟨⟨p0, p1, p2⟩, by have := HG.out; omega, fun e => hT.out.far.2.2.1 e.symm⟩
            have n1 : ¬ (T = b) := by have := hT.out.far; omega
            have n2 : ¬ (b = T) := fun e => n1 e.symm
            go_upto_region 10 with fail
            go_region_with ((go_at_call 8; refine (HCk.out wr.drew HT1.out.rd).mono ?_; rintro e v1 ⟨rfl, hR1, hG1⟩; have HR1 := Lib.hid hR1; have HG1 := Lib.hid hG1; obtain ⟨t0, t1, t2, f0, f1, f2⟩ := three_cells (grown_obj hG1 HT1.out.tc HPC.out.2.2); clear hR1 hG1))
            all_goals
              have HF := Lib.hid (HT1.out.read HG1.out HR1.out)
              clear t0 t1 t2 f0 f1 f2 p0 p1 p2 n1 n2 HPC HT1 HG1 HR1
              go_wp2
              go_roundw
              case rel => exact ⟨k + 1, q, by go_num, by omega, HQ, HF⟩
              case measure => simp [intOf]; omega
        · obtain rfl : k = l.length := by omega
          clear hlt
          by_cases hq0 : r.e = 0
          · have hE : errV r = .nilIface := by unfold errV; rw [if_pos hq0]
            have HE := Lib.hid (serr_any s r g)
            rw [hE] at HE
            clear hE hq0
            have T0 := hT
            clear hT
            go_wp2_with fail
            refine (HE.out _ T0.out.rd).mono ?_
            rintro e v1 ⟨rfl, b1⟩
            have T1 := Lib.hid (T0.out.step b1)
            clear b1 T0
            go_wp2_with fail
            refine (swhy_nil _).mono ?_
            rintro e v2 ⟨rfl, b2⟩
            have T2 := Lib.hid (T1.out.step b2)
            clear b2 T1
            go_wp2_with fail
            refine (no_err gb _ T2.out.no).mono ?_
            rintro e v3 ⟨rfl, b3⟩
            have T3 := Lib.hid (T2.out.step b3)
            clear b3 T2
            go_wp2_with fail
            refine (swhy_fault 1 0 _).mono ?_
            rintro e v4 ⟨rfl, b4⟩
            have T4 := Lib.hid (T3.out.step b4)
            clear b4 T3
            go_wp2_with fail
            refine (nil_err _).mono ?_
            rintro e v5 ⟨rfl, b5⟩
            have T5 := Lib.hid (T4.out.step b5)
            clear b5 T4
            go_wp2_with fail
            refine (swhy_fault 1 0 _).mono ?_
            rintro e v6 ⟨rfl, b6⟩
            have T6 := Lib.hid (T5.out.step b6)
            clear b6 T5
            go_wp2_with (go_at_call 11; refine (no_at gb _ T6.out.no).mono ?_; rintro e v' ⟨rfl, rfl⟩)
            refine (nil_num 1 9 _).mono ?_
            rintro e v7 ⟨rfl, b7⟩
            have T7 := Lib.hid (T6.out.step b7)
            clear b7 T6
            go_wp2_with fail
            obtain ⟨V, hV⟩ : ∃ V, V = v7 := ⟨_, rfl⟩
            rw [← hV] at T7 ⊢
            clear hV
            go_loopw [18] (fun i wr => ∃ j : Nat, i = .int .i64 j ∧ j ≤ 2 ∧ Hid (Two6 w g gb T s r k0 x0 m0 wr)) (fun i _ => 2 - (intOf i).toNat)
            case atStart => exact ⟨0, rfl, by omega, T7⟩
            case round =>
              clear T7
              obtain ⟨j, rfl, hj, T7⟩ := hrel
              by_cases hlt : j < 2
              · have i1 : (j : Int) < 2 := by omega
                obtain ⟨p1, p2⟩ := T7.out.cells
                go_wp2_with fail
                refine (no_num gb x0 m0 _ T7.out.no).mono ?_
                rintro e v8 ⟨rfl, b8⟩
                have T8 := Lib.hid (T7.out.step b8)
                clear b8 T7
                clear p1 p2
                obtain ⟨p1, p2⟩ := T8.out.cells
                go_wp2_with fail
                refine (no_text gb m0 _ T8.out.no).mono ?_
                rintro e v9 ⟨rfl, b9⟩
                have T9 := Lib.hid (T8.out.step b9)
                clear b9 T8
                clear p1 p2
                obtain ⟨p1, p2⟩ := T9.out.cells
                go_wp2_with fail
                refine (no_ser gb _ T9.out.no).mono ?_
                rintro e v10 ⟨rfl, b10⟩
                have T10 := Lib.hid (T9.out.step b10)
                clear b10 T9
                clear p1 p2
                obtain ⟨p1, p2⟩ := T10.out.cells
                go_wp2_with fail
                refine (no_row gb x0 m0 _ T10.out.no).mono ?_
                rintro e v11 ⟨a3, c3, rfl, b11⟩
                have T11 := Lib.hid (T10.out.step b11)
                clear b11 T10
                clear p1 p2
                obtain ⟨p1, p2⟩ := T11.out.cells
                go_wp2_with fail
                refine (no_sers gb m0 _ T11.out.no).mono ?_
                rintro e v12 ⟨a4, c4, rfl, b12⟩
                have T12 := Lib.hid (T11.out.step b12)
                clear b12 T11
                clear p1 p2
                obtain ⟨p1, p2⟩ := T12.out.cells
                go_wp2_with fail
                refine (no_flag gb _ T12.out.no).mono ?_
                rintro e v13 ⟨rfl, b13⟩
                have T13 := Lib.hid (T12.out.step b13)
                clear b13 T12
                clear p1 p2
                obtain ⟨p1, p2⟩ := T13.out.cells
                go_wp2_with fail
                go_roundw
                case rel => exact ⟨j + 1, by go_num, by omega, T13⟩
                case measure => simp [intOf]; omega
              · obtain rfl : j = 2 := by omega
                go_wp2_with fail
                refine (HE.out _ T7.out.rd).mono ?_
                rintro e v8 ⟨rfl, b8⟩
                have T8 := Lib.hid (T7.out.step b8)
                clear b8 T7
                go_wp2_with fail
                refine (swhy_nil _).mono ?_
                rintro e v9 ⟨rfl, b9⟩
                have T9 := Lib.hid (T8.out.step b9)
                clear b9 T8
                go_wp2_with fail
                refine (HA.out _).mono ?_
                rintro e v10 ⟨rfl, b10⟩
                have HF := Lib.hid (T9.out.below.trans (b10.mono T9.out.below.size))
                clear b10
                go_wp2
                go_ret
                exact ⟨rfl, HF.out⟩
          · have hE : errV r = .iface 58 (.agg #[.int .i64 r.e, .int .i64 r.p]) := by unfold errV; rw [if_neg hq0]
            have d1 : (r.e != 0) = true := by simpa using hq0
            have d2 : (r.e == 0) = false := by simpa using hq0
            have HZ := Lib.hid (zeros s HS2.out r hw.out g x0 m0 hq0)
            have HE := Lib.hid (serr_any s r g)
            rw [hE] at HE
            clear hE hq0
            have T0 := hT
            clear hT
            go_wp2_with fail
            refine (HE.out _ T0.out.rd).mono ?_
            rintro e v1 ⟨rfl, b1⟩
            have T1 := Lib.hid (T0.out.step b1)
            clear b1 T0
            go_wp2_with fail
            refine (swhy_fault r.e r.p _).mono ?_
            rintro e v2 ⟨rfl, b2⟩
            have T2 := Lib.hid (T1.out.step b2)
            clear b2 T1
            go_wp2_with fail
            refine (no_err gb _ T2.out.no).mono ?_
            rintro e v3 ⟨rfl, b3⟩
            have T3 := Lib.hid (T2.out.step b3)
            clear b3 T2
            go_wp2_with fail
            refine (swhy_fault 1 0 _).mono ?_
            rintro e v4 ⟨rfl, b4⟩
            have T4 := Lib.hid (T3.out.step b4)
            clear b4 T3
            go_wp2_with fail
            refine (nil_err _).mono ?_
            rintro e v5 ⟨rfl, b5⟩
            have T5 := Lib.hid (T4.out.step b5)
            clear b5 T4
            go_wp2_with fail
            refine (swhy_fault 1 0 _).mono ?_
            rintro e v6 ⟨rfl, b6⟩
            have T6 := Lib.hid (T5.out.step b6)
            clear b6 T5
            go_wp2_with (go_at_call 11; refine (no_at gb _ T6.out.no).mono ?_; rintro e v' ⟨rfl, rfl⟩)
            refine (nil_num 1 9 _).mono ?_
            rintro e v7 ⟨rfl, b7⟩
            have T7 := Lib.hid (T6.out.step b7)
            clear b7 T6
            go_wp2_with fail
            obtain ⟨V, hV⟩ : ∃ V, V = v7 := ⟨_, rfl⟩
            rw [← hV] at T7 ⊢
            clear hV
            go_loopw [18] (fun i wr => ∃ j : Nat, i = .int .i64 j ∧ j ≤ 2 ∧ Hid (Two6 w g gb T s r k0 x0 m0 wr)) (fun i _ => 2 - (intOf i).toNat)
            case atStart => exact ⟨0, rfl, by omega, T7⟩
            case round =>
              clear T7
              obtain ⟨j, rfl, hj, T7⟩ := hrel
              by_cases hlt : j < 2
              · have i1 : (j : Int) < 2 := by omega
                obtain ⟨p1, p2⟩ := T7.out.cells
                go_wp2_with fail
                refine (HZ.out.num _ T7.out.rd).mono ?_
                rintro e v8 ⟨rfl, hR8, hG8⟩
                have T8 := Lib.hid (T7.out.moved hG8 hR8)
                clear hR8 hG8 T7
                clear p1 p2
                obtain ⟨p1, p2⟩ := T8.out.cells
                go_wp2_with fail
                refine (HZ.out.text _ T8.out.rd).mono ?_
                rintro e v9 ⟨rfl, hR9, hG9⟩
                have T9 := Lib.hid (T8.out.moved hG9 hR9)
                clear hR9 hG9 T8
                clear p1 p2
                obtain ⟨p1, p2⟩ := T9.out.cells
                go_wp2_with fail
                refine (HZ.out.ser _ T9.out.rd).mono ?_
                rintro e v10 ⟨rfl, hR10, hG10⟩
                have T10 := Lib.hid (T9.out.moved hG10 hR10)
                clear hR10 hG10 T9
                clear p1 p2
                obtain ⟨p1, p2⟩ := T10.out.cells
                go_wp2_with fail
                refine (HZ.out.row _ T10.out.rd).mono ?_
                rintro e v11 ⟨a1, c1, rfl, hR11, hG11⟩
                have T11 := Lib.hid (T10.out.moved hG11 hR11)
                clear hR11 hG11 T10
                clear p1 p2
                obtain ⟨p1, p2⟩ := T11.out.cells
                go_wp2_with fail
                refine (HZ.out.sers _ T11.out.rd).mono ?_
                rintro e v12 ⟨a2, c2, rfl, hR12, hG12⟩
                have T12 := Lib.hid (T11.out.moved hG12 hR12)
                clear hR12 hG12 T11
                clear p1 p2
                obtain ⟨p1, p2⟩ := T12.out.cells
                go_wp2_with fail
                refine (HZ.out.flag _ T12.out.rd).mono ?_
                rintro e v13 ⟨rfl, hR13, hG13⟩
                have T13 := Lib.hid (T12.out.moved hG13 hR13)
                clear hR13 hG13 T12
                clear p1 p2
                obtain ⟨p1, p2⟩ := T13.out.cells
                go_wp2_with fail
                refine (no_num gb x0 m0 _ T13.out.no).mono ?_
                rintro e v14 ⟨rfl, b14⟩
                have T14 := Lib.hid (T13.out.step b14)
                clear b14 T13
                clear p1 p2
                obtain ⟨p1, p2⟩ := T14.out.cells
                go_wp2_with fail
                refine (no_text gb m0 _ T14.out.no).mono ?_
                rintro e v15 ⟨rfl, b15⟩
                have T15 := Lib.hid (T14.out.step b15)
                clear b15 T14
                clear p1 p2
                obtain ⟨p1, p2⟩ := T15.out.cells
                go_wp2_with fail
                refine (no_ser gb _ T15.out.no).mono ?_
                rintro e v16 ⟨rfl, b16⟩
                have T16 := Lib.hid (T15.out.step b16)
                clear b16 T15
                clear p1 p2
                obtain ⟨p1, p2⟩ := T16.out.cells
                go_wp2_with fail
                refine (no_row gb x0 m0 _ T16.out.no).mono ?_
                rintro e v17 ⟨a3, c3, rfl, b17⟩
                have T17 := Lib.hid (T16.out.step b17)
                clear b17 T16
                clear p1 p2
                obtain ⟨p1, p2⟩ := T17.out.cells
                go_wp2_with fail
                refine (no_sers gb m0 _ T17.out.no).mono ?_
                rintro e v18 ⟨a4, c4, rfl, b18⟩
                have T18 := Lib.hid (T17.out.step b18)
                clear b18 T17
                clear p1 p2
                obtain ⟨p1, p2⟩ := T18.out.cells
                go_wp2_with fail
                refine (no_flag gb _ T18.out.no).mono ?_
                rintro e v19 ⟨rfl, b19⟩
                have T19 := Lib.hid (T18.out.step b19)
                clear b19 T18
                clear p1 p2
                obtain ⟨p1, p2⟩ := T19.out.cells
                go_wp2_with fail
                go_roundw
                case rel => exact ⟨j + 1, by go_num, by omega, T19⟩
                case measure => simp [intOf]; omega
              · obtain rfl : j = 2 := by omega
                go_wp2_with fail
                refine (HE.out _ T7.out.rd).mono ?_
                rintro e v8 ⟨rfl, b8⟩
                have T8 := Lib.hid (T7.out.step b8)
                clear b8 T7
                go_wp2_with fail
                refine (swhy_fault r.e r.p _).mono ?_
                rintro e v9 ⟨rfl, b9⟩
                have T9 := Lib.hid (T8.out.step b9)
                clear b9 T8
                go_wp2_with fail
                refine (HA.out _).mono ?_
                rintro e v10 ⟨rfl, b10⟩
                have HF := Lib.hid (T9.out.below.trans (b10.mono T9.out.below.size))
                clear b10
                go_wp2
                go_ret
                exact ⟨rfl, HF.out⟩
end Go.Proofs.Ytkflpkcggjpbfaa
