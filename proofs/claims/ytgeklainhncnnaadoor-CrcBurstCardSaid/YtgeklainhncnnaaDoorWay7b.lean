/- The walk of the law CrcBurst: it returns true in every world and leaves what lay there. -/
import Derived.Test.YtgeklainhncnnaaDoorWay7a
import Derived.Laws.IdiomStrings
import Derived.Lib.BufferMore
import Derived.Lib.UnsafeStr
namespace Go.Proofs.YtgeklainhncnnaaDoor
open Go.RowKit

/-- A row of bytes that a text's conversion has made: what it holds, and that its cells may be stored into. -/
structure Bytes7 (w : World) (g cap : Nat) (U : List UInt8) (wr : World) : Prop where
  row : ∃ cs n, wr.heap[g]? = some (.cells cs 5 (n, n + 1)) ∧ U.length ≤ n ∧ cs.size = n ∧ ∀ j, (h : j < U.length) → cs[j]? = some (.int .u8 (U[j]).toNat)
  new : w.heap.size ≤ g
  old : Below w.heap.size w wr
theorem Bytes7.cell {w wr : World} {g cap : Nat} {U : List UInt8} (h : Bytes7 w g cap U wr) (j : Nat) (hj : j < U.length) : wr.cell? ⟨g, j, none⟩ = some (.int .u8 (U[j]).toNat) ∧ wr.frozen? ⟨g, j, none⟩ = false := by
  obtain ⟨cs, n, hg, hn, _, hc⟩ := h.row
  refine ⟨?_, ?_⟩
  · unfold World.cell?
    rw [hg]
    exact hc j hj
  · simp [World.frozen?, hg]; omega
theorem Bytes7.set {w wr : World} {g cap : Nat} {U : List UInt8} (h : Bytes7 w g cap U wr) (k : Nat) (hk : k < U.length) (c : UInt8) : Bytes7 w g cap (U.set k c) (wr.setCell ⟨g, k, none⟩ (.int .u8 c.toNat)) := by
  obtain ⟨cs, n, hg, hn, hs, hc⟩ := h.row
  refine ⟨⟨cs.setIfInBounds k (.int .u8 c.toNat), n, Lib.heap_setCell_same hg _, by simpa using hn, by simpa using hs, fun j hj => ?_⟩, h.new, h.old.setCell (p := ⟨g, k, none⟩) h.new _⟩
  have hj' : j < U.length := by simpa using hj
  rw [Array.getElem?_setIfInBounds]
  by_cases e : k = j
  · subst e
    rw [if_pos rfl, if_pos (by omega)]
    simp
  · rw [if_neg e, hc j hj']
    simp [List.getElem_set_ne e]
theorem bytes_made (w : World) (s : ByteArray) : Bytes7 w w.heap.size (grownCap w s.size 0 5) s.data.toList (w.drew.alloc (.cells (bytesRow s (grownCap w s.size 0 5)) 5 ((bytesRow s (grownCap w s.size 0 5)).size, (bytesRow s (grownCap w s.size 0 5)).size + 1))) := by
  refine ⟨⟨_, _, heap_alloc_new w.drew _, ?_, rfl, fun j hj => ?_⟩, Nat.le_refl _, (Below.refl w.heap.size w).drew.alloc (Nat.le_refl _) _⟩
  · unfold bytesRow; simp
  · unfold bytesRow
    have hj' : j < s.data.size := by simpa using hj
    rw [Array.getElem?_append_left (by simpa using hj'), Array.getElem?_map, Array.getElem?_eq_getElem hj']
    simp
theorem fold_push (ns : List UInt8) : ∀ (r : ByteArray), (ns.map fun c => (c.toNat : Int)).foldl (fun r n => r.push (UInt8.ofNat n.toNat)) r = r ++ ⟨ns.toArray⟩ := by
  induction ns with
  | nil => intro r; exact text_eq (by simp)
  | cons c ns ih =>
    intro r
    rw [List.map_cons, List.foldl_cons, ih]
    exact text_eq (by simp)
/-- The row of bytes, as a text. -/
theorem Bytes7.text {w wr : World} {g cap : Nat} {U : List UInt8} (h : Bytes7 w g cap U wr) (c : Nat) : (convert 36 9 (.slice (some ⟨g, 0, none⟩) U.length c)).run Tryd.prog wr = .ok (.string ⟨U.toArray⟩) wr := by
  rw [run_convert_bytes_string (P := Tryd.prog) _ 36 9 5 _ _ _ Tryd.underlying36 Tryd.underlying5 Tryd.underlying9]
  have hl : (loadCells ⟨g, 0, none⟩ U.length).run Tryd.prog wr = .ok ((U.map fun c => (c.toNat : Int)).map (Value.int .u8)).toArray wr := by
    have := run_loadCells_list (P := Tryd.prog) wr ⟨g, 0, none⟩ ((U.map fun c => (c.toNat : Int)).map (Value.int .u8)) (fun j v hj => by
      have hj' : j < U.length := by
        have := (List.getElem?_eq_some_iff.1 hj).1
        simpa using this
      rw [List.map_map, List.getElem?_map, List.getElem?_eq_getElem hj'] at hj
      have hc := (h.cell j hj').1
      rw [← Option.some.inj hj]
      rcases Nat.eq_zero_or_pos j with e | e
      · subst e; simpa [Addr.add] using hc
      · simpa [Addr.add, Nat.ne_of_gt e] using hc)
    simpa using this
  refine (run_bytesToString (P := Tryd.prog) _ _ U.length c (U.map fun c => (c.toNat : Int)) hl).trans ?_
  rw [fold_push]
  congr 2
theorem xor8 (a b : UInt8) : bits BinOp.xor IntKind.u8 (a.toNat : Int) (b.toNat : Int) = ((a ^^^ b).toNat : Int) := by
  have ha := a.toNat_lt
  have hb := b.toNat_lt
  have e1 : ∀ c : Nat, c < 256 → (BitVec.ofInt 8 (c : Int)).toNat = c := fun c h => by rw [BitVec.toNat_ofInt]; omega
  show IntKind.u8.wrap ((BitVec.ofInt 8 (a.toNat : Int) ^^^ BitVec.ofInt 8 (b.toNat : Int)).toNat : Int) = _
  rw [BitVec.toNat_xor, e1 _ ha, e1 _ hb, UInt8.toNat_xor]
  have := Nat.xor_lt_two_pow (n := 8) (show a.toNat < 2 ^ 8 by omega) (show b.toNat < 2 ^ 8 by omega)
  exact IntWalk.u8_in _ (by omega)

theorem and_one32 (a : Nat) (h : a < 4294967296) : bits BinOp.and IntKind.u32 (a : Int) 1 = ((a % 2 : Nat) : Int) := by
  have e1 : (BitVec.ofInt 32 (a : Int)).toNat = a := by rw [BitVec.toNat_ofInt]; omega
  have e2 : (BitVec.ofInt 32 (1 : Int)).toNat = 1 := rfl
  show IntKind.u32.wrap ((BitVec.ofInt 32 (a : Int) &&& BitVec.ofInt 32 (1 : Int)).toNat : Int) = _
  rw [BitVec.toNat_and, e1, e2, Nat.and_one_is_mod]
  exact IntWalk.u32_in _ (by omega)

set_option maxRecDepth 100000 in
set_option maxHeartbeats 2000000 in
theorem crcBurst_walk (w : World) (hT : Tab w) (s : ByteArray) (_hs : s.size ≤ maxLen) (p : Int) (hp : (Lit.int .i64 p).wf = true) (y : Int) (hy : (Lit.int .u32 y).wf = true) :
    Calls Tryd.prog 5 #[.string s, .int .i64 p, .int .u32 y] w fun e w' => e = .returned (.bool true) ∧ Below w.heap.size w w' := by
  have hb := Below.refl w.heap.size w
  have hp1 := Go.bounds_i64 hp
  have hy1 := Go.bounds_u32 hy
  obtain ⟨Y, rfl⟩ : ∃ Y : Nat, y = Y := ⟨y.toNat, by omega⟩
  have hY : Y < 4294967296 := by omega
  clear hp hy hy1
  by_cases h : (3000 : Int) < (s.size : Int)
  · have hd : decide ((3000 : Int) < (s.size : Int)) = true := decide_eq_true h
    go_enter Tryd.func5, Tryd.ntmps5
    go_wp2_with (go_at_call 6; refine (awake7_any _ (by first | exact hT.below hb | exact (hT.below hb).drew)).mono ?_; rintro e w1 ⟨rfl, b1⟩; replace hb := hb.trans (b1.mono hb.size))
    go_ret
    exact ⟨rfl, hb⟩
  · have hd : decide ((3000 : Int) < (s.size : Int)) = false := decide_eq_false h
    have hs : s.size ≤ 3000 := by omega
    clear h
    have H1 := Lib.hid (cseal_any s (by omega))
    obtain ⟨T, hT⟩ : ∃ T, s ++ fourT (ofN s.data.toList) = T := ⟨_, rfl⟩
    have hTl : T.data.toList = sealL s.data.toList := by rw [← hT, cat_four]; rfl
    have hTs : T.size = s.size + 4 := by rw [← text_size, hTl]; unfold sealL; rw [List.length_append, four_len, text_size]
    rw [hT] at H1
    have H2 : Hid (∀ w, Tab w → Calls Tryd.prog 7 #[.string T] w fun e w' => e = .returned (.tuple #[.string s, .int .i64 0]) ∧ Below w.heap.size w w') := Lib.hid fun w hT => by
      refine (cunseal_any T (by omega) w hT).mono ?_
      rintro e w' ⟨u, rfl, hu, hb⟩
      have h1 := un_seal s.data.toList
      rw [← hTl] at h1
      obtain rfl : u = s := text_eq (by rw [hu.out, h1.2])
      exact ⟨by rw [h1.1], hb⟩
    have HTL := Lib.hid hTl
    have HTS := Lib.hid hTs
    have htz : T.size ≤ 3004 := by omega
    have hn4 : ((T.size : Int) != (s.size : Int) + 4) = false := by rw [hTs]; simp
    have ht4 : 4 ≤ T.size := by omega
    clear hT hTl hTs
    go_enter Tryd.func5, Tryd.ntmps5
    go_upto_region 7 with (first
      | (go_at_call 13; refine (H1.out _ (by first | exact hT.below hb | exact (hT.below hb).drew)).mono ?_; rintro e w1 ⟨rfl, b1⟩; replace hb := hb.trans (b1.mono hb.size); clear b1)
      | (go_at_call 7; refine (H2.out _ (by first | exact hT.below hb | exact (hT.below hb).drew)).mono ?_; rintro e w2 ⟨rfl, b2⟩; replace hb := hb.trans (b2.mono hb.size); clear b2))
    clear hn4
    by_cases hy0 : Y = 0
    · have d1 : ((Y : Int) == 0) = true := by rw [hy0]; rfl
      clear hy0
      go_wp2_with (go_at_call 6; refine (awake7_any _ (by first | exact hT.below hb | exact (hT.below hb).drew)).mono ?_; rintro e w9 ⟨rfl, b9⟩; replace hb := hb.trans (b9.mono hb.size); clear b9)
      go_ret
      exact ⟨rfl, hb⟩
    · have d1 : ((Y : Int) == 0) = false := by rw [beq_eq_false_iff_ne]; omega
      by_cases hp0 : p < 0
      · have d2 : decide (p < 0) = true := decide_eq_true hp0
        clear hp0
        go_wp2_with (go_at_call 6; refine (awake7_any _ (by first | exact hT.below hb | exact (hT.below hb).drew)).mono ?_; rintro e w9 ⟨rfl, b9⟩; replace hb := hb.trans (b9.mono hb.size); clear b9)
        go_ret
        exact ⟨rfl, hb⟩
      · have d2 : decide (p < 0) = false := decide_eq_false hp0
        by_cases hp3 : 8 * (T.size : Int) - 32 < p
        · have d3 : decide (8 * (T.size : Int) - 32 < p) = true := decide_eq_true hp3
          clear hp3
          go_wp2_with (go_at_call 6; refine (awake7_any _ (by first | exact hT.below hb | exact (hT.below hb).drew)).mono ?_; rintro e w9 ⟨rfl, b9⟩; replace hb := hb.trans (b9.mono hb.size); clear b9)
          go_ret
          exact ⟨rfl, hb⟩
        · have d3 : decide (8 * (T.size : Int) - 32 < p) = false := decide_eq_false hp3
          obtain ⟨P, rfl⟩ : ∃ P : Nat, p = P := ⟨p.toNat, by omega⟩
          have hP : P + 32 ≤ 8 * T.size := by omega
          have hcv := run_bytes_of_string (P := Tryd.prog) w2 9 36 5 T Tryd.underlying9 Tryd.underlying36 Tryd.underlying5
          have HB0 := Lib.hid (bytes_made w2 T)
          obtain ⟨C, hC⟩ : ∃ C, grownCap w2 T.size 0 5 = C := ⟨_, rfl⟩
          rw [hC] at hcv HB0
          obtain ⟨R, hR⟩ : ∃ R, bytesRow T C = R := ⟨_, rfl⟩
          rw [hR] at hcv HB0
          have HTU : Hid (Turned (sealL s.data.toList) T.data.toList P Y 0) := Lib.hid (by rw [HTL.out]; exact Turned.none _ _ _)
          have HTZ : Hid (T.data.toList.length = T.size) := Lib.hid (text_size T)
          have HFN : Hid (∀ U, Turned (sealL s.data.toList) U P Y 32 → unE U = 7 ∧ unL U = []) := Lib.hid fun U h => burst_told h hY hy0 (by rw [← HTL.out, text_size]; omega)
          have HLN : Hid (8 * (sealL s.data.toList).length = 8 * T.size) := Lib.hid (by rw [← HTL.out, text_size])
          generalize sealL s.data.toList = SL at *
          clear hC hR hp3 hp0
          go_upto_region 9 with fail
          go_wp2
          go_loopw [11] (fun i' wr => ∃ (i : Nat) (U : List UInt8), i' = .int .i64 i ∧ i ≤ 32 ∧ Hid (U.length = T.size) ∧ Hid (Turned SL U P Y i) ∧ Hid (Bytes7 w2 w2.heap.size C U wr)) (fun i _ => 32 - (intOf i).toNat)
          case atStart => exact ⟨0, _, rfl, by omega, HTZ, HTU, HB0⟩
          case round =>
            obtain ⟨i, U, rfl, hi, hU, hTu, hBy⟩ := hrel
            by_cases hlt : i < 32
            · have hand : bits BinOp.and IntKind.u32 ((Y : Int) / 2 ^ i) 1 = ((Y / 2 ^ i % 2 : Nat) : Int) := by
                rw [← and_one32 (Y / 2 ^ i) (Nat.lt_of_le_of_lt (Nat.div_le_self _ _) hY), Int.natCast_ediv, Int.natCast_pow]
                rfl
              have HTB : Hid (Y.testBit i = (Y / 2 ^ i % 2 == 1)) := Lib.hid (testBit_bool Y i)
              rcases Nat.mod_two_eq_zero_or_one (Y / 2 ^ i) with hm | hm
              · rw [hm] at hand
                have HNX : Hid (Turned SL U P Y (i + 1)) := Lib.hid (hTu.out.stay (by rw [HTB.out, hm]; rfl))
                clear hm
                go_wp2
                go_roundw
                case rel => exact ⟨i + 1, U, by go_num, by omega, hU, HNX, hBy⟩
                case measure => simp [intOf]; omega
              · rw [hm] at hand
                have HNX : Hid (Turned SL (flip7 U (P + i)) P Y (i + 1)) := Lib.hid (hTu.out.turn (by rw [HTB.out, hm]; rfl) (by rw [HLN.out]; omega))
                clear hm
                obtain ⟨q, hq⟩ : ∃ q, (P + i) / 8 = q := ⟨_, rfl⟩
                have hqT : q < T.size := by omega
                have hqU : q < U.length := by rw [hU.out]; exact hqT
                obtain ⟨hc, hf⟩ := hBy.out.cell q hqU
                have hqi : ((P : Int) + (i : Int)) / 8 = (q : Int) := by omega
                have HQ := Lib.hid hq
                clear hq
                have HST : Hid (bits BinOp.xor IntKind.u8 ((U[q]'hqU).toNat : Int) ((2 : Int) ^ ((P + i) % 8) % 256) = ((U[q]'hqU ^^^ UInt8.ofNat (2 ^ ((P + i) % 8))).toNat : Int)) := Lib.hid (by
                  rw [← xor8, UInt8.toNat_ofNat', Int.natCast_emod, Int.natCast_pow]; rfl)
                have HFL : Hid (flip7 U (P + i) = U.set q (U[q]'hqU ^^^ UInt8.ofNat (2 ^ ((P + i) % 8)))) := Lib.hid (by
                  unfold flip7
                  rw [HQ.out, List.getD_eq_getElem?_getD, List.getElem?_eq_getElem hqU]; rfl)
                have HBS := Lib.hid (hBy.out.set q hqU (U[q]'hqU ^^^ UInt8.ofNat (2 ^ ((P + i) % 8))))
                go_wp2
                go_roundw
                case rel => exact ⟨i + 1, flip7 U (P + i), by go_num, by omega, Lib.hid (by rw [flip_len]; exact hU.out), HNX, Lib.hid (by rw [HFL.out, HST.out]; exact HBS.out)⟩
                case measure => simp [intOf]; omega
            · obtain rfl : i = 32 := by omega
              obtain ⟨e1, e2⟩ := HFN.out U hTu.out
              have htx := hBy.out.text C
              rw [hU.out] at htx
              have hUd : (⟨U.toArray⟩ : ByteArray).data.toList = U := by simp
              have hUs : (⟨U.toArray⟩ : ByteArray).size = T.size := by rw [← text_size, hUd, hU.out]
              have HX : Hid (∀ w, Tab w → Calls Tryd.prog 7 #[.string ⟨U.toArray⟩] w fun e w' => e = .returned (.tuple #[.string ⟨#[]⟩, .int .i64 7]) ∧ Below w.heap.size w w') := Lib.hid fun w hT => by
                refine (cunseal_any ⟨U.toArray⟩ (by omega) w hT).mono ?_
                rintro e w' ⟨u, rfl, hu, hb⟩
                rw [hUd, e2] at hu
                obtain rfl : u = ⟨#[]⟩ := text_eq hu.out
                exact ⟨by rw [hUd, e1], hb⟩
              have HW := Lib.hid (hb.trans (hBy.out.old.mono hb.size))
              generalize (⟨U.toArray⟩ : ByteArray) = UT at *
              clear e1 e2 hUd hUs hBy hTu hcv
              replace hb := HW.out
              go_wp2_with (first
                | (go_at_call 7; refine (HX.out _ (by first | exact hT.below hb | exact (hT.below hb).drew)).mono ?_; rintro e w3 ⟨rfl, b3⟩; replace hb := hb.trans (b3.mono hb.size); clear b3)
                | (go_at_call 6; refine (awake7_any _ (by first | exact hT.below hb | exact (hT.below hb).drew)).mono ?_; rintro e w9 ⟨rfl, b9⟩; replace hb := hb.trans (b9.mono hb.size); clear b9))
              go_ret
              exact ⟨rfl, hb⟩
end Go.Proofs.YtgeklainhncnnaaDoor
