/- The program's Dead; all that the walks of layer 19 want of rule and total. -/
import Derived.Test.YtifihejogbcbgaaMPrgA18
import Derived.Test.YtifihejogbcbgaaMRefF19
import Derived.Test.YtifihejogbcbgaaPrgG19
namespace Go.Proofs.Ytifihejogbcbgaa
open Go.RowKit

set_option maxRecDepth 100000 in
set_option maxHeartbeats 8000000 in
theorem pdead19_any (a : Option Addr) (cap : Nat) (l : List Row18) (w : World) (hcap : l.length ≤ cap) (hx : RowsIn w.heap.size w a l) (hn : l.length ≤ 1000000) :
    Calls Try.prog 14 #[.slice a l.length cap] w fun e w' => ∃ b c, e = .returned (.slice b (deadV l).length c) ∧ (deadV l).length ≤ c ∧ Ints w'.heap.size w' b (deadV l) ∧ Below w.heap.size w w' := by
  have HX := Lib.hid hx
  have HC := Lib.hid (pcheck18_any a cap l w hx hn)
  by_cases hT : ¬ TabOk l
  · have HV : Hid (deadV l = []) := Lib.hid (if_neg hT)
    rw [tab_no hT] at HC
    clear hx hT
    go_enter Try.func14, Try.ntmps14
    go_wp2_with (go_at_call 18; refine HC.out.mono ?_; rintro e w2 ⟨rfl, hb⟩; have HB := Lib.hid hb; clear hb)
    go_ret
    rw [HV.out]
    exact ⟨none, 0, rfl, Nat.le_refl _, Or.inl rfl, HB.out⟩
  have hT := Decidable.not_not.1 hT
  have HV : Hid (deadV l = deadTo l l.length) := Lib.hid (if_pos hT)
  have HT := Lib.hid hT
  rw [tab_yes hT] at HC
  have h20 := hT.2.1
  obtain ⟨b, off, rfl⟩ := tab_ptr19 hx hT
  have HFF : Hid (∀ k, k ≤ l.length → ∀ W, Below w.heap.size w W → Calls Try.prog 23 #[.slice (some ⟨b, off, none⟩) k cap] W fun e w' => ∃ g, e = .returned (freeF g) ∧ Free19 w' g (l.take k) ∧ Below W.heap.size W w') := Lib.hid fun k hk W h => by
    have h1 := pfree19_any b off cap (l.take k) W (rows_take19 (rowsIn_step HX.out h) k) (by rw [List.length_take]; omega)
    rw [List.length_take, Nat.min_eq_left hk] at h1
    exact h1
  clear hx hT
  go_enter Try.func14, Try.ntmps14
  go_upto_region 4 with (go_at_call 18; refine HC.out.mono ?_; rintro e w2 ⟨rfl, hb⟩; have HB := Lib.hid hb; clear hb)
  have H0 := Lib.hid (Nums16.step (Nums16.start w) HB.out)
  go_wp2
  go_loopw [3, 11] (fun s3 s11 wr => ∃ (k : Nat) (da : Option Addr) (dc : Nat) (ys : List Int), s3 = .slice da ys.length dc ∧ s11 = .int .i64 k ∧ k ≤ l.length ∧ Hid (Nums16 w wr da dc ys) ∧ Hid (ys = deadTo l k)) (fun _ s11 _ => l.length - (intOf s11).toNat)
  case atStart => exact ⟨0, none, 0, [], rfl, rfl, Nat.zero_le _, H0, Lib.hid rfl⟩
  case round =>
    clear H0
    obtain ⟨k, da, dc, ys, rfl, rfl, hk, HO, HY⟩ := hrel
    by_cases hlt : k < l.length
    · have i1 : decide ((k : Int) < (l.length : Int)) = true := decide_eq_true (by omega)
      have i1' : decide (k < l.length) = true := decide_eq_true hlt
      have i2 : (k : Int) < (l.length : Int) := by omega
      have i3 : (0 : Int) ≤ (k : Int) := by omega
      have i4 : (k : Int) ≤ (cap : Int) := by omega
      have i5 : k ≤ cap := by omega
      have hk1 : k + 1 ≤ l.length := hlt
      obtain ⟨b', off', eb, hbb, c0, c1, c2, c3, c4⟩ := rows_at18 (rowsIn_step HX.out HO.out.below) hlt
      obtain ⟨rfl, rfl, _⟩ := Addr.mk.inj (Option.some.inj eb)
      have HF := Lib.hid (HFF.out k hk)
      have HLV := Lib.hid (lives_open HT.out hlt)
      have HOKR := Lib.hid (HT.out.2.2 k hlt)
      have HST : Hid (deadTo l (k + 1) = if livesB l k = true then deadTo l k else deadTo l k ++ [(k : Int)]) := Lib.hid rfl
      have hyl : ys.length ≤ 1000000 := by have := dead_len l k; rw [← HY.out] at this; omega
      have HD : Hid (∀ g V, Free19 V g (l.take k) → Calls Try.prog 30 #[rowVal (rowAt18 l k), freeF g] V fun e w' => ∃ x : Bool, e = .returned (.bool x) ∧ (livesB l k = !x) ∧ Below V.heap.size V w') := Lib.hid fun g V hF =>
        (pisdead19_any (rowAt18 l k) HOKR.out g (l.take k) V hF (fun r hr => tab_mem HT.out (List.mem_of_mem_take hr)) (by rw [List.length_take]; omega)).mono (by
          rintro e w' ⟨x, rfl, h1, h2, h3⟩
          refine ⟨x, rfl, ?_, h3⟩
          cases x with
          | false => exact HLV.out.2 (h1 rfl)
          | true =>
            cases hq : livesB l k with
            | false => rfl
            | true => obtain ⟨c, hc, ho⟩ := HLV.out.1 hq; exact absurd ho (h2 rfl c hc))
      clear hlt
      generalize rowAt18 l k = r at *
      have HBX := heap_alloc_new wr (.cells #[.int .i64 r.g, .int .i64 r.v, .int .i64 r.lo, .int .i64 r.hi, .int .i64 r.way] 52)
      have HOB := Lib.hid (HO.out.step (lit16 wr (.cells #[.int .i64 r.g, .int .i64 r.v, .int .i64 r.lo, .int .i64 r.hi, .int .i64 r.way] 52)))
      obtain ⟨rg, rv, rl, rh, rw⟩ := r
      dsimp only at *
      go_upto_region 7 with fail
      obtain ⟨wa, hwa⟩ : ∃ V, V = wr.alloc (.cells #[.int .i64 rg, .int .i64 rv, .int .i64 rl, .int .i64 rh, .int .i64 rw] 52) := ⟨_, rfl⟩
      rw [← hwa] at HBX HOB ⊢
      clear hwa c0 c1 c2 c3 c4
      have HS : Hid (∀ V, Below wa.heap.size wa V → V.cell? ⟨wr.heap.size, 0, none⟩ = some (.int .i64 rg) ∧ V.cell? ⟨wr.heap.size, 1, none⟩ = some (.int .i64 rv) ∧ V.cell? ⟨wr.heap.size, 2, none⟩ = some (.int .i64 rl) ∧ V.cell? ⟨wr.heap.size, 3, none⟩ = some (.int .i64 rh) ∧ V.cell? ⟨wr.heap.size, 4, none⟩ = some (.int .i64 rw)) := Lib.hid fun V hV => by
        have k1 := old_obj hV HBX
        exact ⟨cell_of (j := 0) k1 rfl, cell_of (j := 1) k1 rfl, cell_of (j := 2) k1 rfl, cell_of (j := 3) k1 rfl, cell_of (j := 4) k1 rfl⟩
      have BX := Lib.hid (Below.refl wa.heap.size wa).drew
      have SX := Lib.hid (HS.out _ BX.out)
      clear HBX HO
      go_cut [21] (fun s21 wx => ∃ x : Bool, s21 = .bool x ∧ Hid (livesB l k = !x) ∧ Hid (Below wa.heap.size wa wx))
      case first =>
        go_region_held3 (fun v => v.cell? ⟨wr.heap.size, 0, none⟩ = some (.int .i64 rg) ∧ v.cell? ⟨wr.heap.size, 1, none⟩ = some (.int .i64 rv) ∧ v.cell? ⟨wr.heap.size, 2, none⟩ = some (.int .i64 rl) ∧ v.cell? ⟨wr.heap.size, 3, none⟩ = some (.int .i64 rh) ∧ v.cell? ⟨wr.heap.size, 4, none⟩ = some (.int .i64 rw)) (first
          | exact SX.out
          | assumption
          | go_keep) (first
          | (go_at_call 23; refine (HF.out _ (HOB.out.below.trans (BX.out.mono HOB.out.below.size))).mono ?_; rintro e w5 ⟨g, rfl, hf, hb⟩; have HFR := Lib.hid hf; have BY := Lib.hid (BX.out.trans (hb.mono BX.out.size)); clear BX SX hb hf; have BX := BY; clear BY; have SX := Lib.hid (HS.out _ BX.out))
          | (go_at_call 30; refine (HD.out _ _ HFR.out).mono ?_; rintro e w6 ⟨x, rfl, hl, hb⟩; have HL := Lib.hid hl; have BY := Lib.hid (BX.out.trans (hb.mono BX.out.size)); clear BX SX hb hl; have BX := BY; clear BY; have SX := Lib.hid (HS.out _ BX.out)))
        all_goals
          go_wp2
          go_meet
          exact ⟨x, rfl, HL, BX⟩
      case rest =>
        obtain ⟨x, rfl, HL, BX2⟩ := hcut
        have HO2 := Lib.hid (HOB.out.step BX2.out)
        clear BX SX
        cases x with
        | false =>
          have HQ : Hid (ys = deadTo l (k + 1)) := Lib.hid (by rw [HST.out, if_pos (by rw [HL.out]; rfl), HY.out])
          go_wp2
          go_roundw
          case rel => exact ⟨k + 1, da, dc, ys, rfl, by first | rfl | go_num, hk1, HO2, HQ⟩
          case measure => first | (simp [intOf]; omega) | simp [intOf]
        | true =>
          have HQ : Hid (ys ++ [(k : Int)] = deadTo l (k + 1)) := Lib.hid (by rw [HST.out, if_neg (by rw [HL.out]; decide), HY.out])
          go_wp2_with (at_builtin; refine append_nums rfl _ _ rfl da dc ys rfl HO2.out (k : Int) rfl hyl ?_)
          intro a7 c7 V7 ts hts' hO7
          have hts := hts'.out
          clear hts'
          have HO7 := Lib.hid hO7
          rw [← hts] at HQ
          clear hO7 hts
          go_wp2
          go_roundw
          case rel => exact ⟨k + 1, a7, c7, ts, rfl, by first | rfl | go_num, hk1, HO7, HQ⟩
          case measure => first | (simp [intOf]; omega) | simp [intOf]
    · obtain rfl : k = l.length := by omega
      have i1 : decide ((l.length : Int) < (l.length : Int)) = false := decide_eq_false (by omega)
      have HR : Hid (ys = deadV l) := Lib.hid (by rw [HV.out, HY.out])
      go_wp2
      go_ret
      rw [← HR.out]
      exact ⟨da, dc, rfl, HO.out.ints.1, HO.out.ints.2, HO.out.below⟩
theorem rule19 : Rule19 := ⟨fun a cap l w _ h h2 => pcheck18_any a cap l w h h2, pfact18_any, fun a cap l f w _ h h2 => pdecide18_any a cap l f w h h2⟩
theorem total19 : Total19 := ⟨fun a cap l w _ h h2 => pgap19_any a cap l w h h2, fun a cap l w _ h h2 => pwhole19_any a cap l w h h2, fun a cap l w h1 h h2 => pdead19_any a cap l w h1 h h2, fun a cap l w _ h h2 => pcells19_any a cap l w h h2⟩
theorem totalC19 : TotalC19 := ⟨fun a1 a2 a3 a4 c1 c2 c3 c4 ks cs fs l w h1 h2 h3 h4 _ _ _ _ n1 n2 n3 n4 => pcheck19_any a1 a2 a3 a4 c1 c2 c3 c4 ks cs fs l w h1 h2 h3 h4 n1 n2 n3 n4⟩
end Go.Proofs.Ytifihejogbcbgaa
