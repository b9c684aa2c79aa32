/- The walk of TotalDead, from what is wanted of rule's and total's functions. -/
import Derived.Test.YtifihejogbcbgaaMRefF19
namespace Go.Proofs.Ytifihejogbcbgaa
open Go.RowKit

theorem dead_pre (l : List Row18) {j n : Nat} (h : j ≤ n) : ∃ rest, deadTo l n = deadTo l j ++ rest ∧ ∀ x, x ∈ rest → (j : Int) ≤ x := by
  induction n with
  | zero =>
    obtain rfl : j = 0 := by omega
    exact ⟨[], by simp, by simp⟩
  | succ n ih =>
    rcases (by omega : j ≤ n ∨ j = n + 1) with q | rfl
    · obtain ⟨rest, h1, h2⟩ := ih q
      rw [deadTo]
      split
      · exact ⟨rest, h1, h2⟩
      · refine ⟨rest ++ [(n : Int)], by rw [h1, List.append_assoc], fun x hx => ?_⟩
        rw [List.mem_append, List.mem_singleton] at hx
        rcases hx with hx | hx
        · exact h2 x hx
        · omega
    · exact ⟨[], by simp, by simp⟩
theorem dead_here {l : List Row18} {i n : Nat} (hi : i < n) (h : livesB l i = false) : (deadTo l i).length < (deadTo l n).length ∧ numAt (deadTo l n) (deadTo l i).length = i ∧ (deadTo l (i + 1)).length = (deadTo l i).length + 1 := by
  obtain ⟨rest, h1, _⟩ := dead_pre l (show i + 1 ≤ n by omega)
  have h2 : deadTo l (i + 1) = deadTo l i ++ [(i : Int)] := by rw [deadTo, if_neg (by rw [h]; decide)]
  rw [h2, List.append_assoc] at h1
  refine ⟨by rw [h1]; simp, by rw [h1]; simp [numAt], by rw [h2]; simp⟩
theorem dead_not {l : List Row18} {i n : Nat} (hi : i < n) (h : livesB l i = true) : ((deadTo l i).length = (deadTo l n).length ∨ ((deadTo l i).length < (deadTo l n).length ∧ numAt (deadTo l n) (deadTo l i).length ≠ i)) ∧ (deadTo l (i + 1)).length = (deadTo l i).length := by
  obtain ⟨rest, h1, hr⟩ := dead_pre l (show i + 1 ≤ n by omega)
  have h2 : deadTo l (i + 1) = deadTo l i := by rw [deadTo, if_pos h]
  rw [h2] at h1
  refine ⟨?_, by rw [h2]⟩
  cases rest with
  | nil => left; rw [h1]; simp
  | cons x rest =>
    right
    have := hr x (List.mem_cons_self ..)
    refine ⟨by rw [h1]; simp, ?_⟩
    rw [h1]
    simp [numAt]
    omega
theorem dead_at {l : List Row18} (h : TabOk l) {f : Fact18} (hf : FactOk f) {i : Nat} (hl : livesB l i = false) (h0 : decE l f = 0) : decAt l f ≠ i := by
  obtain ⟨_, _, j, hj⟩ := dec_zero h0
  have := (dec_some h hf hj).2.1
  intro q
  have hji : j = i := by omega
  rw [← hji, lives_of h hf hj] at hl
  cases hl
theorem infoRow19 : (Try.prog.info? 52).map (fun i => (i.zero, i.size, i.bytes)) = some (some (.agg #[.int .i64 0, .int .i64 0, .int .i64 0, .int .i64 0, .int .i64 0]), 5, 40) := by kernel_rfl
set_option maxRecDepth 100000 in
set_option maxHeartbeats 8000000 in
theorem totalDead_from (R : Rule19) (H : Total19) (HK : TotalC19) (w : World) (a : Option Addr) (cap : Nat) (l : List Row18) (_ : l.length ≤ maxLen) (hx : RowsIn w.heap.size w a l) (hcap : l.length ≤ cap) (f : Fact18) :
    Calls Try.prog 5 #[.slice a l.length cap, factVal f] w fun e w' => e = .returned (.bool true) ∧ Below w.heap.size w w' := by
  obtain ⟨W0, hW0⟩ : ∃ W, W = w.alloc (.cells #[.int .i64 f.g, .bool f.v, .int .i64 f.n] 28) := ⟨_, rfl⟩
  have hb0 : Below w.heap.size w W0 := by rw [hW0]; exact lit16 w _
  have h1 := heap_alloc_new w (.cells #[.int .i64 f.g, .bool f.v, .int .i64 f.n] 28)
  rw [← hW0] at h1
  have HB0 := Lib.hid hb0
  have HAW : Hid (∀ W, Calls Try.prog 7 #[] W fun e w' => e = .returned (.bool true) ∧ Below W.heap.size W w') := Lib.hid fun W => awake19 H HK W
  by_cases hl : 60 < l.length
  · have e1 : decide (60 < (l.length : Int)) = true := decide_eq_true (by omega)
    have e1' : decide (60 < l.length) = true := decide_eq_true hl
    clear hl hx hcap h1 hb0 R H HK
    obtain ⟨fg, fv, fn⟩ := f
    dsimp only at *
    go_enter Try.func5, Try.ntmps5
    go_upto_region 1 with fail
    rw [← hW0]
    clear hW0
    go_wp2_with (go_at_call 7; refine (HAW.out _).mono ?_; rintro e w2 ⟨rfl, hb⟩; have HB := Lib.hid (HB0.out.trans (hb.mono HB0.out.size)); clear hb)
    go_ret
    exact ⟨rfl, HB.out⟩
  have e1 : decide (60 < (l.length : Int)) = false := decide_eq_false (by omega)
  have e1' : decide (60 < l.length) = false := decide_eq_false hl
  have hn : l.length ≤ 1000000 := by omega
  have HX := Lib.hid (rowsIn_step hx hb0)
  have HS : Hid (∀ V, Below W0.heap.size W0 V → V.cell? ⟨w.heap.size, 0, none⟩ = some (.int .i64 f.g) ∧ V.cell? ⟨w.heap.size, 1, none⟩ = some (.bool f.v) ∧ V.cell? ⟨w.heap.size, 2, none⟩ = some (.int .i64 f.n)) := Lib.hid fun V hV => by
    have k1 := old_obj hV h1
    exact ⟨cell_of (j := 0) k1 rfl, cell_of (j := 1) k1 rfl, cell_of (j := 2) k1 rfl⟩
  have HC : Hid (∀ W, Below W0.heap.size W0 W → Calls Try.prog 18 #[.slice a l.length cap] W fun e w' => e = .returned (.int .i64 (tabE l)) ∧ Below W.heap.size W w') := Lib.hid fun W h => R.check a cap l W hcap (rowsIn_step HX.out h) hn
  have HF : Hid (∀ W, Calls Try.prog 20 #[factVal f] W fun e w' => e = .returned (.int .i64 (factE f)) ∧ Below W.heap.size W w') := Lib.hid fun W => R.fact f W
  obtain ⟨c0, c1, c2⟩ := HS.out W0 (Below.refl _ _)
  by_cases hT : ¬ TabOk l
  · rw [tab_no hT] at HC
    clear hl hx hcap h1 hb0 R H HK hT hn
    obtain ⟨fg, fv, fn⟩ := f
    dsimp only at *
    go_enter Try.func5, Try.ntmps5
    go_upto_region 1 with fail
    rw [← hW0]
    clear hW0
    go_wp2_with (first
      | (go_at_call 18; refine (HC.out _ (Below.refl _ _)).mono ?_; rintro e w1 ⟨rfl, hb⟩; have BX := Lib.hid hb; clear hb)
      | (go_at_call 7; refine (HAW.out _).mono ?_; rintro e w2 ⟨rfl, hb⟩; have BY := Lib.hid (BX.out.trans (hb.mono BX.out.size)); clear hb))
    go_ret
    exact ⟨rfl, HB0.out.trans (BY.out.mono HB0.out.size)⟩
  have hT := Decidable.not_not.1 hT
  rw [tab_yes hT] at HC
  by_cases hF : ¬ FactOk f
  · rw [fact_no hF] at HF
    clear hl hx hcap h1 hb0 R H HK hT hF hn
    obtain ⟨fg, fv, fn⟩ := f
    dsimp only at *
    go_enter Try.func5, Try.ntmps5
    go_upto_region 1 with fail
    rw [← hW0]
    clear hW0
    go_wp2_with (first
      | (go_at_call 18; refine (HC.out _ (Below.refl _ _)).mono ?_; rintro e w1 ⟨rfl, hb⟩; have BX := Lib.hid hb; clear c0 c1 c2; obtain ⟨c0, c1, c2⟩ := HS.out _ hb; clear hb)
      | (go_at_call 20; refine (HF.out _).mono ?_; rintro e w2 ⟨rfl, hb⟩; have BY := Lib.hid (BX.out.trans (hb.mono BX.out.size)); clear hb)
      | (go_at_call 7; refine (HAW.out _).mono ?_; rintro e w3 ⟨rfl, hb⟩; have BZ := Lib.hid (BY.out.trans (hb.mono BY.out.size)); clear hb))
    go_ret
    exact ⟨rfl, HB0.out.trans (BZ.out.mono HB0.out.size)⟩
  have hF := Decidable.not_not.1 hF
  rw [fact_yes hF] at HF
  have HD : Hid (∀ W, Below W0.heap.size W0 W → Calls Try.prog 14 #[.slice a l.length cap] W fun e w' => ∃ b c, e = .returned (.slice b (deadTo l l.length).length c) ∧ Ints w'.heap.size w' b (deadTo l l.length) ∧ Below W.heap.size W w') := Lib.hid fun W h => by
    have q := H.dead a cap l W hcap (rowsIn_step HX.out h) hn
    rw [show deadV l = deadTo l l.length from if_pos hT] at q
    refine q.mono ?_
    rintro e w' ⟨b, c, rfl, _, hi, hb⟩
    exact ⟨b, c, rfl, hi, hb⟩
  have HQ : Hid (∀ W, Below W0.heap.size W0 W → Calls Try.prog 19 #[.slice a l.length cap, factVal f] W fun e w' => e = .returned (.tuple #[.int .i64 (decWay l f), .int .i64 (decAt l f), .int .i64 (decE l f)]) ∧ Below W.heap.size W w') := Lib.hid fun W h => R.decide a cap l f W hcap (rowsIn_step HX.out h) hn
  have hls := less_says hT hF
  have HL : Hid (∀ W (b : Option Addr) (c : Nat) (ys : List Row18), ys = lessTo l l.length → ys.length ≤ c → RowsIn W.heap.size W b ys → ∃ y, Calls Try.prog 19 #[.slice b ys.length c, factVal f] W fun e w' => e = .returned (.tuple #[.int .i64 (decWay l f), .int .i64 y, .int .i64 (decE l f)]) ∧ Below W.heap.size W w') := Lib.hid fun W b c ys hy hc h => by
    have q := R.decide b c ys f W hc h (by rw [hy]; have := less_len l l.length; omega)
    rw [show decWay ys f = decWay l f from by rw [hy]; exact hls.2, show decE ys f = decE l f from by rw [hy]; exact hls.1] at q
    exact ⟨_, q⟩
  have HAT : Hid (∀ i, livesB l i = false → (decE l f == 0) = false ∨ (decE l f = 0 ∧ (decAt l f == (i : Int)) = false)) := Lib.hid fun i hi => by
    by_cases z : decE l f = 0
    · exact Or.inr ⟨z, by rw [beq_eq_false_iff_ne]; exact dead_at hT hF hi z⟩
    · exact Or.inl (by rw [beq_eq_false_iff_ne]; exact z)
  have HCAP := Lib.hid hcap
  have hl60 : l.length ≤ 60 := by omega
  have HDL : Hid (∀ i, (deadTo l i).length ≤ i) := Lib.hid (dead_len l)
  clear hl hx hcap h1 hb0 R H HK hT hF hn hls
  generalize decWay l f = xw at *
  generalize decAt l f = xa at *
  generalize decE l f = xe at *
  obtain ⟨fg, fv, fn⟩ := f
  dsimp only at *
  go_enter Try.func5, Try.ntmps5
  go_upto_region 1 with fail
  rw [← hW0]
  clear hW0
  go_upto_region 5 with (first
    | (go_at_call 18; refine (HC.out _ (Below.refl _ _)).mono ?_; rintro e w1 ⟨rfl, hb⟩; have BX := Lib.hid hb; clear c0 c1 c2; obtain ⟨c0, c1, c2⟩ := HS.out _ hb; clear hb)
    | (go_at_call 20; refine (HF.out _).mono ?_; rintro e w2 ⟨rfl, hb⟩; have BY := Lib.hid (BX.out.trans (hb.mono BX.out.size)); clear hb)
    | (go_at_call 14; refine (HD.out _ BY.out).mono ?_; rintro e w3 ⟨db, dc, rfl, hi, hb⟩; have I3 := Lib.hid hi; have BZ := Lib.hid (BY.out.trans (hb.mono BY.out.size)); clear c0 c1 c2; obtain ⟨c0, c1, c2⟩ := HS.out _ BZ.out; clear hb hi)
    | (go_at_call 19; refine (HQ.out _ BZ.out).mono ?_; rintro e w4 ⟨rfl, hb⟩; have I4 := Lib.hid ((I3.out.below hb).up hb.size); have B4 := Lib.hid (BZ.out.trans (hb.mono BZ.out.size)); clear c0 c1 c2 hb I3))
  have HX4 := Lib.hid (rowsIn_step HX.out B4.out)
  go_wp2
  go_loopw [9, 10, 11] (fun s9 s10 s11 wr => ∃ (i K : Nat) (a8 : Option Addr) (c8 : Nat) (ys : List Row18), s9 = .slice a8 ys.length c8 ∧ s10 = .int .i64 (K : Int) ∧ s11 = .int .i64 i ∧ i ≤ l.length ∧ K = (deadTo l i).length ∧ Hid (OutE rowElt 52 w4 wr a8 c8 ys) ∧ Hid (ys = lessTo l i)) (fun _ _ s11 _ => l.length - (intOf s11).toNat)
  case atStart => exact ⟨0, 0, none, 0, [], rfl, rfl, rfl, Nat.zero_le _, rfl, Lib.hid (OutE.start _ _ w4), Lib.hid rfl⟩
  case round =>
    obtain ⟨i, K, a8, c8, ys, rfl, rfl, rfl, hi, hKK, HO, HY⟩ := hrel
    have hKi : K ≤ i := by rw [hKK]; exact HDL.out i
    by_cases hlt : i < l.length
    · have i1 : decide ((i : Int) < (l.length : Int)) = true := decide_eq_true (by omega)
      have i1' : decide (i < l.length) = true := decide_eq_true hlt
      have i2 : (i : Int) < (l.length : Int) := by omega
      have i3 : (0 : Int) ≤ (i : Int) := by omega
      have hi1 : i + 1 ≤ l.length := hlt
      cases hlv : livesB l i with
      | false =>
        obtain ⟨d1, d2, d3⟩ := dead_here hlt hlv
        rw [← hKK] at d1 d2 d3
        have hat := HAT.out i hlv
        have HY2 : Hid (ys = lessTo l (i + 1)) := Lib.hid (by rw [lessTo, if_neg (by rw [hlv]; decide)]; exact HY.out)
        have k1 : decide ((K : Int) < ((deadTo l l.length).length : Int)) = true := decide_eq_true (by omega)
        have k1' : decide (K < (deadTo l l.length).length) = true := decide_eq_true d1
        have k2 : (K : Int) < ((deadTo l l.length).length : Int) := by omega
        have k3 : (0 : Int) ≤ (K : Int) := by omega
        obtain ⟨b, o, rfl, cd⟩ : ∃ b o, db = some ⟨b, o, none⟩ ∧ wr.cell? ⟨b, o + K, none⟩ = some (.int .i64 (i : Int)) := by
          rcases I4.out with q | ⟨b, o, rfl, hB, hc⟩
          · exfalso; rw [q] at d1; simp at d1
          · exact ⟨b, o, rfl, (HO.out.below.cell (p := ⟨b, o + K, none⟩) hB).trans (by rw [hc K d1, d2])⟩
        have hK3 : K + 1 = (deadTo l (i + 1)).length := d3.symm
        have eK : IntKind.i64.wrap ((K : Int) + 1) = (K : Int) + 1 := IntWalk.i64_in _ (by omega)
        clear hlt hlv d1 d2 d3 hKK
        rcases hat with z | ⟨rfl, z⟩
        all_goals
          go_wp2
          go_roundw
          case rel => exact ⟨i + 1, K + 1, a8, c8, ys, by first | rfl | trivial, by first | rfl | go_num, by first | rfl | go_num, hi1, hK3, HO, HY2⟩
          case measure => first | (simp [intOf]; omega) | simp [intOf]
      | true =>
        obtain ⟨hor, d3⟩ := dead_not hlt hlv
        rw [← hKK] at hor d3
        have hr := rows_at18 (rowsIn_step HX4.out HO.out.below) hlt
        have HY2 : Hid (lessTo l (i + 1) = lessTo l i ++ [rowAt18 l i]) := Lib.hid (by rw [lessTo, if_pos hlv])
        have hK3 : Hid (K = (deadTo l (i + 1)).length) := Lib.hid d3.symm
        have hml : ys.length ≤ 900000 := by rw [HY.out]; have := less_len l i; omega
        have k3 : (0 : Int) ≤ (K : Int) := by omega
        have hcase : (decide ((K : Int) < ((deadTo l l.length).length : Int)) = false ∧ decide (K < (deadTo l l.length).length) = false) ∨ ((decide ((K : Int) < ((deadTo l l.length).length : Int)) = true ∧ decide (K < (deadTo l l.length).length) = true) ∧ (K : Int) < ((deadTo l l.length).length : Int) ∧ ∃ b o x, db = some ⟨b, o, none⟩ ∧ wr.cell? ⟨b, o + K, none⟩ = some (.int .i64 x) ∧ (x == (i : Int)) = false) := by
          rcases hor with q | ⟨q, q2⟩
          · exact Or.inl ⟨decide_eq_false (by omega), decide_eq_false (by omega)⟩
          · refine Or.inr ⟨⟨decide_eq_true (by omega), decide_eq_true q⟩, by omega, ?_⟩
            rcases I4.out with z | ⟨b, o, rfl, hB, hc⟩
            · exfalso; rw [z] at q; simp at q
            · exact ⟨b, o, _, rfl, (HO.out.below.cell (p := ⟨b, o + K, none⟩) hB).trans (hc K q), by rw [beq_eq_false_iff_ne]; exact q2⟩
        obtain ⟨b, off, rfl, hbb, c0, c1, c2, c3, c4⟩ := hr
        clear hlt hlv hor d3 hKK
        generalize hrr : rowAt18 l i = r at *
        obtain ⟨rg, rv, rl, rh, rw⟩ := r
        dsimp only at *
        rcases hcase with ⟨k1, k1'⟩ | ⟨⟨k1, k1'⟩, k2, b2, o2, x, rfl, cd, z⟩
        all_goals
          go_wp2_with (at_builtin; refine append_elt (w := w4) rowElt Try.underlying23 infoRow19 rfl (by decide) rfl _ _ rfl a8 c8 ys rfl HO.out ⟨rg, rv, rl, rh, rw⟩ rfl _ rfl rfl hml ?_)
          intro a9 c9 V9 zs hz hO9
          have HZ : Hid (zs = lessTo l (i + 1)) := Lib.hid (by rw [hz.out, HY2.out, HY.out])
          have HO9 := Lib.hid hO9
          clear hz hO9
          go_wp2
          go_roundw
          case rel => exact ⟨i + 1, K, a9, c9, zs, by first | rfl | trivial, by first | rfl | go_num, by first | rfl | go_num, hi1, hK3.out, HO9, HZ⟩
          case measure => first | (simp [intOf]; omega) | simp [intOf]
    · obtain rfl : i = l.length := by omega
      have i1 : decide ((l.length : Int) < (l.length : Int)) = false := decide_eq_false (by omega)
      have hels := HO.out.els
      obtain ⟨y, hdd⟩ := HL.out wr a8 c8 ys HY.out hels.1 (Rw.wide hels.2 (Nat.zero_le _) (Nat.le_refl _))
      have B5 := Lib.hid (B4.out.trans (HO.out.below.mono B4.out.size))
      obtain ⟨c0, c1, c2⟩ := HS.out _ B5.out
      have hkk : ((K : Int) == ((deadTo l l.length).length : Int)) = true := by rw [hKK]; simp
      clear hels hlt hKK
      go_wp2_with (first
        | (go_at_call 19; refine hdd.mono ?_; rintro e w5 ⟨rfl, hb⟩; have B6 := Lib.hid (B5.out.trans (hb.mono B5.out.size)); clear hb)
        | (go_at_call 7; refine (HAW.out _).mono ?_; rintro e w6 ⟨rfl, hb⟩; have B7 := Lib.hid (B6.out.trans (hb.mono B6.out.size)); clear hb))
      go_ret
      exact ⟨by first | rfl | simp, HB0.out.trans (B7.out.mono HB0.out.size)⟩
end Go.Proofs.Ytifihejogbcbgaa
