/- The law TrailFalls: wherever the power goes while a frame is appended: it comes out true for few and short texts. -/
import Derived.Test.YtdomcgbfpinpoaaGreatDoorTrF11
import Derived.Test.YtdomcgbfpinpoaaGreatDoorTrH11
import Derived.Test.YtdomcgbfpinpoaaGreatDoorTrI11
namespace Go.Proofs.YtdomcgbfpinpoaaGreatDoor
open Go.RowKit Go.Maps

theorem four_cells11 {w : World} {g : Nat} {x y z u : Value} {t : TypeId} (h : w.heap[g]? = some (.cells #[x, y, z, u] t (0, 0))) :
    w.cell? ⟨g, 0, none⟩ = some x ∧ w.cell? ⟨g, 1, none⟩ = some y ∧ w.cell? ⟨g, 2, none⟩ = some z ∧ w.cell? ⟨g, 3, none⟩ = some u := ⟨cell_of (j := 0) h rfl, cell_of (j := 1) h rfl, cell_of (j := 2) h rfl, cell_of (j := 3) h rfl⟩
theorem arm_ops11 (d : Dv) (n : Int) : (d.arm n).ops = d.ops := by unfold Dv.arm; split <;> rfl
set_option maxRecDepth 100000 in
set_option maxHeartbeats 8000000 in
theorem trailFalls_main (w : World) (tab : Tab w) (a : Option Addr) (cap : Nat) (xs : List (List UInt8)) (hcap : xs.length ≤ cap) (hX : Txs 0 w.heap.size w a xs) (O : ByteArray) (hO : O.size ≤ 2000) (n : Int) (hn : 1 ≤ n ∧ n ≤ 9223372036854775807) (ka : Option Addr) (kc : Nat) (ks : List Bool) (tn ct : Int) (hK : Bools w.heap.size w ka ks) (hsh : shortB xs = true) (hne : xs.length ≠ 0) (hk : ks.length ≤ 3000) :
    Calls Tryz.prog 3 #[.slice a xs.length cap, .string O, .agg #[.int .i64 n, .slice ka ks.length kc, .int .i64 tn, .int .i64 ct]] w fun e w' => e = .returned (.bool true) ∧ Below w.heap.size w w' := by
  have hS := short_of hsh
  have hsm := fun v (hv : Txs 0 w.heap.size v a xs) => small_any a cap xs 0 w.heap.size v hv
  rw [hsh] at hsm
  have e0 : ((xs.length : Int) == 0) = false := by rw [beq_eq_false_iff_ne]; omega
  have e1 : decide (2000 < (O.size : Int)) = false := decide_eq_false (by omega)
  have e2 : decide (n < 1) = false := decide_eq_false (by omega)
  have e3 : decide (3000 < (ks.length : Int)) = false := decide_eq_false (by omega)
  obtain ⟨W, hW⟩ : ∃ W, W = w.alloc (.cells #[.int .i64 n, .slice ka ks.length kc, .int .i64 tn, .int .i64 ct] 27 (0, 0)) := ⟨_, rfl⟩
  have hB0 : Below w.heap.size w W := by rw [hW]; exact (Below.refl _ w).alloc (Nat.le_refl _) _
  have hN0 : W.heap[w.heap.size]? = some (.cells #[.int .i64 n, .slice ka ks.length kc, .int .i64 tn, .int .i64 ct] 27 (0, 0)) := by rw [hW]; exact heap_alloc_new w _
  obtain ⟨c0, c1, c2, c3⟩ := four_cells11 hN0
  have hs0 : W.heap.size = w.heap.size + 1 := by rw [hW]; simp
  have hsmW := hsm W (hX.below hB0)
  obtain ⟨d0, hd0⟩ : ∃ d, Dv.new 200 = d := ⟨_, rfl⟩
  have ok0 : d0.Ok := by rw [← hd0]; exact dv_new_ok 200 (by omega) (by omega)
  have kp0 : Olds d0 := by rw [← hd0]; exact olds_new
  have op0 : d0.ops = 0 := by rw [← hd0]; rfl
  have hnew : Calls Tryz.prog 6 #[.int .i64 200] W fun e w' => ∃ b g cap m, e = .returned (.tuple #[.pointer (some ⟨b, 0, none⟩), .int .i64 0]) ∧ PDev w' b g cap m d0 ∧ W.heap.size ≤ b ∧ W.heap.size ≤ g ∧ W.heap.size ≤ m ∧ Below W.heap.size W w' := by
    rw [← hd0]; exact pnew_any 200 (by omega) (by omega) W
  have HX := Lib.hid hX
  have HK := Lib.hid hK
  have HS := Lib.hid hS
  have HE := Lib.hid hn
  have HO2 := Lib.hid hO
  have HT := Lib.hid tab
  have HB0 := Lib.hid hB0
  have HN0 := Lib.hid hN0
  have HS0 := Lib.hid hs0
  have HD0 := Lib.hid (And.intro ok0 (And.intro kp0 op0))
  clear hd0 ok0 kp0 op0 hX hK hS hn tab hB0 hN0 hs0 hsm hsh hk hO
  go_enter Tryz.func3, Tryz.ntmps3
  go_upto_region 1 with fail
  rw [← hW]
  clear hW
  go_upto_region 7 with (first
    | (go_at_call 4; refine hsmW.mono ?_; rintro e w1 ⟨rfl, rfl⟩)
    | (go_at_call 6; refine hnew.mono ?_; rintro e w2 ⟨b, g, cp, m, rfl, hp, hb, hg, hm, hb2⟩; have HP2 := Lib.hid hp; have HB2 := Lib.hid hb2; have HBGM := Lib.hid (And.intro hb (And.intro hg hm)); clear hp hb2 hb hg hm))
  obtain ⟨V0, hV0⟩ : ∃ V, V = w2.alloc (.cells #[.int .i64 0, .int .i64 200] 35 (0, 0)) := ⟨_, rfl⟩
  have bV : Below w2.heap.size w2 V0 := by rw [hV0]; exact (Below.refl _ w2).alloc (Nat.le_refl _) _
  have zV : V0.heap[w2.heap.size]? = some (.cells #[.int .i64 0, .int .i64 200] 35 (0, 0)) := by rw [hV0]; exact heap_alloc_new w2 _
  rw [← hV0]
  have hlt := HP2.out.lt
  have hbs := HB2.out.size
  have hs := HS0.out
  have hbgm := HBGM.out
  have HBase : Hid (Base11 w V0 b g m) := Lib.hid ⟨HB0.out.trans ((HB2.out.mono (by omega)).trans (bV.mono (by omega))), by omega, by omega, by omega⟩
  have HLT : Hid (b < V0.heap.size ∧ g < V0.heap.size ∧ m < V0.heap.size) := Lib.hid (by have := bV.size; omega)
  have HAR : Hid (∀ v, But b g m V0 v → v.cell? ⟨w2.heap.size, 0, none⟩ = some (.int .i64 0) ∧ v.cell? ⟨w2.heap.size, 1, none⟩ = some (.int .i64 200)) := Lib.hid fun v hv => two_cells11 (hv.obj zV (by omega) (by omega) (by omega))
  have zC := old_obj bV (old_obj HB2.out HN0.out)
  have HCH : Hid (∀ v, But b g m V0 v → v.cell? ⟨w.heap.size, 0, none⟩ = some (.int .i64 n) ∧ v.cell? ⟨w.heap.size, 1, none⟩ = some (.slice ka ks.length kc) ∧ v.cell? ⟨w.heap.size, 2, none⟩ = some (.int .i64 tn) ∧ v.cell? ⟨w.heap.size, 3, none⟩ = some (.int .i64 ct)) := Lib.hid fun v hv => four_cells11 (hv.obj zC (by omega) (by omega) (by omega))
  have HTX : Hid (∀ v, But b g m V0 v → Txs 0 w.heap.size v a xs) := Lib.hid fun v hv => HX.out.below (HBase.out.below hv)
  have HTab : Hid (∀ v, But b g m V0 v → Tab v) := Lib.hid fun v hv => HT.out.below (HBase.out.below hv)
  have HBO : Hid (∀ v, But b g m V0 v → Bools w.heap.size v ka ks) := Lib.hid fun v hv => HK.out.below (HBase.out.below hv)
  have HFar : Hid (Far ka ks b g m) := Lib.hid (far_of11 HK.out (by omega) (by omega) (by omega))
  have HP0 := Lib.hid (HP2.out.step bV)
  have BU0 := Lib.hid (But.refl b g m V0)
  obtain ⟨kk, hkk⟩ : ∃ k, w2.heap.size = k := ⟨_, rfl⟩
  obtain ⟨N, hN⟩ : ∃ n, xs.length = n := ⟨_, rfl⟩
  obtain ⟨j, hj⟩ : ∃ j, j + 1 = N := ⟨N - 1, by omega⟩
  have HNN := Lib.hid hN
  have HJ := Lib.hid hj
  have hn20 : N ≤ 20 := by rw [← hN]; exact HS.out.1
  have hjN : j < N := by omega
  simp only [hkk] at HAR ⊢
  rw [hN] at hcap ⊢
  clear hV0 bV zV hlt hbs hs hbgm zC hkk hN hj hne c0 c1 c2 c3 hnew hsmW HP2 HB2 HBGM HB0 HN0 HS0 HX HK HT e0 e1 e2 e3
  go_wp2
  go_loopw [10] (fun i' wr => ∃ (i : Nat) (d : Dv), i' = .int .i64 i ∧ i ≤ 4 ∧ Hid (PDev wr b g cp m d ∧ But b g m V0 wr) ∧ Hid (d.Ok ∧ Olds d ∧ d.ops ≤ 2200 * (i : Int))) (fun i _ => 4 - (intOf i).toNat)
  case atStart => exact ⟨0, d0, rfl, by omega, Lib.hid ⟨HP0.out, BU0.out⟩, Lib.hid ⟨HD0.out.1, HD0.out.2.1, by have := HD0.out.2.2; omega⟩⟩
  case round =>
    clear HP0 BU0 HD0
    obtain ⟨i, d, rfl, hi, HD, HO⟩ := hrel
    by_cases hlt : i < 4
    · have i1 : (i : Int) < 4 := by omega
      have iw : IntKind.i64.wrap ((i : Int) + 1) = (i : Int) + 1 := IntWalk.i64_in _ (by omega)
      have iw2 : IntKind.i64.wrap (37 * (i : Int)) = ((37 * i : Nat) : Int) := by rw [show 37 * (i : Int) = ((37 * i : Nat) : Int) by omega]; exact IntWalk.i64_in _ (by omega)
      have hos := HO2.out
      have hol : O.data.toList.length = O.size := text_size O
      have hwr : wrong10 1 ((i : Int) + 1) O.data.toList.length = 0 := by
        unfold wrong10
        rw [if_pos ⟨by omega, by omega, by omega⟩, if_neg (by omega)]
      have hns : nsec O.data.toList.length ≤ 34 := by unfold nsec; omega
      obtain ⟨k1, k2⟩ := olds_write HO.out.2.1 (37 * i) ((i : Int) + 1) O.data.toList hwr (by omega)
      have hsz := put_size 1 ((i : Int) + 1) O.data.toList
      have hop := write_ops11 d ((37 * i : Nat) : Int) (tx (put10 1 ((i : Int) + 1) O.data.toList))
      have hok := HO.out.1.write ((37 * i : Nat) : Int) (tx (put10 1 ((i : Int) + 1) O.data.toList))
      have hO3 := HO.out.2.2
      have hpu := fun v (hv : Tab v) => pput10_any 1 ((i : Int) + 1) O (by omega) v hv
      rw [← hol, hwr, show putL10 1 ((i : Int) + 1) O.data.toList = put10 1 ((i : Int) + 1) O.data.toList by unfold putL10; rw [if_pos hwr]] at hpu
      have hwp := fun v (hv : PDev v b g cp m d) => pwrite_any hv HO.out.1 (by omega) ((37 * i : Nat) : Int) (tx (put10 1 ((i : Int) + 1) O.data.toList)) (by omega)
      rw [k1] at hwp
      obtain ⟨D2, hD2⟩ : ∃ D, d.write ((37 * i : Nat) : Int) (tx (put10 1 ((i : Int) + 1) O.data.toList)) = D := ⟨_, rfl⟩
      rw [hD2] at k2 hop hok
      simp only [hD2] at hwp
      have HO4 : Hid (D2.Ok ∧ Olds D2 ∧ D2.ops ≤ 2200 * ((i + 1 : Nat) : Int)) := Lib.hid ⟨hok, k2, by omega⟩
      generalize tx (put10 1 ((i : Int) + 1) O.data.toList) = X at *
      obtain ⟨pp, hpp⟩ : ∃ pp : Nat, 37 * i = pp := ⟨_, rfl⟩
      rw [hpp] at iw2
      simp only [hpp] at hwp
      have HBW := Lib.hid (HTab.out _ HD.out.2)
      clear hos hol hwr hns k1 k2 hsz hop hok hO3 hD2 hpp HO hcap
      go_upto_region 11 with (go_at_call 7; refine (hpu _ HBW.out).mono ?_; rintro e w3 ⟨rfl, hb3⟩; have HP3 := Lib.hid (HD.out.1.step hb3); have BU3 := Lib.hid (HD.out.2.step hb3); clear hb3)
      clear hpu
      go_wp2_with (go_at_call 8; refine (hwp _ HP3.out).mono ?_; rintro e w4 ⟨rfl, hp4, hb4⟩; have HP4 := Lib.hid hp4; have BU4 := Lib.hid (BU3.out.trans hb4); clear hp4 hb4)
      go_roundw
      case rel => exact ⟨i + 1, D2, by go_num, by omega, Lib.hid ⟨HP4.out, BU4.out⟩, HO4⟩
      case measure => simp [intOf]; omega
    · obtain rfl : i = 4 := by omega
      obtain ⟨o1, o2, o3⟩ := HO.out
      obtain ⟨f1, f2⟩ := olds_flush o2
      have hfo := flush_ops11 d
      have hfl := pflush_any HD.out.1 o1 (by omega)
      rw [f1] at hfl
      obtain ⟨D1, hD1⟩ : ∃ D, d.flush = D := ⟨_, rfl⟩
      have okf := o1.flush
      rw [hD1] at f2 hfo okf
      simp only [hD1] at hfl
      have HO1 : Hid (D1.Ok ∧ Over D1 (xs.take 0) ∧ D1.ops ≤ 9000) := Lib.hid ⟨okf, by rw [List.take_zero]; exact f2, by omega⟩
      clear o1 o2 o3 f1 f2 hfo okf hD1 HO
      go_upto_region 14 with (go_at_call 9; refine hfl.mono ?_; rintro e w3 ⟨rfl, hp3, hb3⟩; have HP3 := Lib.hid hp3; have BU3 := Lib.hid (HD.out.2.trans hb3); clear hp3 hb3)
      clear hfl HD
      go_wp2
      go_loopw [13, 14] (fun at' i' wr => ∃ (i s : Nat) (d : Dv), at' = .int .i64 s ∧ i' = .int .i64 i ∧ i ≤ j ∧ Hid (s = sumN (xs.take i)) ∧ Hid (PDev wr b g cp m d ∧ But b g m V0 wr) ∧ Hid (d.Ok ∧ Over d (xs.take i) ∧ d.ops ≤ 9000 + 449 * (i : Int))) (fun _ i _ => j - (intOf i).toNat)
      case atStart => exact ⟨0, 0, D1, rfl, rfl, by omega, Lib.hid rfl, Lib.hid ⟨HP3.out, BU3.out⟩, Lib.hid ⟨HO1.out.1, HO1.out.2.1, by have := HO1.out.2.2; omega⟩⟩
      case round =>
        clear HP3 BU3 HO1
        obtain ⟨i, s, d, rfl, rfl, hi, Hs, HD, HO⟩ := hrel
        have iw : IntKind.i64.wrap ((i : Int) + 1) = (i : Int) + 1 := IntWalk.i64_in _ (by omega)
        by_cases hlt : i < j
        · have i1 : (i : Int) + 1 < (N : Int) := by omega
          have i2 : (i : Int) < (N : Int) := by omega
          have i3 : (0 : Int) ≤ (i : Int) := by omega
          have hil : i < xs.length := by have := HNN.out; omega
          obtain ⟨t1, t2, t3, t4, t5⟩ := short_step HS.out hil
          have hw10 : wrong10 2 (((xs.take i).length : Int) + 1) (rowAt xs i).length = 0 := by
            unfold wrong10
            rw [t1, if_pos ⟨by omega, by omega, by omega⟩, if_neg (by omega)]
          obtain ⟨k1, k2, k3⟩ := over_app HO.out.2.1 (rowAt xs i) hw10 (by omega)
          rw [t1] at k1 k2 k3
          rw [← take_more11 hil] at k3
          have hops := app_ops d 0 200 (sumN (xs.take i) : Nat) 2 ((i : Int) + 1) (rowAt xs i)
          have hok := app_ok HO.out.1 0 200 (sumN (xs.take i) : Nat) 2 ((i : Int) + 1) (rowAt xs i)
          have hss := Hs.out
          have hO3 := HO.out.2.2
          rw [← hss] at k1 k2 k3 hops hok t5 t2
          have hts : (tx (rowAt xs i)).size = (rowAt xs i).length := tx_size _
          obtain ⟨D2, hD2⟩ : ∃ D, d.app 0 200 (s : Nat) 2 ((i : Int) + 1) (rowAt xs i) = D := ⟨_, rfl⟩
          rw [hD2] at k3 hops hok
          obtain ⟨s2, hs2⟩ : ∃ s2, s + nsec (rowAt xs i).length = s2 := ⟨_, rfl⟩
          have HS2 : Hid (s2 = sumN (xs.take (i + 1))) := Lib.hid (by rw [t5, hs2])
          have HO5 : Hid (D2.Ok ∧ Over D2 (xs.take (i + 1)) ∧ D2.ops ≤ 9000 + 449 * ((i + 1 : Nat) : Int)) := Lib.hid ⟨hok, k3, by omega⟩
          rw [hs2] at k2
          have hap : ∀ v, PDev v b g cp m d → Tab v → Calls Tryz.prog 10 #[.pointer (some ⟨b, 0, none⟩), .agg #[.int .i64 0, .int .i64 200], .int .i64 s, .agg #[.int .i64 2, .int .i64 ((i : Int) + 1), .string (tx (rowAt xs i))]] v fun e w' => e = .returned (.tuple #[.int .i64 s2, .int .i64 0]) ∧ PDev w' b g cp m D2 ∧ But b g m v w' := fun v hv ht => by
            have := ptapp_any hv HO.out.1 (by omega) ht 0 200 s 2 ((i : Int) + 1) (by omega) (by omega) (tx (rowAt xs i)) (by omega)
            rw [tx_list, k1, k2, hD2] at this
            exact this
          obtain ⟨bl, off, rfl, _, _, hc⟩ := (HTX.out wr.drew HD.out.2.drew).resolve_left (fun q => by rw [q] at hil; simp at hil)
          have x0 := hc i hil
          obtain ⟨q0, q1⟩ := HAR.out wr.drew HD.out.2.drew
          have HPD := Lib.hid HD.out.1.drew
          have HBD := Lib.hid HD.out.2.drew
          generalize tx (rowAt xs i) = T at *
          clear hil t1 t2 t3 t4 t5 hw10 k1 k2 k3 hops hok hss hO3 hts hD2 hs2 hc HO hcap
          go_upto_region 18 with fail
          go_cut [15, 16] (fun s12 s13 wx => s12 = .int .i64 s2 ∧ s13 = .int .i64 0 ∧ Hid (PDev wx b g cp m D2 ∧ But b g m V0 wx))
          case first =>
            go_region_with (go_at_call 10; refine (hap _ HPD.out (HTab.out _ HBD.out)).mono ?_; rintro e w3 ⟨rfl, hp3, hb3⟩; have HP3 := Lib.hid hp3; have BU3 := Lib.hid (HBD.out.trans hb3); clear hp3 hb3)
            all_goals
              go_wp2_with fail
              go_meet
              exact ⟨rfl, rfl, Lib.hid ⟨HP3.out, BU3.out⟩⟩
          case rest =>
            obtain ⟨rfl, rfl, HC3⟩ := hcut
            have BU3 := Lib.hid HC3.out.2
            have HP3 := Lib.hid HC3.out.1
            clear x0 q0 q1 hap HC3
            go_wp2
            go_roundw
            case rel => exact ⟨i + 1, s2, D2, rfl, by go_num, by omega, HS2, Lib.hid ⟨HP3.out, BU3.out⟩, HO5⟩
            case measure => simp [intOf]; omega
        · obtain rfl : i = j := by omega
          have hiN : (i : Int) + 1 = (N : Int) := by have := HJ.out; omega
          have i1 : ¬ ((i : Int) + 1 < (N : Int)) := by omega
          have i2 : (i : Int) < (N : Int) := by omega
          have i3 : (0 : Int) ≤ (i : Int) := by omega
          have iw3 : IntKind.i64.wrap ((N : Int) - 1) = (i : Int) := by rw [← hiN, Int.add_sub_cancel]; exact IntWalk.i64_in _ (by omega)
          have hil : i < xs.length := by have := HNN.out; omega
          have hjl : i + 1 = xs.length := by have := HNN.out; have := HJ.out; omega
          obtain ⟨t1, t2, t3, t4, t5⟩ := short_step HS.out hil
          obtain ⟨was, now, left, z1, z2, z3, ⟨r1, r2⟩, ⟨r3, r4⟩, ⟨r5, r6⟩, ⟨r7, r8⟩, r9, hm⟩ := falls_told HS.out hjl HO.out.2.1 n HE.out.1 ks tn ct
          have hss := Hs.out
          rw [hiN, ← hss] at r3 r4 r5 r6 r7 r8 hm
          rw [← hss] at t2
          obtain ⟨o1, _, o3⟩ := HO.out
          have oA := o1.arm n HE.out.2
          have pA := arm_ops11 d n
          obtain ⟨dA, hdA⟩ : ∃ D, d.arm n = D := ⟨_, rfl⟩
          rw [hdA] at oA pA r5 r6 r7 r8 hm
          have oC := app_ok o1 0 200 (s : Nat) 2 (N : Int) (rowAt xs i)
          have oF := app_ok oA 0 200 (s : Nat) 2 (N : Int) (rowAt xs i)
          obtain ⟨dC, hdC⟩ : ∃ D, d.app 0 200 (s : Nat) 2 (N : Int) (rowAt xs i) = D := ⟨_, rfl⟩
          obtain ⟨dF, hdF⟩ : ∃ D, dA.app 0 200 (s : Nat) 2 (N : Int) (rowAt xs i) = D := ⟨_, rfl⟩
          rw [hdC] at oC r3 r4
          rw [hdF] at oF r5 r6 r7 r8
          have oL := oF.off.boot ks tn ct
          obtain ⟨dL, hdL⟩ : ∃ D, dF.off.boot ks tn ct = D := ⟨_, rfl⟩
          rw [hdL] at oL r5 r6 r7 r8
          have hts : (tx (rowAt xs i)).size = (rowAt xs i).length := tx_size _
          obtain ⟨R1, hR1⟩ : ∃ R, d.readT 0 200 = R := ⟨_, rfl⟩
          obtain ⟨R2, hR2⟩ : ∃ R, dC.readT 0 200 = R := ⟨_, rfl⟩
          obtain ⟨R3, hR3⟩ : ∃ R, dL.readT 0 200 = R := ⟨_, rfl⟩
          rw [hR1] at r2
          rw [hR2] at r4
          rw [hR3] at r6
          have y1 : R1.size = 12800 := by rw [← text_size, r2, z1]
          have y2 : R2.size = 12800 := by rw [← text_size, r4, z2]
          have y3 : R3.size = 12800 := by rw [← text_size, r6, z3]
          obtain ⟨HEr, hHE⟩ : ∃ E, dA.appE 0 200 (s : Nat) 2 (N : Int) (rowAt xs i) = E := ⟨_, rfl⟩
          obtain ⟨HTo, hHT⟩ : ∃ E, dA.appTo 0 200 (s : Nat) 2 (N : Int) (rowAt xs i) = E := ⟨_, rfl⟩
          obtain ⟨CEr, hCE⟩ : ∃ E, d.appE 0 200 (s : Nat) 2 (N : Int) (rowAt xs i) = E := ⟨_, rfl⟩
          obtain ⟨CTo, hCT⟩ : ∃ E, d.appTo 0 200 (s : Nat) 2 (N : Int) (rowAt xs i) = E := ⟨_, rfl⟩
          rw [hHE] at hm
          have hrd1 : ∀ v, PDev v b g cp m d → Calls Tryz.prog 11 #[.pointer (some ⟨b, 0, none⟩), .int .i64 0, .int .i64 200] v fun e w' => e = .returned (.tuple #[.string R1, .int .i64 0]) ∧ Below v.heap.size v w' := fun v hv => by
            have := pread_any hv o1 0 200 (by omega)
            rw [hR1, r1] at this
            exact this
          have hcp := fun v (hv : PDev v b g cp m d) => pcopy_any hv o1
          have hram : ∀ v, PDev v b g cp m d → Calls Tryz.prog 13 #[.pointer (some ⟨b, 0, none⟩), .int .i64 n] v fun e w' => e = .returned (.int .i64 0) ∧ PDev w' b g cp m dA ∧ But b g m v w' := fun v hv => by
            have := parm_any hv o1 n
            rw [r9, hdA] at this
            exact this
          have hap2 : ∀ v b2 g2 c2 m2, PDev v b2 g2 c2 m2 d → Tab v → Calls Tryz.prog 10 #[.pointer (some ⟨b2, 0, none⟩), .agg #[.int .i64 0, .int .i64 200], .int .i64 s, .agg #[.int .i64 2, .int .i64 N, .string (tx (rowAt xs i))]] v fun e w' => e = .returned (.tuple #[.int .i64 CTo, .int .i64 CEr]) ∧ PDev w' b2 g2 c2 m2 dC ∧ But b2 g2 m2 v w' := fun v b2 g2 c2 m2 hv ht => by
            have := ptapp_any hv o1 (by omega) ht 0 200 s 2 (N : Int) (by omega) (by omega) (tx (rowAt xs i)) (by omega)
            rw [tx_list, hCE, hCT, hdC] at this
            exact this
          have hrd2 : ∀ v b2 g2 c2 m2, PDev v b2 g2 c2 m2 dC → Calls Tryz.prog 11 #[.pointer (some ⟨b2, 0, none⟩), .int .i64 0, .int .i64 200] v fun e w' => e = .returned (.tuple #[.string R2, .int .i64 0]) ∧ Below v.heap.size v w' := fun v b2 g2 c2 m2 hv => by
            have := pread_any hv oC 0 200 (by omega)
            rw [hR2, r3] at this
            exact this
          have hap1 : ∀ v, PDev v b g cp m dA → Tab v → Calls Tryz.prog 10 #[.pointer (some ⟨b, 0, none⟩), .agg #[.int .i64 0, .int .i64 200], .int .i64 s, .agg #[.int .i64 2, .int .i64 N, .string (tx (rowAt xs i))]] v fun e w' => e = .returned (.tuple #[.int .i64 HTo, .int .i64 HEr]) ∧ PDev w' b g cp m dF ∧ But b g m v w' := fun v hv ht => by
            have := ptapp_any hv oA (by omega) ht 0 200 s 2 (N : Int) (by omega) (by omega) (tx (rowAt xs i)) (by omega)
            rw [tx_list, hHE, hHT, hdF] at this
            exact this
          have hof := fun v (hv : PDev v b g cp m dF) => poff_any hv oF
          have hbo := fun v (hv : PDev v b g cp m dF.off) (hw : But b g m V0 v) => pboot_any hv oF.off ka kc ks tn ct ((HBO.out v hw).up (HBase.out.below hw).size) HFar.out
          rw [hdL] at hbo
          have hrd3 : ∀ v, PDev v b g cp m dL → Calls Tryz.prog 11 #[.pointer (some ⟨b, 0, none⟩), .int .i64 0, .int .i64 200] v fun e w' => e = .returned (.tuple #[.string R3, .int .i64 0]) ∧ Below v.heap.size v w' := fun v hv => by
            have := pread_any hv oL 0 200 (by omega)
            rw [hR3, r5] at this
            exact this
          have hmx := fun v (hv : Tab v) (B : Bool) (hB : B = true ↔ Mixed left was now s) => mixed_any R3 R1 R2 y3 y1 y2 s (by omega) B (by rw [r6, r2, r4]; exact hB) v hv
          have hld : ∀ v, PDev v b g cp m dL → Tab v → Calls Tryz.prog 17 #[.pointer (some ⟨b, 0, none⟩), .agg #[.int .i64 0, .int .i64 200], .int .i64 2] v fun e w' => ∃ a c, e = .returned (.tuple #[.slice a (scanV left 2).1.length c, .int .i64 ((scanV left 2).2 : Nat), .int .i64 0]) ∧ Txs v.heap.size w'.heap.size w' a (scanV left 2).1 ∧ Below v.heap.size v w' := fun v hv ht => by
            refine (ptload_any hv oL ht 0 200 2 (by omega)).mono fun e w' ⟨a, c, q1, _, q2, q3⟩ => ⟨a, c, ?_, ?_, q3⟩
            · rw [r7, r8] at q1; exact q1
            · rw [r8] at q2; exact q2
          have haw := fun v (hv : Tab v) => awake11 v hv
          have HRS : Hid (Txs 0 w.heap.size V0 a xs) := Lib.hid (HTX.out V0 (But.refl _ _ _ _))
          have HXC : Hid (∀ v, But b g m V0 v → ∃ bl off, a = some ⟨bl, off, none⟩ ∧ v.cell? ⟨bl, off + i, none⟩ = some (.string (tx (rowAt xs i)))) := Lib.hid fun v hv => by
            rcases HTX.out v hv with q | ⟨bl', off', q1, _, _, q2⟩
            · rw [q] at hil; simp at hil
            · exact ⟨bl', off', q1, q2 i hil⟩
          generalize tx (rowAt xs i) = T at *
          have HM := Lib.hid hm
          clear hss t1 t2 t3 t4 t5 z1 z2 z3 r1 r2 r3 r4 r5 r6 r7 r8 r9 hm o1 o3 oA pA oC oF oL hdA hdC hdF hdL hR1 hR2 hR3 hHE hHT hCE hCT hts HO Hs hiN hil hjl y1 y2 y3
          go_upto_region 23 with (go_at_call 11; refine (hrd1 _ HD.out.1).mono ?_; rintro e w3 ⟨rfl, hb3⟩; have HP3 := Lib.hid (HD.out.1.step hb3); have BU3 := Lib.hid (HD.out.2.step hb3); clear hb3)
          clear hrd1 HD
          go_upto_region 24 with (go_at_call 12; refine (hcp _ HP3.out).mono ?_; rintro e w4 ⟨b2, g2, c2, m2, rfl, hq4, h2b, h2g, h2m, hb4⟩; have HP4 := Lib.hid (HP3.out.step hb4); have BU4 := Lib.hid (BU3.out.step hb4); have HQ4 := Lib.hid hq4; have H2 := Lib.hid (And.intro h2b (And.intro h2g h2m)); clear hb4 hq4 h2b h2g h2m)
          clear hcp
          obtain ⟨bl, off, rfl, x0⟩ := HXC.out _ BU4.out
          go_upto_region 25 with fail
          obtain ⟨V1, hV1⟩ : ∃ V, V = w4.alloc (.cells #[.int .i64 2, .int .i64 N, .string T] 39 (0, 0)) := ⟨_, rfl⟩
          have bV : Below w4.heap.size w4 V1 := by rw [hV1]; exact (Below.refl _ w4).alloc (Nat.le_refl _) _
          have zF : V1.heap[w4.heap.size]? = some (.cells #[.int .i64 2, .int .i64 N, .string T] 39 (0, 0)) := by rw [hV1]; exact heap_alloc_new w4 _
          rw [← hV1]
          have l1 := HP4.out.lt
          have l2 := HQ4.out.lt
          have l3 := H2.out
          have l4 := HP3.out.lt
          have l5 := BU3.out.size
          have l6 := HLT.out
          have HNE : Hid (∀ x, x = b2 ∨ x = g2 ∨ x = m2 → x ≠ b ∧ x ≠ g ∧ x ≠ m) := Lib.hid (by rintro x (rfl | rfl | rfl) <;> omega)
          have HNE2 : Hid (∀ x, x = b ∨ x = g ∨ x = m → x ≠ b2 ∧ x ≠ g2 ∧ x ≠ m2) := Lib.hid (by rintro x (rfl | rfl | rfl) <;> omega)
          have HKF : Hid ((w4.heap.size ≠ b ∧ w4.heap.size ≠ g ∧ w4.heap.size ≠ m) ∧ (w4.heap.size ≠ b2 ∧ w4.heap.size ≠ g2 ∧ w4.heap.size ≠ m2)) := Lib.hid (by omega)
          have HV2 : Hid (V0.heap.size ≤ b2 ∧ V0.heap.size ≤ g2 ∧ V0.heap.size ≤ m2) := Lib.hid (by omega)
          have HP5 := Lib.hid (HP4.out.step bV)
          have HQ5 := Lib.hid (HQ4.out.step bV)
          have BU5 := Lib.hid (BU4.out.step bV)
          have ZF5 := Lib.hid zF
          obtain ⟨kf, hkf⟩ : ∃ k, w4.heap.size = k := ⟨_, rfl⟩
          simp only [hkf] at HKF ZF5 ⊢
          clear hV1 bV zF l1 l2 l3 l4 l5 l6 hkf x0 HP3 BU3 HP4 BU4 HQ4 H2
          obtain ⟨c0, c1, c2', c3⟩ := HCH.out _ BU5.out
          go_upto_region 27 with (go_at_call 13; refine (hram _ HP5.out).mono ?_; rintro e w6 ⟨rfl, hp6, hb6⟩; have HP6 := Lib.hid hp6; have HQ6 := Lib.hid (HQ5.out.aside hb6 HNE.out); have ZF6 := Lib.hid (hb6.obj ZF5.out HKF.out.1.1 HKF.out.1.2.1 HKF.out.1.2.2); have BU6 := Lib.hid (BU5.out.trans hb6); clear hp6 hb6)
          clear c0 c1 c2' c3 hram HP5 HQ5 ZF5 BU5
          obtain ⟨q0, q1⟩ := HAR.out _ BU6.out
          obtain ⟨k0, k1, k2, _, _, _⟩ := three_cells ZF6.out
          go_upto_region 28 with (go_at_call 10; refine (hap2 _ _ _ _ _ HQ6.out (HTab.out _ BU6.out)).mono ?_; rintro e w7 ⟨rfl, hq7, hb7⟩; have HQ7 := Lib.hid hq7; have HP7 := Lib.hid (HP6.out.aside hb7 HNE2.out); have ZF7 := Lib.hid (hb7.obj ZF6.out HKF.out.2.1 HKF.out.2.2.1 HKF.out.2.2.2); have BU7 := Lib.hid (BU6.out.over11 hb7 HV2.out.1 HV2.out.2.1 HV2.out.2.2); clear hq7 hb7)
          clear q0 q1 k0 k1 k2 hap2 HP6 HQ6 ZF6 BU6
          go_upto_region 29 with (go_at_call 11; refine (hrd2 _ _ _ _ _ HQ7.out).mono ?_; rintro e w8 ⟨rfl, hb8⟩; have HP8 := Lib.hid (HP7.out.step hb8); have ZF8 := Lib.hid (old_obj hb8 ZF7.out); have BU8 := Lib.hid (BU7.out.step hb8); clear hb8)
          clear hrd2 HP7 HQ7 ZF7 BU7
          obtain ⟨q0, q1⟩ := HAR.out _ BU8.out
          obtain ⟨k0, k1, k2, _, _, _⟩ := three_cells ZF8.out
          go_upto_region 30 with (go_at_call 10; refine (hap1 _ HP8.out (HTab.out _ BU8.out)).mono ?_; rintro e w9 ⟨rfl, hp9, hb9⟩; have HP9 := Lib.hid hp9; have BU9 := Lib.hid (BU8.out.trans hb9); clear hp9 hb9)
          clear q0 q1 k0 k1 k2 hap1 HP8 ZF8 BU8
          go_upto_region 31 with (go_at_call 14; refine (hof _ HP9.out).mono ?_; rintro e w10 ⟨rfl, hp10, hb10⟩; have HP10 := Lib.hid hp10; have BU10 := Lib.hid (BU9.out.trans hb10); clear hp10 hb10)
          clear hof HP9 BU9
          obtain ⟨c0, c1, c2', c3⟩ := HCH.out _ BU10.out
          go_upto_region 33 with (go_at_call 15; refine (hbo _ HP10.out BU10.out).mono ?_; rintro e w11 ⟨rfl, hp11, hb11⟩; have HP11 := Lib.hid hp11; have BU11 := Lib.hid (BU10.out.trans hb11); clear hp11 hb11)
          clear c0 c1 c2' c3 hbo HP10 BU10
          go_upto_region 34 with (go_at_call 11; refine (hrd3 _ HP11.out).mono ?_; rintro e w12 ⟨rfl, hb12⟩; have HP12 := Lib.hid (HP11.out.step hb12); have BU12 := Lib.hid (BU11.out.step hb12); clear hb12)
          clear hrd3 HP11 BU11
          by_cases hmi : Mixed left was now s
          · have hmx2 := fun v hv => hmx v hv true ⟨fun _ => hmi, fun _ => rfl⟩
            clear hmx hmi hld
            go_wp2_with (first
              | (go_at_call 16; refine (hmx2 _ (HTab.out _ BU12.out)).mono ?_; rintro e w13 ⟨rfl, hb13⟩; have BU13 := Lib.hid (BU12.out.step hb13); clear hb13)
              | (go_at_call 5; refine (haw _ (HTab.out _ BU13.out)).mono ?_; rintro e w14 ⟨rfl, hb14⟩; have BU14 := Lib.hid (BU13.out.step hb14); clear hb14))
            go_ret
            exact ⟨rfl, HBase.out.below BU14.out⟩
          · have hmx2 := fun v hv => hmx v hv false ⟨fun h => absurd h (by decide), fun h => absurd h hmi⟩
            have hor := HM.out hmi
            clear hmx hmi HM
            go_upto_region 36 with (go_at_call 16; refine (hmx2 _ (HTab.out _ BU12.out)).mono ?_; rintro e w13 ⟨rfl, hb13⟩; have BU13 := Lib.hid (BU12.out.step hb13); have HP13 := Lib.hid (HP12.out.step hb13); clear hb13)
            clear hmx2 HP12 BU12
            obtain ⟨q0, q1⟩ := HAR.out _ BU13.out
            rcases hor with ⟨h1, h2⟩ | h1
            · have hle : (xs.take i).length = i := by rw [List.length_take]; have := HNN.out; omega
              rw [h1, hle] at hld
              have e5 : (HEr == 0) = false := by simpa using h2
              have e6 : ((i : Int) != (i : Int)) = false := by simp
              have HXT : Hid (∀ v, But b g m V0 v → Txs 0 w.heap.size v (some ⟨bl, off, none⟩) (xs.take i)) := Lib.hid fun v hv => by
                have := HTX.out v hv
                rw [← List.take_append_drop i xs] at this
                exact this.short
              have hsame := fun (v : World) (a2 : Option Addr) (A2 B2 c2 : Nat) (hv : Txs A2 B2 v a2 (xs.take i)) (hv2 : Txs 0 w.heap.size v (some ⟨bl, off, none⟩) (xs.take i)) => same_txs a2 (some ⟨bl, off, none⟩) A2 0 B2 w.heap.size c2 cap (xs.take i) (by omega) v hv hv2
              rw [hle] at hsame
              have i5 : (i : Int) ≤ (cap : Int) := by omega
              have i6 : i ≤ cap := by omega
              clear h1 h2 hle
              go_upto_region 37 with (go_at_call 17; refine (hld _ HP13.out (HTab.out _ BU13.out)).mono ?_; rintro e w14 ⟨a5, c5, rfl, hx5, hb14⟩; have BU14 := Lib.hid (BU13.out.step hb14); have HX5 := Lib.hid hx5; clear hx5 hb14)
              clear q0 q1 hld
              go_wp2_with (first
                | (go_at_call 18; refine (hsame _ _ _ _ _ HX5.out (HXT.out _ BU14.out)).mono ?_; rintro e w15 ⟨rfl, hb15⟩; have BU15 := Lib.hid (BU14.out.step hb15); clear hb15)
                | (go_at_call 5; refine (haw _ (HTab.out _ BU15.out)).mono ?_; rintro e w16 ⟨rfl, hb16⟩; have BU16 := Lib.hid (BU15.out.step hb16); clear hb16))
              go_ret
              exact ⟨rfl, HBase.out.below BU16.out⟩
            · rw [h1, HNN.out] at hld
              have e6 : ((N : Int) != (N : Int)) = false := by simp
              have e7 : ((N : Int) != (i : Int)) = true := by rw [bne_iff_ne]; have := HJ.out; omega
              have hsame := fun (v : World) (a2 : Option Addr) (A2 B2 c2 : Nat) (hv : Txs A2 B2 v a2 xs) (hv2 : Txs 0 w.heap.size v (some ⟨bl, off, none⟩) xs) => same_txs a2 (some ⟨bl, off, none⟩) A2 0 B2 w.heap.size c2 cap xs (by have := HNN.out; omega) v hv hv2
              rw [HNN.out] at hsame
              have i5 : (N : Int) ≤ (cap : Int) := by omega
              clear h1
              go_upto_region 37 with (go_at_call 17; refine (hld _ HP13.out (HTab.out _ BU13.out)).mono ?_; rintro e w14 ⟨a5, c5, rfl, hx5, hb14⟩; have BU14 := Lib.hid (BU13.out.step hb14); have HX5 := Lib.hid hx5; clear hx5 hb14)
              clear q0 q1 hld
              by_cases hz : HEr = 0
              · have e5 : (HEr == 0) = true := by simpa using hz
                clear hz
                go_wp2_with (first
                  | (go_at_call 18; refine (hsame _ _ _ _ _ HX5.out (HTX.out _ BU14.out)).mono ?_; rintro e w15 ⟨rfl, hb15⟩; have BU15 := Lib.hid (BU14.out.step hb15); clear hb15)
                  | (go_at_call 5; refine (haw _ (HTab.out _ BU15.out)).mono ?_; rintro e w16 ⟨rfl, hb16⟩; have BU16 := Lib.hid (BU15.out.step hb16); clear hb16))
                go_ret
                exact ⟨rfl, HBase.out.below BU16.out⟩
              · have e5 : (HEr == 0) = false := by simpa using hz
                clear hz
                go_wp2_with (first
                  | (go_at_call 18; refine (hsame _ _ _ _ _ HX5.out (HTX.out _ BU14.out)).mono ?_; rintro e w15 ⟨rfl, hb15⟩; have BU15 := Lib.hid (BU14.out.step hb15); clear hb15)
                  | (go_at_call 5; refine (haw _ (HTab.out _ BU15.out)).mono ?_; rintro e w16 ⟨rfl, hb16⟩; have BU16 := Lib.hid (BU15.out.step hb16); clear hb16))
                go_ret
                exact ⟨rfl, HBase.out.below BU16.out⟩
end Go.Proofs.YtdomcgbfpinpoaaGreatDoor
