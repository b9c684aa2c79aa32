/- The walk of VaultKeeps, where the acts are few. -/
import Derived.Test.YtcbmecpeockdeaaGreatDoorVJ12
namespace Go.Proofs.YtcbmecpeockdeaaGreatDoor
open Go.RowKit Go.Maps

theorem own_txs {w : World} {B k c : Nat} {a : Option Addr} {bs : List (List UInt8)} (h : w.ownsRow B 9 1 (.slice a k c) k (txCells bs)) (hk : bs.length = k) : Txs B w.heap.size w a bs := by
  subst hk
  obtain ⟨a', c', hv, _, hx⟩ := txs_own h
  injection hv with hv _ _
  subst hv
  exact hx
set_option maxRecDepth 100000 in
set_option maxHeartbeats 8000000 in
theorem vaultKeeps_main (w : World) (tab : Tab w) (q : Option Addr) (cap : Nat) (l : List AW) (hA : ActsW w.heap.size w q l) (ka : Option Addr) (kc : Nat) (ks : List Bool) (tn ct : Int) (hK : Bools w.heap.size w ka ks) (hfe : fewW l = true) (hks : ks.length ≤ 3000) :
    Calls Tryz.prog 4 #[.slice q l.length cap, .agg #[.slice ka ks.length kc, .int .i64 tn, .int .i64 ct]] w fun e w' => e = .returned (.bool true) ∧ Below w.heap.size w w' := by
  obtain ⟨hl40, hfa⟩ := fewW_at hfe
  have e3 : decide (3000 < (ks.length : Int)) = false := decide_eq_false (by omega)
  have e3' : decide (3000 < ks.length) = false := decide_eq_false (by omega)
  obtain ⟨W, hW⟩ : ∃ W, W = w.alloc (.cells #[.slice ka ks.length kc, .int .i64 tn, .int .i64 ct] 39 (0, 0)) := ⟨_, rfl⟩
  have hB0 : Below w.heap.size w W := by rw [hW]; exact (Below.refl _ w).alloc (Nat.le_refl _) _
  have hN0 : W.heap[w.heap.size]? = some (.cells #[.slice ka ks.length kc, .int .i64 tn, .int .i64 ct] 39 (0, 0)) := by rw [hW]; exact heap_alloc_new w _
  have hs0 : W.heap.size = w.heap.size + 1 := by rw [hW]; simp
  have hfw := fewW_any q cap l W ((hA.below hB0).up (by omega))
  rw [hfe] at hfw
  obtain ⟨d0, V1, hd0, ok0, op0, le0, oe, oi, ov, kp1⟩ := kp_start
  have hnew := fun u : World => (by
    have := pnew_any 120 (by omega) (by omega) u
    rw [show Dv.new (120 : Int).toNat = d0 from hd0.symm] at this
    exact this : Calls Tryz.prog 15 #[.int .i64 120] u fun e w' => ∃ b g cap m, e = .returned (.tuple #[.pointer (some ⟨b, 0, none⟩), .int .i64 0]) ∧ PDev w' b g cap m d0 ∧ u.heap.size ≤ b ∧ u.heap.size ≤ g ∧ u.heap.size ≤ m ∧ Below u.heap.size u w')
  have hop1 : ∀ (v : World) (b g cap m : Nat), PDev v b g cap m d0 → Tab v → Calls Tryz.prog 13 #[.pointer (some ⟨b, 0, none⟩), .int .i64 10, .string ⟨#[102, 105, 114, 115, 116]⟩] v fun e w' => ∃ a, e = .returned (.tuple #[.pointer (some ⟨a, 0, none⟩), .string (tx firstL), .slice none 0 0, .int .i64 0]) ∧ PV w' a b g cap m V1 ∧ v.heap.size ≤ a ∧ But b g m v w' := fun v b g cap m hv ht => by
    have := vopen_first hv ok0 (by omega) ht 10 ⟨by omega, by omega, by omega⟩ ⟨#[102, 105, 114, 115, 116]⟩ (by decide) oi oe
    rw [show (⟨#[102, 105, 114, 115, 116]⟩ : ByteArray).data.toList = firstL from rfl, ov] at this
    exact this
  have HA := Lib.hid hA
  have HK := Lib.hid hK
  have HT := Lib.hid tab
  have HB0 := Lib.hid hB0
  have HN0 := Lib.hid hN0
  have HS0 := Lib.hid hs0
  have HKP := Lib.hid kp1
  have HFA := Lib.hid hfa
  obtain ⟨c0, c1, c2, _, _, _⟩ := three_cells hN0
  clear hA hK tab hB0 hN0 hs0 kp1 hfa hfe hks hd0 ok0 op0 le0 oe oi ov
  go_enter Tryz.func4, Tryz.ntmps4
  go_upto_region 1 with fail
  rw [← hW]
  clear hW
  go_upto_region 3 with (go_at_call 14; refine hfw.mono ?_; rintro e w1 ⟨rfl, hb1⟩; have B1 := Lib.hid hb1; have HN1 := Lib.hid (old_obj hb1 HN0.out); obtain ⟨c0, c1, c2, _, _, _⟩ := three_cells HN1.out; clear hb1)
  go_upto_region 6 with (go_at_call 15; refine (hnew _).mono ?_; rintro e w2 ⟨b, g, cp, m, rfl, hp, hb, hg, hm, hb2⟩; have HP2 := Lib.hid hp; have B2 := Lib.hid hb2; have HBGM := Lib.hid (And.intro hb (And.intro hg hm)); have HN2 := Lib.hid (old_obj hb2 HN1.out); clear hp hb2 hb hg hm)
  have b2 : Hid (Below w.heap.size w w2) := Lib.hid (HB0.out.trans ((B1.out.mono (by have := HS0.out; omega)).trans (B2.out.mono (by have := HS0.out; have := B1.out.size; omega))))
  clear c0 c1 c2
  go_upto_region 9 with (go_at_call 13; refine (hop1 _ _ _ _ _ HP2.out (HT.out.below b2.out)).mono ?_; rintro e V0 ⟨a, rfl, hp, ha, hb3⟩; have HP0 := Lib.hid hp; have B3 := Lib.hid hb3; have HNA := Lib.hid ha; clear hp hb3 ha)
  have HBase : Hid (Base12 w V0 a b g m) := Lib.hid (by
    have h1 := HS0.out
    have h2 := B1.out.size
    have h3 := HBGM.out
    have h4 := HNA.out
    have h5 := B2.out.size
    have h6 := HP0.out.lt
    have h7 := HP0.out.dev.lt
    exact ⟨b2.out.trans (B3.out.below (by omega) (by omega) (by omega) (by omega)), by omega, by omega, by omega, by omega, h6, h7.1, h7.2.1, h7.2.2⟩)
  have HCH : Hid (∀ v, Buts a b g m V0 v → v.cell? ⟨w.heap.size, 0, none⟩ = some (.slice ka ks.length kc) ∧ v.cell? ⟨w.heap.size, 1, none⟩ = some (.int .i64 tn) ∧ v.cell? ⟨w.heap.size, 2, none⟩ = some (.int .i64 ct)) := Lib.hid fun v hv => by
    have hB := HBase.out
    have h1 := hB.ha; have h2 := hB.hb; have h3 := hB.hg; have h4 := hB.hm
    have z3 := B3.out.obj HN2.out (by omega) (by omega) (by omega)
    obtain ⟨q0, q1, q2, _⟩ := three_cells (hv.obj z3 (by omega) (by omega) (by omega) (by omega))
    exact ⟨q0, q1, q2⟩
  have HAC : Hid (∀ v, Buts a b g m V0 v → ActsW w.heap.size v q l) := Lib.hid fun v hv => HA.out.below (HBase.out.below hv)
  have HTab : Hid (∀ v, Buts a b g m V0 v → Tab v) := Lib.hid fun v hv => HT.out.below (HBase.out.below hv)
  have HBO : Hid (∀ v, Buts a b g m V0 v → Bools w.heap.size v ka ks) := Lib.hid fun v hv => HK.out.below (HBase.out.below hv)
  have HFar : Hid (Far ka ks b g m) := Lib.hid (far_of12 HK.out (by have := HBase.out.hb; omega) (by have := HBase.out.hg; omega) (by have := HBase.out.hm; omega))
  have BU0 := Lib.hid (Buts.refl a b g m V0)
  obtain ⟨n, hn⟩ : ∃ n, l.length = n := ⟨_, rfl⟩
  have HNN := Lib.hid hn
  have hn40 : n ≤ 40 := by omega
  rw [hn]
  clear hn hl40 B1 HN1 HP2 B2 HBGM HN2 B3 HNA b2 HB0 HN0 HS0 HA HK HT hop1 hnew hfw e3 e3'
  go_wp2
  go_loopw [8, 9, 11] (fun s8 s9 s11 wr => ∃ (i : Nat) (V : Vt) (X : List UInt8) (a9 : Option Addr) (c9 : Nat) (bs : List (List UInt8)) (k : Nat), s8 = .string (tx X) ∧ s9 = .slice a9 k c9 ∧ s11 = .int .i64 i ∧ i ≤ n ∧ Hid (bs.length = k) ∧ Hid (PV wr a b g cp m V ∧ Buts a b g m V0 wr) ∧ Hid (Kp12 V X bs i) ∧ Hid (wr.ownsRow V0.heap.size 9 1 (.slice a9 k c9) k (txCells bs))) (fun _ _ i _ => n - (intOf i).toNat)
  case atStart => exact ⟨0, V1, firstL, none, 0, [], 0, rfl, rfl, rfl, by omega, Lib.hid rfl, Lib.hid ⟨HP0.out, BU0.out⟩, HKP, Lib.hid (World.ownsRow_nil _ _ _ _)⟩
  case round =>
    clear HP0 BU0 HKP
    obtain ⟨i, V, X, a9, c9, bs, k, rfl, rfl, rfl, hi, Hk, HD, HKP, HO⟩ := hrel
    by_cases hlt : i < n
    · have i1 : (i : Int) < (n : Int) := by omega
      have i3 : (0 : Int) ≤ (i : Int) := by omega
      have iw : IntKind.i64.wrap ((i : Int) + 1) = (i : Int) + 1 := IntWalk.i64_in _ (by omega)
      have hil : i < l.length := by have := HNN.out; omega
      obtain ⟨bl, off, rfl, hbl, hc, hG⟩ := (HAC.out wr HD.out.2).at hil
      have hts := fewW_text (HFA.out i hil)
      have c0 : wr.cell? ⟨bl, off + i * 9, none⟩ = some (Value.int .i64 (actW l i).kind) := hc 0 (by omega)
      have c1 := hc 1 (by omega)
      change _ = some (Value.string (actW l i).text) at c1
      have HC1 : Hid (∀ v, Buts a b g m V0 v → v.cell? ⟨bl, off + i * 9 + 1, none⟩ = some (.string (actW l i).text)) := Lib.hid fun v hv => by
        obtain ⟨bl', off', q1, _, q3, _⟩ := (HAC.out v hv).at hil
        injection q1 with q1
        injection q1 with q4 q5
        subst q4; subst q5
        exact q3 1 (by omega)
      generalize actW l i = A at *
      obtain ⟨L, hL⟩ : ∃ L, A.text = tx L := ⟨A.text.data.toList, tx_of rfl⟩
      have hLl : L.length ≤ 3100 := by rw [hL, tx_size] at hts; exact hts
      rw [hL] at c1 HC1
      have hkp := HKP.out
      have hok := hkp.kept.ok hkp.ok
      have hops := hkp.ops
      have hts2 : (tx L).size ≤ 281474976710656 := by rw [tx_size]; omega
      have hfewk := hkp.few
      have hkk := Hk.out
      by_cases q1 : A.kind = 100
      · have d1 : (A.kind == 100) = true := beq_iff_eq.2 q1
        have hap := vappend_any HD.out.1 hok (by omega) (HTab.out _ HD.out.2) (tx L) hts2
        rw [tx_list] at hap
        rcases hkp.append L hLl with ⟨e1, e2⟩ | ⟨e1, e2, e3⟩
        · rw [e1] at hap
          have HK2 := Lib.hid e2
          have hbs : (bs ++ [L]).length = k + 1 := by rw [List.length_append, hkk]; rfl
          have HBS := Lib.hid hbs
          have HLK : Hid ((k + 1) * 16 ≤ 140737488355328) := Lib.hid (by omega)
          clear q1 e1 e2 hc hG hts hLl hkp hok hops hts2 hfewk hkk hbs hL hil
          go_upto_region 15 with (go_at_call 6; refine hap.mono ?_; rintro e w3 ⟨rfl, hp, hb⟩; have HP3 := Lib.hid hp; have HB3 := Lib.hid (HD.out.2.trans hb); have HO3 := Lib.hid (own_buts HO.out hb HBase.out.la HBase.out.lb HBase.out.lg HBase.out.lm); clear hp hb)
          have c3 := HC1.out _ HB3.out
          clear c0 c1 hap
          go_wp2_with (at_builtin; refine append_tx rfl _ _ rfl V0.heap.size k _ (txCells bs) rfl HO3.out (tx L) _ rfl ?c3 ?c4 ?c2 ?_)
          case c2 => exact HB3.out.size
          case c3 => rfl
          case c4 => exact HLK.out
          intro v' w4 ho4 hg4
          rw [txCells_more, ← HBS.out] at ho4
          obtain ⟨a', cap', hv, _, _⟩ := txs_own ho4
          subst hv
          rw [HBS.out] at ho4 ⊢
          have hb0 := HBase.out
          have hrow : ∀ r, (Value.slice a9 k c9).ownBlock = some r → V0.heap.size ≤ r := fun r hr => (HO3.out.lt r hr).1
          have hb4 : Hid (Buts a b g m V0 w4) := Lib.hid ((HB3.out.step ((Below.refl _ w3).alloc (Nat.le_refl _) _)).grown hg4 hrow)
          have hal : Below w3.heap.size w3 (w3.alloc (.cells #[.string (tx L)] 9)) := (Below.refl _ w3).alloc (Nat.le_refl _) _
          have hp5 := HP3.out.step hal
          have hl5 := hp5.lt
          have hl6 := hp5.dev.lt
          have hp4 : Hid (PV w4 a b g cp m (V.append L)) := Lib.hid (hp5.kept (hg4.block a hl5 (fun e => by have := hrow a e.symm; have := hb0.la; omega)) (hg4.block b hl6.1 (fun e => by have := hrow b e.symm; have := hb0.lb; omega)) (hg4.block g hl6.2.1 (fun e => by have := hrow g e.symm; have := hb0.lg; omega)) (hg4.block m hl6.2.2 (fun e => by have := hrow m e.symm; have := hb0.lm; omega)))
          have HO4 := Lib.hid ho4
          clear hb0 hrow hal hp5 hl5 hl6 ho4 hg4
          go_wp2
          go_roundw
          case rel => exact ⟨i + 1, V.append L, X, a', cap', bs ++ [L], k + 1, rfl, rfl, by go_num, by omega, HBS, Lib.hid ⟨hp4.out, hb4.out⟩, HK2, HO4⟩
          case measure => simp [intOf]; omega
        · have e4 : (V.appR L == 0) = false := beq_eq_false_iff_ne.2 e1
          rw [e2] at hap
          have HK2 := Lib.hid e3
          generalize V.appR L = E at *
          clear q1 e1 e2 e3 hc hG hts hLl hkp hok hops hts2 hfewk hkk hL hil
          go_wp2_with (go_at_call 6; refine hap.mono ?_; rintro e w3 ⟨rfl, hp, hb⟩; have HP3 := Lib.hid hp; have HB3 := Lib.hid (HD.out.2.trans hb); have HO3 := Lib.hid (own_buts HO.out hb HBase.out.la HBase.out.lb HBase.out.lg HBase.out.lm); clear hp hb)
          go_roundw
          case rel => exact ⟨i + 1, V, X, a9, c9, bs, k, rfl, rfl, by go_num, by omega, Hk, Lib.hid ⟨HP3.out, HB3.out⟩, HK2, HO3⟩
          case measure => simp [intOf]; omega
      · have d1 : (A.kind == 100) = false := beq_eq_false_iff_ne.2 q1
        by_cases q2 : A.kind = 101
        · have d2 : (A.kind == 101) = true := beq_iff_eq.2 q2
          have hap := vsnap_any HD.out.1 hok (by omega) (HTab.out _ HD.out.2) (tx L) hts2
          rw [tx_list] at hap
          rcases hkp.snap L with ⟨e1, e2⟩ | ⟨e1, e2, e3⟩
          · rw [e1] at hap
            have HK2 := Lib.hid e2
            clear q1 q2 e1 e2 hc hG hts hLl hkp hok hops hts2 hfewk hkk hL hil
            go_upto_region 18 with (go_at_call 7; refine hap.mono ?_; rintro e w3 ⟨rfl, hp, hb⟩; have HP3 := Lib.hid hp; have HB3 := Lib.hid (HD.out.2.trans hb); clear hp hb)
            have c3 := HC1.out _ HB3.out
            clear c0 c1 hap
            go_wp2
            go_roundw
            case rel => exact ⟨i + 1, V.snap L, L, none, 0, [], 0, rfl, rfl, by go_num, by omega, Lib.hid rfl, Lib.hid ⟨HP3.out, HB3.out⟩, HK2, Lib.hid (World.ownsRow_nil _ _ _ _)⟩
            case measure => simp [intOf]; omega
          · have e4 : (V.snapR L == 0) = false := beq_eq_false_iff_ne.2 e1
            rw [e2] at hap
            have HK2 := Lib.hid e3
            generalize V.snapR L = E at *
            clear q1 q2 e1 e2 e3 hc hG hts hLl hkp hok hops hts2 hfewk hkk hL hil
            go_wp2_with (go_at_call 7; refine hap.mono ?_; rintro e w3 ⟨rfl, hp, hb⟩; have HP3 := Lib.hid hp; have HB3 := Lib.hid (HD.out.2.trans hb); have HO3 := Lib.hid (own_buts HO.out hb HBase.out.la HBase.out.lb HBase.out.lg HBase.out.lm); clear hp hb)
            go_roundw
            case rel => exact ⟨i + 1, V, X, a9, c9, bs, k, rfl, rfl, by go_num, by omega, Hk, Lib.hid ⟨HP3.out, HB3.out⟩, HK2, HO3⟩
            case measure => simp [intOf]; omega
        · have d2 : (A.kind == 101) = false := beq_eq_false_iff_ne.2 q2
          have HK2 : Hid (Kp12 V X bs (i + 1)) := Lib.hid ⟨hkp.ok, hkp.kept, hkp.s10, by omega, by omega⟩
          clear q1 q2 hc hG hts hLl hkp hok hops hts2 hfewk hkk hL hil
          go_wp2
          go_roundw
          case rel => exact ⟨i + 1, V, X, a9, c9, bs, k, rfl, rfl, by go_num, by omega, Hk, HD, HK2, HO⟩
          case measure => simp [intOf]; omega
    · obtain rfl : i = n := by omega
      have hkp := HKP.out
      have hdv := hkp.kept.dev.boot ks tn ct
      rw [hkp.s10] at hdv
      obtain ⟨dB, hdB⟩ : ∃ dB, V.d.off.boot ks tn ct = dB := ⟨_, rfl⟩
      have okB : dB.Ok := by rw [← hdB]; exact hkp.ok.off.boot ks tn ct
      rw [hdB] at hdv
      obtain ⟨z1, z2, z3, z4, z5⟩ := hdv.opened [111, 116, 104, 101, 114]
      have hz6 := hdv.held
      have hkk := Hk.out
      have hfewk := hkp.few
      have hof := poff_any HD.out.1.dev hkp.ok
      have hbo := fun v (hv : PDev v b g cp m V.d.off) (hw : Buts a b g m V0 v) => pboot_any hv hkp.ok.off ka kc ks tn ct ((HBO.out v hw).up (HBase.out.below hw).size) HFar.out
      rw [hdB] at hbo
      have hop : ∀ (v : World), PDev v b g cp m dB → Tab v → Calls Tryz.prog 13 #[.pointer (some ⟨b, 0, none⟩), .int .i64 10, .string ⟨#[111, 116, 104, 101, 114]⟩] v fun e w' => ∃ a2 x c, e = .returned (.tuple #[.pointer (some ⟨a2, 0, none⟩), .string (tx X), .slice x k c, .int .i64 0]) ∧ PV w' a2 b g cp m ⟨dB, 10, V.ep, (k : Int), (sumN bs : Nat), false⟩ ∧ But b g m v w' ∧ Txs v.heap.size w'.heap.size w' x bs := fun v hv ht => by
        have := vopen_again hv okB ht 10 ⟨by omega, by omega, by rw [hz6.2.2.2.2]; omega⟩ ⟨#[111, 116, 104, 101, 114]⟩ hz6.2.1 z1
        rw [show (⟨#[111, 116, 104, 101, 114]⟩ : ByteArray).data.toList = [111, 116, 104, 101, 114] from rfl, z2, z3, z4, hkk] at this
        exact this.mono fun e w' ⟨a2, x, c, y1, y2, _, y4, _, y6⟩ => ⟨a2, x, c, y1, y2, y4, y6⟩
      have hsame := fun (v : World) (a2 : Option Addr) (A2 B2 c2 A3 B3 : Nat) (hv : Txs A2 B2 v a2 bs) (hv2 : Txs A3 B3 v a9 bs) => same_txs a2 a9 A2 A3 B2 B3 c2 c9 bs (by omega) v hv hv2
      rw [hkk] at hsame
      obtain ⟨c0, c1, c2⟩ := HCH.out _ HD.out.2
      obtain ⟨XT, hXT⟩ : ∃ XT, tx X = XT := ⟨_, rfl⟩
      rw [hXT] at hop ⊢
      have dx : (XT.toList == XT.toList) = true := by simp
      have HPV := Lib.hid (show ∀ (v : World), PDev v b g cp m dB → But b g m wr v → PV v a b g cp m { V with d := dB } from fun v hp hb => HD.out.1.call hp hb)
      generalize hEP : V.ep = EP at *
      generalize hSN : sumN bs = SN at *
      have HEV := Lib.hid hEP
      clear hkp hdv hdB okB z1 z2 z3 z4 z5 hz6 hkk hfewk hXT hEP hSN hlt
      go_upto_region 20 with (go_at_call 16; refine hof.mono ?_; rintro e w3 ⟨rfl, hp3, hb3⟩; have HP3 := Lib.hid hp3; have BU3 := Lib.hid (HD.out.2.trans (Buts.of_but hb3)); have BD3 := Lib.hid hb3; clear hp3 hb3)
      clear c0 c1 c2 hof
      obtain ⟨c0, c1, c2⟩ := HCH.out _ BU3.out
      go_upto_region 21 with (go_at_call 17; refine (hbo _ HP3.out BU3.out).mono ?_; rintro e w4 ⟨rfl, hp4, hb4⟩; have HP4 := Lib.hid hp4; have BU4 := Lib.hid (BU3.out.trans (Buts.of_but hb4)); have BD4 := Lib.hid (BD3.out.trans hb4); clear hp4 hb4)
      clear c0 c1 c2 hbo
      go_upto_region 22 with (go_at_call 13; refine (hop _ HP4.out (HTab.out _ BU4.out)).mono ?_; rintro e w5 ⟨a2, x5, c5, rfl, hp5, hb5, hx5⟩; have HP5 := Lib.hid hp5; have BU5 := Lib.hid (BU4.out.trans (Buts.of_but hb5)); have BD5 := Lib.hid (BD4.out.trans hb5); have HX5 := Lib.hid hx5; clear hp5 hb5 hx5)
      have HX9 := Lib.hid (own_txs (own_buts HO.out (Buts.of_but BD5.out) HBase.out.la HBase.out.lb HBase.out.lg HBase.out.lm) Hk.out)
      have HA5 := Lib.hid (HPV.out _ HP5.out.dev BD5.out)
      have he1 := fun (v : World) (hv : PV v a2 b g cp m ⟨dB, 10, EP, (k : Int), (SN : Nat), false⟩) => (vepoch_any hv : Calls Tryz.prog 10 #[.pointer (some ⟨a2, 0, none⟩)] v fun e w' => e = .returned (.int .i64 EP) ∧ v = w')
      have he2 := fun (v : World) (hv : PV v a b g cp m { d := dB, s := V.s, ep := EP, sq := V.sq, p := V.p, shut := V.shut }) => (vepoch_any hv : Calls Tryz.prog 10 #[.pointer (some ⟨a, 0, none⟩)] v fun e w' => e = .returned (.int .i64 EP) ∧ v = w')
      have hsq := fun (v : World) (hv : PV v a2 b g cp m ⟨dB, 10, EP, (k : Int), (SN : Nat), false⟩) => (vseq_any hv : Calls Tryz.prog 11 #[.pointer (some ⟨a2, 0, none⟩)] v fun e w' => e = .returned (.int .i64 (k : Int)) ∧ v = w')
      clear hop
      go_wp2_with (first
        | (go_at_call 18; refine (hsame _ _ _ _ _ _ _ HX5.out HX9.out).mono ?_; rintro e w6 ⟨rfl, hb6⟩; have HP6 := Lib.hid (HP5.out.step hb6); have HA6 := Lib.hid (HA5.out.step hb6); have BU6 := Lib.hid (BU5.out.step hb6); clear hb6)
        | (go_at_call 10; refine (he1 _ HP6.out).mono ?_; rintro e w7 ⟨rfl, rfl⟩; clear he1)
        | (go_at_call 10; refine (he2 _ HA6.out).mono ?_; rintro e w8 ⟨rfl, rfl⟩)
        | (go_at_call 11; refine (hsq _ HP6.out).mono ?_; rintro e w9 ⟨rfl, rfl⟩)
        | (go_at_call 5; refine (awake12 _ (HTab.out _ BU6.out)).mono ?_; rintro e w10 ⟨rfl, hb10⟩; have BU10 := Lib.hid (BU6.out.step hb10); clear hb10))
      go_ret
      exact ⟨rfl, HBase.out.below BU10.out⟩
end Go.Proofs.YtcbmecpeockdeaaGreatDoor
namespace Go.Proofs.YtcbmecpeockdeaaGreatDoor
open Go.RowKit Go.Maps

set_option maxRecDepth 100000 in
set_option maxHeartbeats 2000000 in
theorem vaultKeeps_walk (w : World) (tab : Tab w) (q : Option Addr) (cap : Nat) (l : List AW) (_hm : l.length ≤ maxLen) (hA : ActsW w.heap.size w q l) (ka : Option Addr) (kc : Nat) (ks : List Bool) (tn ct : Int) (hK : Bools w.heap.size w ka ks) (_hl : ks.length ≤ maxLen) :
    Calls Tryz.prog 4 #[.slice q l.length cap, .agg #[.slice ka ks.length kc, .int .i64 tn, .int .i64 ct]] w fun e w' => e = .returned (.bool true) ∧ Below w.heap.size w w' := by
  by_cases hall : fewW l = true ∧ ks.length ≤ 3000
  · exact vaultKeeps_main w tab q cap l hA ka kc ks tn ct hK hall.1 hall.2
  obtain ⟨W, hW⟩ : ∃ W, W = w.alloc (.cells #[.slice ka ks.length kc, .int .i64 tn, .int .i64 ct] 39 (0, 0)) := ⟨_, rfl⟩
  have hB0 : Below w.heap.size w W := by rw [hW]; exact (Below.refl _ w).alloc (Nat.le_refl _) _
  have hN0 : W.heap[w.heap.size]? = some (.cells #[.slice ka ks.length kc, .int .i64 tn, .int .i64 ct] 39 (0, 0)) := by rw [hW]; exact heap_alloc_new w _
  have hs0 : W.heap.size = w.heap.size + 1 := by rw [hW]; simp
  have hfw := fewW_any q cap l W ((hA.below hB0).up (by omega))
  have HT := Lib.hid tab
  have HB0 := Lib.hid hB0
  have HN0 := Lib.hid hN0
  have HS0 := Lib.hid hs0
  clear hA hK tab hB0 hN0 hs0
  by_cases b1 : fewW l = false
  · rw [b1] at hfw
    clear b1 hall
    go_enter Tryz.func4, Tryz.ntmps4
    go_upto_region 1 with fail
    rw [← hW]
    clear hW
    go_wp2_with (first
      | (go_at_call 14; refine hfw.mono ?_; rintro e w1 ⟨rfl, hb1⟩; have B1 := Lib.hid (HB0.out.trans (hb1.mono HB0.out.size)); clear hb1)
      | (go_at_call 5; refine (awake12 _ (HT.out.below B1.out)).mono ?_; rintro e w2 ⟨rfl, hb2⟩; have B2 := Lib.hid (B1.out.trans (hb2.mono B1.out.size)); clear hb2))
    go_ret
    exact ⟨rfl, B2.out⟩
  · have b2 : fewW l = true := by simpa using b1
    have b3 : ¬ ks.length ≤ 3000 := fun h => hall ⟨b2, h⟩
    have e3 : decide (3000 < (ks.length : Int)) = true := decide_eq_true (by omega)
    have e3' : decide (3000 < ks.length) = true := decide_eq_true (by omega)
    rw [b2] at hfw
    clear b1 b2 b3 hall
    go_enter Tryz.func4, Tryz.ntmps4
    go_upto_region 1 with fail
    rw [← hW]
    clear hW
    go_wp2_with (first
      | (go_at_call 14; refine hfw.mono ?_; rintro e w1 ⟨rfl, hb1⟩; have B1 := Lib.hid (HB0.out.trans (hb1.mono HB0.out.size)); obtain ⟨c0, c1, c2, _, _, _⟩ := three_cells (old_obj hb1 HN0.out); clear hb1)
      | (go_at_call 5; refine (awake12 _ (HT.out.below B1.out)).mono ?_; rintro e w2 ⟨rfl, hb2⟩; have B2 := Lib.hid (B1.out.trans (hb2.mono B1.out.size)); clear hb2))
    go_ret
    exact ⟨rfl, B2.out⟩
end Go.Proofs.YtcbmecpeockdeaaGreatDoor
